/-
  The walk of PackReads.
-/
import Derived.Test.YtfobiojeekcgeaaArgs
import Derived.Test.YtfobiojeekcgeaaDoes
import Derived.Deep.QuietTactic
import Derived.BigQuiet
namespace Go.Proofs.Ytfobiojeekcgeaa.packReads
open Go.RowKit

/-- A slice of operations: each is two numbers. -/
def OpsAt (w : World) (a : Option Addr) (len : Nat) : Prop :=
  ∀ k, k < len → ∃ (b o : Nat) (d n : Int), a = some ⟨b, o, none⟩ ∧ b < w.heap.size ∧ w.cell? ⟨b, o + k * 2, none⟩ = some (.int .i64 d) ∧ w.cell? ⟨b, o + k * 2 + 1, none⟩ = some (.int .i64 n) ∧ -9223372036854775808 ≤ n ∧ n ≤ 9223372036854775807

theorem OpsAt.below {w w' : World} {a : Option Addr} {len : Nat} (h : OpsAt w a len) (hb : Below w.heap.size w w') : OpsAt w' a len := fun k hk => by
  obtain ⟨b, o, d, n, h1, h2, h3, h4, h5⟩ := h k hk
  exact ⟨b, o, d, n, h1, Nat.lt_of_lt_of_le h2 hb.size, (hb.cell (p := ⟨b, o + k * 2, none⟩) h2).trans h3, (hb.cell (p := ⟨b, o + k * 2 + 1, none⟩) h2).trans h4, h5⟩

theorem rdr_grown {w w' : World} {lo g e g' : Nat} {l : List UInt8} (h : Rdr w lo g l e) (hg : w.grownBy w' (some g')) (hne : g < g') : Rdr w' lo g l e := by
  have hlt := h.lt
  obtain ⟨A, c, hh, h1, h2, h3, h4⟩ := h
  exact ⟨A, c, (hg.block g hlt (fun e => by injection e with e; omega)).trans hh, h1, h2, h3, h4.grown hg (by omega) (fun i hi => by injection hi with hi; omega)⟩

theorem frdr_grown {w w' : World} {lo g e g' : Nat} {l : List UInt8} (h : FRdr w lo g l e) (hg : w.grownBy w' (some g')) (hne : g' < lo) (hlo : lo ≤ g) : FRdr w' lo g l e := by
  have hlt := h.lt
  obtain ⟨A, c, hh, h1, h2, h3, h4⟩ := h
  exact ⟨A, c, (hg.block g hlt (fun e => by injection e with e; omega)).trans hh, h1, h2, h3, h4.grown hg (by omega) (fun i hi => by injection hi with hi; omega)⟩

theorem rdr_drewN {w : World} {lo g e : Nat} {l : List UInt8} (h : Rdr w lo g l e) (n : Nat) : Rdr (w.drewN n) lo g l e := h
theorem frdr_drewN {w : World} {lo g e : Nat} {l : List UInt8} (h : FRdr w lo g l e) (n : Nat) : FRdr (w.drewN n) lo g l e := h

set_option maxHeartbeats 4000000 in
set_option maxRecDepth 100000 in
theorem core (a0 a1 : Option Addr) (c0 n1 c1 : Nat) (l0 : List UInt8) (w : World) (hl : l0.length ≤ 65536) (hn : n1 ≤ 200) (hz : a0 = none → c0 = 0) (hr : Rd w 0 w.heap.size a0 l0) (ho : OpsAt w a1 n1) :
    Calls Try.prog 4 #[.slice a0 l0.length c0, .slice a1 n1 c1] w fun e w' => e = .returned (.bool true) ∧ Below w.heap.size w w' := by
  have HR := Lib.hid hr
  have HZ := Lib.hid hz
  have HO := Lib.hid ho
  clear hr hz ho
  go_enter Try.func4, Try.ntmps4
  go_wp2_with fail
  refine (live_any _).mono ?_
  rintro e w1 ⟨rfl, hb1⟩
  have hcv : ∀ c', (convert 25 9 (.slice a0 l0.length c')).run Try.prog w1 = .ok (.string ⟨l0.toArray⟩) w1 := fun c' => conv_ret rfl (HR.out.below hb1 (Nat.le_refl _))
  have HRd := Lib.hid (read_any a0 l0 c0 w1 (by omega) HZ.out ((HR.out.below hb1 (Nat.le_refl _)).wide (Nat.zero_le _) hb1.size))
  go_wp2_with fail
  refine HRd.out.mono ?_
  rintro e w2 ⟨g, rfl, hg, hrd, hb2⟩
  have hb3 : Below w.heap.size w w2 := hb1.trans (hb2.mono hb1.size)
  have hgw : w.heap.size ≤ g := Nat.le_trans hb1.size hg
  have hglt := hrd.lt
  generalize w1.heap.size = lo at hrd
  have HFd := Lib.hid (fRead_any a0 l0 c0 w2 (by omega) HZ.out ((HR.out.below hb3 (Nat.le_refl _)).wide (Nat.zero_le _) hb3.size))
  clear hb1 hb2 hg HRd hcv
  go_wp2_with fail
  refine HFd.out.mono ?_
  rintro e w3 ⟨g', rfl, hg', hfd, hb4⟩
  have hb5 : Below w.heap.size w w3 := hb3.trans (hb4.mono hb3.size)
  have hrd3 := hrd.below hb4 hglt
  have hlo' : g < w2.heap.size := hglt
  generalize w2.heap.size = lo' at *
  clear hb3 hb4 hrd HFd hglt
  go_wp2_with fail
  go_loopw [39] (fun i wr => ∃ (k : Nat) (l : List UInt8) (e : Nat), k ≤ n1 ∧ i = .int .i64 k ∧ Rdr wr lo g l e ∧ FRdr wr lo' g' l e ∧ Below w.heap.size w wr) (fun i _ => n1 - (intOf i).toNat)
  case atStart => exact ⟨0, l0, 0, Nat.zero_le _, rfl, hrd3, hfd, hb5⟩
  case round =>
    clear hrd3 hfd hb5
    obtain ⟨k, l, e, hk, rfl, hrd, hfd, hb⟩ := hrel
    by_cases hlt : k < n1
    · obtain ⟨b, o, d, n, rfl, hbl, cd, cn, hn0, hn1⟩ := (HO.out.below hb) k hlt
      have hgl := hrd.lt
      have hgl' := hfd.lt
      have hba : Below wr.heap.size wr (wr.alloc (.cells #[.int .i64 d, .int .i64 n] 38)) := (Below.refl _ wr).alloc (Nat.le_refl _) _
      have hblk : (wr.alloc (.cells #[.int .i64 d, .int .i64 n] 38)).heap[wr.heap.size]? = some (.cells #[.int .i64 d, .int .i64 n] 38 (0, 0)) := heap_alloc_new wr _
      have hsz : (wr.alloc (.cells #[.int .i64 d, .int .i64 n] 38)).heap.size = wr.heap.size + 1 := by simp
      have HD := Lib.hid (does_any g lo e l d n _ (hrd.below hba hgl) hn0 hn1)
      have hfd1 := hfd.below hba hgl'
      obtain ⟨x, m, f, l', e', hq⟩ : ∃ x m f l' e', opOf l e d n = (x, m, f, l', e') := ⟨_, _, _, _, _, rfl⟩
      have HQ := Lib.hid hq
      rw [hq] at HD
      clear hq
      go_wp2_with fail
      refine HD.out.mono ?_
      rintro y w4 ⟨rfl, hrd4, hgr4⟩
      have hblk4 : w4.heap[wr.heap.size]? = some (.cells #[.int .i64 d, .int .i64 n] 38 (0, 0)) := (hgr4.block _ (by omega) (fun e => by injection e with e; omega)).trans hblk
      have q0 : w4.cell? ⟨wr.heap.size, 0, none⟩ = some (.int .i64 d) := cell_of_row w4 _ 0 _ _ _ hblk4
      have q1 : w4.cell? ⟨wr.heap.size, 1, none⟩ = some (.int .i64 n) := cell_of_row w4 _ 1 _ _ _ hblk4
      have hfd4 := frdr_grown hfd1 hgr4 hlo' hg'
      have HS := Lib.hid (should_any g' lo' e l d n w4 hfd4 hn0 hn1)
      rw [HQ.out] at HS
      have hb6 : Below w.heap.size w w4 := (hb.trans (hba.mono hb.size)).grown hgr4 (by have := hb.size; omega) (fun i hi => by injection hi with hi; omega)
      clear HD hgr4 hfd1 hfd4 hblk4 hblk hrd hfd hba HQ cd cn hsz hb
      go_wp2_with fail
      refine HS.out.mono ?_
      rintro y w5 ⟨rfl, hfd5, hgr5⟩
      have hrd5 := rdr_grown hrd4 hgr5 (by omega)
      have hb7 : Below w.heap.size w w5 := hb6.grown hgr5 hb6.size (fun i hi => by injection hi with hi; omega)
      clear HS hgr5 hrd4 hb6 q0 q1
      change Rdr w5 lo g l' e' at hrd5
      change FRdr w5 lo' g' l' e' at hfd5
      have HRd := Lib.hid hrd5
      have HFd := Lib.hid hfd5
      obtain ⟨A', c', hh, _, _, _, _⟩ := hfd5
      have r0 : w5.cell? ⟨g', 0, none⟩ = some (.slice A' l'.length c') := cell_of_row w5 _ 0 _ _ _ hh
      have r1 : w5.cell? ⟨g', 1, none⟩ = some (.int .i64 e') := cell_of_row w5 _ 1 _ _ _ hh
      clear hh hrd5
      have HLeft : ∀ q, Calls Try.prog 24 #[.pointer (some ⟨g, 0, none⟩)] (w5.drewN q) fun x w' => x = .returned (.int .i64 l'.length) ∧ w' = w5.drewN q := fun q => (left_any g lo e' l' _ (rdr_drewN HRd.out q)).mono fun _ _ ⟨h1, h2⟩ => ⟨h1, h2.symm⟩
      have HErr : ∀ q, Calls Try.prog 25 #[.pointer (some ⟨g, 0, none⟩)] (w5.drewN q) fun x w' => x = .returned (.int .i64 e') ∧ w' = w5.drewN q := fun q => (err_any g lo e' l' _ (rdr_drewN HRd.out q)).mono fun _ _ ⟨h1, h2⟩ => ⟨h1, h2.symm⟩
      have HEnd : ∀ q, Calls Try.prog 26 #[.pointer (some ⟨g, 0, none⟩)] (w5.drewN q) fun x w' => x = .returned (.int .i64 (endOf l' e')) ∧ w' = w5.drewN q := fun q => (end_any g lo e' l' _ (rdr_drewN HRd.out q)).mono fun _ _ ⟨h1, h2⟩ => ⟨h1, h2.symm⟩
      have HFEnd : ∀ q, Calls Try.prog 27 #[.pointer (some ⟨g', 0, none⟩)] (w5.drewN q) fun x w' => x = .returned (.int .i64 (endOf l' e')) ∧ w' = w5.drewN q := fun q => (fEnd_any g' lo' e' l' _ (frdr_drewN HFd.out q)).mono fun _ _ ⟨h1, h2⟩ => ⟨h1, h2.symm⟩
      generalize endOf l' e' = E at *
      have H1 := Lib.hid HLeft
      have H2 := Lib.hid HErr
      have H3 := Lib.hid HEnd
      have H4 := Lib.hid HFEnd
      clear HLeft HErr HEnd HFEnd
      go_wp2_with fail
      go_quiet ((first
        | (go_at_call 24; exact Calls.quiet_of_same (H1.out _))
        | (go_at_call 25; exact Calls.quiet_of_same (H2.out _))
        | (go_at_call 26; exact Calls.quiet_of_same (H3.out _))
        | (go_at_call 27; exact Calls.quiet_of_same (H4.out _))))
      go_wp2
      go_roundw
      case rel => exact ⟨k + 1, l', e', by omega, by go_num, rdr_drewN HRd.out _, frdr_drewN HFd.out _, ⟨hb7.os, hb7.tape, hb7.output, hb7.size, hb7.block⟩⟩
      case measure => simp [intOf]; omega
    · have hcv : ∀ c', (convert 25 9 (.slice a0 l0.length c')).run Try.prog wr = .ok (.string ⟨l0.toArray⟩) wr := fun c' => conv_ret rfl (HR.out.below hb (Nat.le_refl _))
      clear hrd hfd
      go_wp2
      go_ret
      exact ⟨rfl, hb⟩

set_option maxHeartbeats 2000000 in
set_option maxRecDepth 100000 in
theorem walk_long (a0 a1 : Option Addr) (n0 n1 c0 c1 : Nat) (h : 65536 < n0 ∨ (n0 ≤ 65536 ∧ 200 < n1)) (h0 : n0 ≤ 9223372036854775807) (h1 : n1 ≤ 9223372036854775807) (w : World) :
    Calls Try.prog 4 #[.slice a0 n0 c0, .slice a1 n1 c1] w fun e w' => e = .returned (.bool true) ∧ Below w.heap.size w w' := by
  rcases h with h | ⟨h, h'⟩
  all_goals
    go_enter Try.func4, Try.ntmps4
    go_wp2_with fail
    refine (live_any _).mono ?_
    rintro e w1 ⟨rfl, hb1⟩
    go_wp2_with fail
    refine (live_any _).mono ?_
    rintro e w2 ⟨rfl, hb2⟩
    have hb3 : Below w.heap.size w w2 := hb1.trans (hb2.mono hb1.size)
    clear hb1 hb2
    go_wp2
    go_ret
    exact ⟨rfl, hb3⟩

/-- What is known of a slice of operations that came in. -/
def IsOps (w : World) (a : Option Addr) (len : Nat) : Prop :=
  (a = none ∧ len = 0) ∨ ∃ x, a = some x ∧ len ≤ maxLen ∧ ∀ i, i < len → ∃ d n : Int, w.cell? (x.add (i * 2)) = some (.int .i64 d) ∧ w.cell? (x.add (i * 2 + 1)) = some (.int .i64 n) ∧ (Lit.int .i64 n).wf = true

theorem ops_in {w : World} {a : Option Addr} {len : Nat} (h : IsOps w a len) : OpsAt w a len ∧ len ≤ maxLen := by
  rcases h with ⟨rfl, rfl⟩ | ⟨x, rfl, h1, h2⟩
  · exact ⟨fun k hk => by omega, Nat.zero_le _⟩
  · refine ⟨fun k hk => ?_, h1⟩
    obtain ⟨d0, n0, c0, _, _⟩ := h2 0 (by omega)
    obtain ⟨b, o, spot⟩ := x
    have hspot : spot = none := by simpa [Addr.add] using World.cell?_spot c0
    subst hspot
    obtain ⟨d, n, c1, c2, hw⟩ := h2 k hk
    rw [addr_add] at c1 c2
    have hb := bounds_i64 hw
    exact ⟨b, o, d, n, rfl, World.block_lt_of_cell? w _ c1, c1, c2, hb.1, hb.2⟩

theorem walk (a0 : Option Addr) (len0 cap0 : Nat) (z0 : List Int) (a1 : Option Addr) (len1 cap1 : Nat) (w : World) (w0 : IsRow .u8 w a0 len0 cap0 z0) (w1 : IsOps w a1 len1) :
    Calls Try.prog 4 #[.slice a0 len0 cap0, .slice a1 len1 cap1] w fun e w' => e = .returned (.bool true) ∧ Below w.heap.size w w' := by
  obtain ⟨l, rfl, h1, h2, h3, h4⟩ := bytes_in w0
  obtain ⟨ho, hm⟩ := ops_in w1
  unfold maxLen at h2 hm
  by_cases h : l.length ≤ 65536 ∧ len1 ≤ 200
  · exact core a0 a1 cap0 len1 cap1 l w h.1 h.2 h3 h4 ho
  · exact walk_long a0 a1 l.length len1 cap0 cap1 (by omega) (by omega) (by omega) w

end Go.Proofs.Ytfobiojeekcgeaa.packReads
