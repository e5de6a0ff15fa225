import Derived.Test.YtooegjdppeiccaaZC30
import Derived.BigQuiet
import Derived.RegionTactic
import Derived.Laws.Cover3
/-
  The developers' store: what only reads: made, Now, Latest, Read, Chain, Count, has, brings, holds.
-/
namespace Go.Proofs.Ytooegjdppeiccaa
open Go.RowKit

section
variable {w : World} {p : Nat} {F D : Nat → Prop} {B : Nat} {kv : Value} {cv : KeyS → Value} {L : LimS} {m r v : Int} {now : Nat} {g : KeyS → List Ver} {ks : List KeyS} {z : Sz}
set_option maxRecDepth 100000 in
theorem dMade_any (h : RawS w p F D B kv cv L m r v now g ks z) : Calls Try.prog 70 #[ptrS p] w fun e w' => e = .returned (.bool true) ∧ w' = w := by
  have c8 := h.map_
  have hne := fun (w : World) (m : Option Nat) => run_neq_map_nil (P := Try.prog) w 90 _ _ m Try.underlying90
  clear h
  unfold ptrS
  go_enter Try.func70, Try.ntmps70
  go_wp2
  go_ret
  exact ⟨rfl, rfl⟩
set_option maxRecDepth 100000 in
theorem dNow_any (h : RawS w p F D B kv cv L m r v now g ks z) : Calls Try.prog 18 #[ptrS p] w fun e w' => e = .returned (.int .u64 now) ∧ w' = w := by
  have c7 := h.now_
  have HM := Lib.hid (dMade_any h)
  clear h
  unfold ptrS at HM ⊢
  go_enter Try.func18, Try.ntmps18
  go_wp2_with fail
  refine HM.out.mono ?_
  rintro e w' ⟨rfl, rfl⟩
  go_wp2
  go_ret
  exact ⟨rfl, rfl⟩
set_option maxRecDepth 100000 in
theorem dLatest_any (h : RawS w p F D B kv cv L m r v now g ks z) (k : KeyS) (hl : (g k).length ≤ 9223372036854775807) : Calls Try.prog 63 #[ptrS p, .string (bs k)] w fun e w' => e = .returned (.int .u64 (lastH (g k) : Nat)) ∧ w' = w := by
  have c8 := h.map_
  have hlk := h.look k
  have HM := Lib.hid (dMade_any h)
  obtain ⟨A, c, hv, hc⟩ := h.ch k
  rw [hv] at hlk
  have HC := Lib.hid (dLast_any (g k) A c w.heap.size w hl hc.2.2.2)
  clear h hv hc
  unfold ptrS at HM ⊢
  go_enter Try.func63, Try.ntmps63
  go_wp2_with fail
  refine HM.out.mono ?_
  rintro e w' ⟨rfl, rfl⟩
  go_wp2_with fail
  refine HC.out.mono ?_
  rintro e w' ⟨rfl, rfl⟩
  go_wp2
  go_ret
  exact ⟨rfl, rfl⟩
set_option maxRecDepth 100000 in
theorem dRead_any (h : RawS w p F D B kv cv L m r v now g ks z) (k : KeyS) (t : Nat) (hl : okLen (g k)) (hr : rightC (g k) = true) :
    Calls Try.prog 56 #[ptrS p, .string (bs k), .int .u64 t] w (RetGetF (getH (g k) t) w) := by
  have c8 := h.map_
  have hlk := h.look k
  have HM := Lib.hid (dMade_any h)
  obtain ⟨A, c, hv, hc⟩ := h.ch k
  rw [hv] at hlk
  have HC := Lib.hid (dGetF_any (g k) A c t w hl hc hr)
  clear h hv hc
  generalize getH (g k) t = O at *
  unfold ptrS at HM ⊢
  go_enter Try.func56, Try.ntmps56
  go_wp2_with fail
  refine HM.out.mono ?_
  rintro e w' ⟨rfl, rfl⟩
  go_wp2_with fail
  refine HC.out.mono ?_
  rintro e w' ⟨A', c', rfl, hs, hb⟩
  go_wp2
  refine bodyPost_ret (v := .tuple #[.slice A' (O.getD []).length c', .bool O.isSome]) (by simp [results, Try.results56, go_sem]) rfl ?_
  exact ⟨A', c', rfl, hs, hb⟩
theorem trim_zero {l : List Ver} (h : rightC l = true) : trimH l 0 = l := by
  have h1 := ((right_iff l 0).1 h).1
  have e1 : (l.filter fun v => decide (v.tm ≤ 0)) = [] := by
    rw [List.filter_eq_nil_iff]
    intro x hx
    have := (h1 x hx).1
    simp
    omega
  have e2 : (l.filter fun v => decide (0 < v.tm)) = l := by
    rw [List.filter_eq_self]
    intro x hx
    have := (h1 x hx).1
    simpa using this
  unfold trimH findH
  rw [e1, e2]
  rfl
set_option maxRecDepth 100000 in
theorem dWhole_any (l : List Ver) (A : Option Addr) (c : Nat) (w : World) (hk : okLen l) (hr : ChH w w.heap.size A c l) (hri : rightC l = true) :
    Calls Try.prog 74 #[.slice A l.length c] w (RetChF l w) := by
  have h := dTrimF_any l A c 0 w hk hr hri
  rw [trim_zero hri] at h
  have HC := Lib.hid h
  clear h hr hri hk
  go_enter Try.func74, Try.ntmps74
  go_wp2_with fail
  refine HC.out.mono ?_
  rintro e w' ⟨q, c9, ms, rfl, h9⟩
  go_wp2
  go_ret
  exact ⟨q, c9, ms, rfl, h9⟩
set_option maxRecDepth 100000 in
theorem dChain_any (h : RawS w p F D B kv cv L m r v now g ks z) (k : KeyS) (hl : okLen (g k)) (hr : rightC (g k) = true) :
    Calls Try.prog 27 #[ptrS p, .string (bs k)] w (RetChF (g k) w) := by
  have c8 := h.map_
  have hlk := h.look k
  have HM := Lib.hid (dMade_any h)
  obtain ⟨A, c, hv, hc⟩ := h.ch k
  rw [hv] at hlk
  have HC := Lib.hid (dWhole_any (g k) A c w hl hc hr)
  clear h hv hc
  unfold ptrS at HM ⊢
  go_enter Try.func27, Try.ntmps27
  go_wp2_with fail
  refine HM.out.mono ?_
  rintro e w' ⟨rfl, rfl⟩
  go_wp2_with fail
  refine HC.out.mono ?_
  rintro e w' ⟨q, c9, ms, rfl, h9⟩
  go_wp2
  go_ret
  exact ⟨q, c9, ms, rfl, h9⟩
set_option maxRecDepth 100000 in
theorem dHas_any (h : RawS w p F D B kv cv L m r v now g ks z) (k : KeyS) (hl : okLen (g k)) (hr : rightC (g k) = true) :
    Calls Try.prog 121 #[ptrS p, .string (bs k)] w fun e w' => e = .returned (.bool (getH (g k) now).isSome) ∧ Below w.heap.size w w' := by
  have c7 := h.now_
  have HC := Lib.hid (dRead_any h k now hl hr)
  clear h
  generalize getH (g k) now = O at *
  unfold ptrS at HC ⊢
  go_enter Try.func121, Try.ntmps121
  go_wp2_with fail
  refine HC.out.mono ?_
  rintro e w' ⟨A', c', rfl, hs, hb⟩
  go_wp2
  go_ret
  exact ⟨rfl, hb⟩
end
end Go.Proofs.Ytooegjdppeiccaa

/-
  The developers' store: Count, Keys, brings, holds, New.
-/
namespace Go.Proofs.Ytooegjdppeiccaa
open Go.RowKit

theorem clone_none {ks : List KeyS} (h : ks.length = 0) : ks = [] := List.eq_nil_of_length_eq_zero h
set_option maxRecDepth 100000 in
/-- slices.Clone of keys. -/
theorem dCloneK_any (kv : Value) (ks : List KeyS) (w : World) (ho : OwnG 9 1 kCells w 0 kv ks) (hl : ks.length ≤ 1048576) :
    Calls Try.prog 72 #[kv] w fun e w' => ∃ v', e = .returned v' ∧ OwnG 9 1 kCells w' w.heap.size v' ks ∧ Below w.heap.size w w' := by
  obtain ⟨A, c, rfl, h1, h2, h3, h4⟩ := OwnG.form ho
  clear ho
  have q22 : ∀ (w : World) (a : Option Addr) (n c n' c' : Nat), (binOp .eql 53 (.slice a n c) (.slice none n' c')).run Try.prog w = .ok (.bool a.isNone) w := fun w a n c n' c' => Lib.run_eql_slice_nil w _ _ a n c n' c' Try.underlying53
  rcases A with _ | ad
  · have h0 : ks = [] := by
      rcases Nat.eq_zero_or_pos ks.length with h0 | h0
      · exact List.eq_nil_of_length_eq_zero h0
      · obtain ⟨b, o, hA, _⟩ := h4 h0
        cases hA
    subst h0
    go_enter Try.func72, Try.ntmps72
    go_wp2
    go_ret
    exact ⟨_, rfl, OwnG.none_ _ _ _ _ _, Below.refl _ _⟩
  · have HR := Lib.hid (h4.below ((Below.refl _ w).alloc (Nat.le_refl _) (.cells #[] 9)) (Nat.le_refl _))
    have HO := Lib.hid (OwnG.made w 9 1 kCells)
    have HL := Lib.hid hl
    clear h4 h1 h2 h3 hl
    go_enter Try.func72, Try.ntmps72
    go_wp2_with (at_builtin; (refine append_row (α := KeyS) (cs := kCells) (k := 1) _ rfl _ _ 53 9 16 kF kInfo Try.underlying53 rfl w.heap.size _ [] rfl HO.out 0 w.heap.size (some ad) ks.length c ks rfl rfl (fun e => by cases e) HR.out (by have := HL.out; simp [maxLen]; omega) (by have := HL.out; simp; omega) (by simp) ?_; intro v1 w1 ho hg; have hb : Below w.heap.size w w1 := ((Below.refl _ w).alloc (Nat.le_refl _) _).grown hg (by simp) (fun k hk => (OwnG.lt HO.out k hk).1)))
    go_ret
    rw [List.nil_append] at ho
    exact ⟨_, rfl, ho, hb⟩

def holdsS (L : LimS) (y : Sz) : Bool := decide ((y.k : Int) ≤ L.keys) && decide ((y.v : Int) ≤ L.vers) && decide ((y.b : Int) ≤ L.byts)
section
variable {w : World} {p : Nat} {F D : Nat → Prop} {B : Nat} {kv : Value} {cv : KeyS → Value} {L : LimS} {m r v : Int} {now : Nat} {g : KeyS → List Ver} {ks : List KeyS} {z : Sz}
set_option maxRecDepth 100000 in
theorem dKeys_any (h : RawS w p F D B kv cv L m r v now g ks z) (hl : ks.length ≤ 1048576) :
    Calls Try.prog 24 #[ptrS p] w fun e w' => ∃ v', e = .returned v' ∧ OwnG 9 1 kCells w' w.heap.size v' ks ∧ Below w.heap.size w w' := by
  have c9 := h.keys_
  have HM := Lib.hid (dMade_any h)
  have HC := Lib.hid (dCloneK_any kv ks w h.keys hl)
  clear h
  unfold ptrS at HM ⊢
  go_enter Try.func24, Try.ntmps24
  go_wp2_with fail
  refine HM.out.mono ?_
  rintro e w' ⟨rfl, rfl⟩
  go_wp2_with fail
  refine HC.out.mono ?_
  rintro e w' ⟨v', rfl, ho, hb⟩
  go_wp2
  go_ret
  exact ⟨v', rfl, ho, hb⟩
set_option maxRecDepth 100000 in
theorem dCount_any (h : RawS w p F D B kv cv L m r v now g ks z) : Calls Try.prog 19 #[ptrS p] w fun e w' => e = .returned (szVal z) ∧ Below w.heap.size w w' := by
  obtain ⟨w0, hw0⟩ : ∃ y, w.alloc (.cells #[.int .i64 0, .int .i64 0, .int .i64 0] 49) = y := ⟨_, rfl⟩
  have b0 : Below w.heap.size w w0 := by rw [← hw0]; exact (Below.refl _ w).alloc (Nat.le_refl _) _
  have hz : w0.heap[w.heap.size]? = some (.cells #[.int .i64 0, .int .i64 0, .int .i64 0] 49 (0, 0)) := by rw [← hw0]; exact heap_alloc_new w _
  have h0 := h.below b0
  have c10 := h0.sz0
  have c11 := h0.sz1
  have c12 := h0.sz2
  have HM := Lib.hid (dMade_any h0)
  have f0 := frozen_of hz 0
  have f1 := frozen_of hz 1
  have f2 := frozen_of hz 2
  have z0 := cell_of_row w0 _ 0 _ _ _ hz
  have z1 := cell_of_row w0 _ 1 _ _ _ hz
  have z2 := cell_of_row w0 _ 2 _ _ _ hz
  have HZ := Lib.hid (box3_set hz (.int .i64 (z.k : Int)) (.int .i64 (z.v : Int)) (.int .i64 (z.b : Int)))
  have HB3 := Lib.hid (Below.box3 b0 (b := w.heap.size) (Nat.le_refl _) (.int .i64 (z.k : Int)) (.int .i64 (z.v : Int)) (.int .i64 (z.b : Int)))
  have HW0 := Lib.hid hw0
  clear h h0 b0 hz hw0
  unfold ptrS at HM ⊢
  go_enter Try.func19, Try.ntmps19
  go_upto_region 1 with fail
  rw [HW0.out]
  clear HW0
  go_wp2_with fail
  refine HM.out.mono ?_
  rintro e w' ⟨rfl, rfl⟩
  go_wp2
  have t0 := cell_of_row _ _ 0 _ _ _ HZ.out
  have t1 := cell_of_row _ _ 1 _ _ _ HZ.out
  have t2 := cell_of_row _ _ 2 _ _ _ HZ.out
  refine bodyPost_ret (v := szVal z) (by simp [results, Try.results19, go_sem, t0, t1, t2, szVal]) rfl ?_
  exact ⟨rfl, HB3.out⟩
set_option maxRecDepth 100000 in
theorem dBrings_any (h : RawS w p F D B kv cv L m r v now g ks z) (k : KeyS) (gone : Bool) (A : Option Addr) (n c : Nat) (hl : okLen (g k)) (hr : rightC (g k) = true) :
    Calls Try.prog 104 #[ptrS p, .agg #[.string (bs k), .bool gone, .slice A n c]] w fun e w' => e = .returned (.int .i64 (bringS (g k) now gone)) ∧ Below w.heap.size w w' := by
  obtain ⟨w0, hw0⟩ : ∃ y, w.alloc (.cells #[.string (bs k), .bool gone, .slice A n c] 84) = y := ⟨_, rfl⟩
  have b0 : Below w.heap.size w w0 := by rw [← hw0]; exact (Below.refl _ w).alloc (Nat.le_refl _) _
  have hz : w0.heap[w.heap.size]? = some (.cells #[.string (bs k), .bool gone, .slice A n c] 84 (0, 0)) := by rw [← hw0]; exact heap_alloc_new w _
  have h0 := h.below b0
  have HH := Lib.hid (dHas_any h0 k hl hr)
  have hz1 := cell_of_row w0 _ 1 _ _ _ hz
  have hz0 := cell_of_row w0 _ 0 _ _ _ hz
  have HZ := Lib.hid hz
  have H0 := Lib.hid h0
  have HB0 := Lib.hid b0
  have HW0 := Lib.hid hw0
  clear h h0 b0 hz hw0 hl hr
  unfold ptrS at HH ⊢
  have HLast : ∀ w1 : World, Below w0.heap.size w0 w1 → Hid (w1.cell? ⟨p, 8, none⟩ = some (.map (some B)) ∧ (Instr.lookup 90 (.map (some B)) (.string (bs k)) true).run Try.prog w1.drew = .ok (.tuple #[valS g cv k, .bool (!(g k).isEmpty)]) w1.drew ∧ w1.cell? ⟨w.heap.size, 0, none⟩ = some (.string (bs k))) := fun w1 hb =>
    Lib.hid ⟨(H0.out.below hb).map_, ((H0.out.below hb).keep (w' := w1.drew) fun _ _ => rfl).look2 k, (hb.cell (p := ⟨w.heap.size, 0, none⟩) (lt_of_heap HZ.out)).trans hz0⟩
  go_enter Try.func104, Try.ntmps104
  go_upto_region 1 with fail
  rw [HW0.out]
  clear HW0
  cases gone
  · obtain ⟨c8, hlk, ck⟩ := (HLast w0 (Below.refl _ _)).out
    clear HLast hz0
    cases hg : (g k).isEmpty
    · rw [hg] at hlk
      have hv : bringS (g k) now false = 2 := by unfold bringS; rw [hg]; rfl
      have HV := Lib.hid hv
      clear hv hg
      go_wp2_with fail
      go_region
      go_wp2
      go_ret
      exact ⟨(congrArg (fun i => Ending.returned (.int .i64 i)) HV.out).symm, HB0.out.drew⟩
    · rw [hg] at hlk
      have hv : bringS (g k) now false = 1 := by unfold bringS; rw [hg]; rfl
      have HV := Lib.hid hv
      clear hv hg
      go_wp2_with fail
      go_region
      go_wp2
      go_ret
      exact ⟨(congrArg (fun i => Ending.returned (.int .i64 i)) HV.out).symm, HB0.out.drew⟩
  · cases hs : (getH (g k) now).isSome
    · rw [hs] at HH
      have hv : bringS (g k) now true = 0 := by unfold bringS; rw [hs]; rfl
      have HV := Lib.hid hv
      clear hv hs HLast
      go_wp2_with fail
      refine HH.out.mono ?_
      rintro e w1 ⟨rfl, hb⟩
      go_wp2
      go_ret
      exact ⟨(congrArg (fun i => Ending.returned (.int .i64 i)) HV.out).symm, HB0.out.trans (hb.mono HB0.out.size)⟩
    · rw [hs] at HH
      have hg : (g k).isEmpty = false := by
        cases hg : g k with
        | nil => rw [hg] at hs; cases hs
        | cons _ _ => rfl
      have hv : bringS (g k) now true = 2 := by unfold bringS; rw [hs, hg]; rfl
      have HV := Lib.hid hv
      clear hv hs
      rw [hg] at HLast
      clear hg
      go_wp2_with fail
      refine HH.out.mono ?_
      rintro e w1 ⟨rfl, hb⟩
      obtain ⟨c8, hlk, ck⟩ := (HLast w1 hb).out
      have HB1 := Lib.hid (HB0.out.trans (hb.mono HB0.out.size))
      clear HLast hb
      go_wp2_with fail
      go_region
      go_wp2
      go_ret
      exact ⟨(congrArg (fun i => Ending.returned (.int .i64 i)) HV.out).symm, HB1.out.drew⟩
end
end Go.Proofs.Ytooegjdppeiccaa
