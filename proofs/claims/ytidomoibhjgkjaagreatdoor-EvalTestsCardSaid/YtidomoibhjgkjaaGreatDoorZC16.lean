import Derived.Test.YtidomoibhjgkjaaGreatDoorZC10
import Derived.Test.YtidomoibhjgkjaaGreatDoorZC15
/-
  gather and Trail of package fault, of any error that is made of places around an end: the places, in order, as a new slice.
-/
namespace Go.Proofs.YtidomoibhjgkjaaGreatDoor
open Go.RowKit

theorem neqPP (a : Addr) (w : World) : (binOp .neq 29 (.iface 117 (.pointer (some a))) (.iface 117 (.pointer (some a)))).run Tryz.prog w = .ok (.bool false) w := by
  have h1 : (Tryz.prog.info? 117).map (·.comparable) = some true := by kernel_rfl
  have h2 : (Tryz.prog.info? 121).map (fun _ => ()) = some () := by kernel_rfl
  obtain ⟨i, hi, hc⟩ := Option.map_eq_some_iff.1 h1
  obtain ⟨j, hj, _⟩ := Option.map_eq_some_iff.1 h2
  simp only [binOp]
  simp [Op.equal, Op.maxDepth, run_equalIn_iface_ptr_same w 9998 a Tryz.underlying29 Tryz.underlying117 hi hc hj]

theorem endVal_cases (e : End) : endVal e = .nilIface ∨ (∃ n, endVal e = .iface 33 (.int .i64 n)) ∨ ∃ x y, endVal e = .iface 35 (.agg #[.string x, .string y]) := by
  rcases e with _ | n | ⟨x, y⟩
  · exact .inl rfl
  · exact .inr (.inl ⟨n, rfl⟩)
  · exact .inr (.inr ⟨x, y, rfl⟩)

/-- What holds at the head of gather's loop, when k places are still to come: those that were passed are gathered. -/
def Gath (ps : List ByteArray) (e : End) (hi pp : Nat) (w : World) (k : Nat) (u : Value) (wr : World) : Prop :=
  ∃ done rest sv nv, done ++ rest = ps ∧ rest.length = k ∧ Err wr hi e rest u ∧ wr.cell? ⟨pp, 0, none⟩ = some sv ∧ wr.frozen? ⟨pp, 0, none⟩ = false ∧ wr.ownsRow (w.heap.size + 1) 9 1 sv done.length (done.map Value.string)
    ∧ wr.cell? ⟨w.heap.size, 0, none⟩ = some (.pointer nv) ∧ wr.frozen? ⟨w.heap.size, 0, none⟩ = false ∧ Below pp w wr ∧ w.heap.size + 1 ≤ wr.heap.size ∧ GlobW wr

theorem gather_step {ps done rest : List ByteArray} {q : ByteArray} {e : End} {hi pp g cap : Nat} {w w2 w3 : World} {sv u : Value} {nv : Option Addr} (hd : done ++ q :: rest = ps) (hr : Err w2 hi e rest u)
    (h1 : w2.cell? ⟨pp, 0, none⟩ = some sv) (h2 : w2.frozen? ⟨pp, 0, none⟩ = false) (h4 : w2.cell? ⟨w.heap.size, 0, none⟩ = some (.pointer nv)) (h5 : w2.frozen? ⟨w.heap.size, 0, none⟩ = false)
    (h6 : Below pp w w2) (h7 : w.heap.size + 1 ≤ w2.heap.size) (h8 : GlobW w2) (hhi : hi ≤ pp) (hp : pp < w.heap.size) (hGp : 5 ≤ pp)
    (h9 : w3.ownsRow (w.heap.size + 1) 9 1 (.slice (some ⟨g, 0, none⟩) (done.length + 1) cap) (done.length + 1) (done.map Value.string ++ [Value.string q]) ∧ Below (w.heap.size + 1) w2 w3) :
    Gath ps e hi pp w rest.length u (w3.setCell ⟨pp, 0, none⟩ (.slice (some ⟨g, 0, none⟩) (done.length + 1) cap)) := by
  obtain ⟨ho, hb⟩ := h9
  have hb' : Below pp w2 (w3.setCell ⟨pp, 0, none⟩ (.slice (some ⟨g, 0, none⟩) (done.length + 1) cap)) := (hb.mono (B' := pp) (by omega)).setCell (Nat.le_refl _) _
  have c := bcell hb (by omega) h1
  refine ⟨done ++ [q], rest, _, nv, by simp [← hd], rfl, hr.below hb' hhi, World.cell?_setCell_same _ _ _ c, ?_, ?_, ?_, ?_, h6.trans hb', ?_, h8.below hb' hGp⟩
  · rw [World.frozen?_setCell]; exact bfrozen hb (by omega) h2
  · have h := ownsRow_setCell_below ho (a := ⟨pp, 0, none⟩) (by show pp < w.heap.size + 1; omega) (.slice (some ⟨g, 0, none⟩) (done.length + 1) cap)
    simpa using h
  · rw [World.cell?_setCell_other _ _ _ _ (by intro h; injection h; omega)]; exact bcell hb (by omega) h4
  · rw [World.frozen?_setCell]; exact bfrozen hb (by omega) h5
  · have := hb.size; simp [World.setCell]; omega

set_option maxHeartbeats 1000000 in
theorem gather_any (ps : List ByteArray) (v : Value) (e : End) (hi pp : Nat) (w : World) (he : Err w hi e ps v) (hhi : hi ≤ pp) (hpp : pp + 1 = w.heap.size) (hps : ps.length ≤ 1000000) (hG : GlobW w) (hGp : 5 ≤ pp)
    (hp : w.cell? ⟨pp, 0, none⟩ = some (.slice none 0 0)) (hf : w.frozen? ⟨pp, 0, none⟩ = false) :
    Calls Tryz.prog 43 #[.pointer (some ⟨pp, 0, none⟩), v] w
      fun r w' => r = .returned (.tuple #[]) ∧ ∃ sv, w'.cell? ⟨pp, 0, none⟩ = some sv ∧ w'.ownsRow pp 9 1 sv ps.length (ps.map Value.string) ∧ Below pp w w' := by
  have HP := Lib.hid hpp
  clear hpp
  go_enter Tryz.func43, Tryz.ntmps43
  go_wp2_with fail
  go_loopg [1] ps.length (fun k u wr => Gath ps e hi pp w k u wr)
  case atStart =>
    have hb : Below (pp + 1) w (w.alloc (.cells #[.pointer none] 117)) := (Below.refl _ w).alloc (by rw [HP.out]; exact Nat.le_refl _) _
    exact ⟨[], ps, _, none, rfl, rfl, he.below hb (by omega), bcell hb (by omega) hp, bfrozen hb (by omega) hf, World.ownsRow_nil _ _ _ _, by simp, by simp, hb.mono (by omega), by simp, hG.below hb (by omega)⟩
  case round =>
    obtain ⟨i0, hi0, hz0, hz1, hz2⟩ := infoStr
    have I0 := Lib.hid hi0
    have I1 := Lib.hid hz0
    have I2 := Lib.hid hz1
    have I3 := Lib.hid hz2
    clear hi0 hz0 hz1 hz2
    obtain ⟨done, rest, sv, nv, hd, hk, hr, h1, h2, h3, h4, h5, h6, h7, h8⟩ := hrel
    have HD := Lib.hid hd
    have HK := Lib.hid hk
    have HO := Lib.hid h3
    have HB := Lib.hid h6
    have HG := Lib.hid h8
    clear hd hk h3 h6 h8 hG he hp hf
    rcases rest with _ | ⟨q, rest⟩
    · have hdone : done = ps := by simpa using HD.out
      subst hdone
      have HF := Lib.hid (show ∀ w', Below wr.heap.size wr w' → ∃ sv, w'.cell? ⟨pp, 0, none⟩ = some sv ∧ w'.ownsRow pp 9 1 sv done.length (done.map Value.string) ∧ Below pp w w' from fun w' hw => by
        have e1 := HP.out
        exact ⟨sv, bcell hw (by omega) h1, ownF_below HO.out (fun g _ hg => hw.block g hg) (by omega), HB.out.trans (hw.mono (by omega))⟩)
      have hu : u1 = endVal e := hr
      clear hr HO HB HD HK h1 h2 h4 h5
      rcases endVal_cases e with h | ⟨n, h⟩ | ⟨x, y, h⟩
      · obtain rfl : u1 = .nilIface := hu.trans h
        clear hu h
        go_wp2_with fail
        refine (As_none _ _).mono ?_
        rintro r w2 ⟨rfl, rfl⟩
        go_wp2_with fail
        go_end0
        exact ⟨rfl, HF.out _ (Below.refl _ _)⟩
      · obtain rfl : u1 = .iface 33 (.int .i64 n) := hu.trans h
        clear hu h
        go_wp2_with fail
        refine (AsP_num n _ _ HG.out).mono ?_
        rintro r w2 ⟨rfl, hb⟩
        have HF2 := Lib.hid (HF.out _ hb)
        clear HF hb HG
        go_wp2_with fail
        go_end0
        exact ⟨rfl, HF2.out⟩
      · obtain rfl : u1 = .iface 35 (.agg #[.string x, .string y]) := hu.trans h
        clear hu h
        go_wp2_with fail
        refine (AsP_need x y _ _ HG.out).mono ?_
        rintro r w2 ⟨rfl, hb⟩
        have HF2 := Lib.hid (HF.out _ hb)
        clear HF hb HG
        go_wp2_with fail
        go_end0
        exact ⟨rfl, HF2.out⟩
    · obtain ⟨b, u, rfl, hb, hc, hr⟩ := hr
      have HC := Lib.hid hc
      have HR := Lib.hid hr
      clear hc hr
      go_wp2_with fail
      refine (AsP_hit b w.heap.size _ _ HG.out h4 h5).mono ?_
      rintro r w2 ⟨rfl, hb2⟩
      have e1 : w.heap.size = pp + 1 := HP.out.symm
      have b2 : Below (w.heap.size) wr w2 := ⟨hb2.os, hb2.tape, hb2.output, by simpa [World.setCell] using hb2.size, fun k hk => (hb2.block k (by omega)).trans (Below.heap_setCell _ _ _ _ (by show k ≠ w.heap.size; omega))⟩
      have s2 : wr.heap.size ≤ w2.heap.size := b2.size
      have c1 : w2.cell? ⟨w.heap.size, 0, none⟩ = some (.pointer (some ⟨b, 0, none⟩)) := bcell hb2 (by omega) (World.cell?_setCell_same _ _ _ h4)
      have c2 := bcell b2 (by omega) h1
      have c3 := bfrozen b2 (by omega) h2
      have k1 : w2.heap[b]? = some (.cells #[.string q, u] 121 (0, 0)) := (b2.block b (by omega)).trans HC.out
      have c4 : w2.cell? ⟨b, 0, none⟩ = some (.string q) := by simp [World.cell?, k1]
      have c5 : w2.cell? ⟨b, 1, none⟩ = some u := by simp [World.cell?, k1]
      have c6 : w2.frozen? ⟨w.heap.size, 0, none⟩ = false := bfrozen hb2 (by omega) (by rw [World.frozen?_setCell]; exact h5)
      have HO2 := Lib.hid (ownF_below (w' := w2) (B' := w.heap.size + 1) HO.out (fun g h1 h2 => (hb2.block g h2).trans (Below.heap_setCell _ _ _ _ (by show g ≠ w.heap.size; omega))) (Nat.le_refl _))
      have HR2 := Lib.hid (HR.out.below b2 (by omega))
      have HB2 := Lib.hid (HB.out.trans (b2.mono (by omega)))
      have HG2 := Lib.hid (HG.out.below b2 (by omega))
      have hpn : pp < w.heap.size := by omega
      have hbn : b < pp := by omega
      clear HB HG HO HR HC h1 h2 h4 h5 hb2 b2 k1 e1
      have fn := neqPP
      have c11 := cell_alloc c2 (.cells #[.string q] 9)
      have hlen : done.length + (rest.length + 1) = ps.length := by rw [← HD.out]; simp
      have HO3 := Lib.hid (ownF_below (w' := w2.alloc (.cells #[.string q] 9)) (B' := w.heap.size + 1) HO2.out (fun g h1 h2 => Below.heap_alloc _ _ _ h2) (Nat.le_refl _))
      have HN := Lib.hid (show ∀ j u, [Value.string q][j]? = some u → (w2.alloc (.cells #[.string q] 9)).cell? ((⟨w2.heap.size, 0, none⟩ : Addr).add j) = some u from fun j u h => by
        rcases j with _ | j
        · simp at h; subst h; simp [Addr.add]
        · simp at h)
      go_wp2_with fail
      refine wp_loop_rounds 1 ?_
      rw [rounds_succ]
      go_wp2_with fail
      go_region_law ((refine step_append_own rfl (.tmp 26) (.tmp 31) 81 rfl (w.heap.size + 1) 9 _ _ 1 16 Tryz.underlying81 I0.out I1.out I2.out I3.out rfl (by decide) sv done.length (done.map Value.string) (by simp [Act.eval]) HO3.out ⟨w2.heap.size, 0, none⟩ 1 1 [.string q] (by simp [Act.eval]) rfl HN.out (by simp [Value.oneCell']) (by unfold maxLen; omega) (by omega) (by simp; omega) ?_; intro v' w3 hown hgr; have hB3 : Below (w.heap.size + 1) w2 w3 := ((((Below.refl _ w2).alloc (by omega) _).drew).grown hgr (by simp; omega) (own_row HO3.out)); have c7 := bcell hB3 (by omega) c2; have c8 := bfrozen hB3 (by omega) c3; have c9 := bcell hB3 (by omega) c1; have c10 := bcell hB3 (by omega) c5; have HX := Lib.hid (And.intro hown hB3); obtain ⟨g, cap, rfl⟩ := Joins.ownsRow_form hown (by omega); clear hown hgr hB3))
      all_goals
        go_wp2_with fail
        go_roundg rest.length
        case measure => have := HK.out; simp at this; omega
        case rel =>
          exact gather_step HD.out HR2.out c2 c3 c1 c6 HB2.out (by omega) HG2.out hhi hpn hGp HX.out

theorem trail1_any (ps : List ByteArray) (v : Value) (e : End) (hi pp pe : Nat) (w : World) (he : Err w hi e ps v) (hhi : hi ≤ pp) (hpp : pp + 1 = w.heap.size) (hps : ps.length ≤ 1000000) (hG : GlobW w) (hGp : 5 ≤ pp)
    (hp : w.cell? ⟨pp, 0, none⟩ = some (.slice none 0 0)) (hf : w.frozen? ⟨pp, 0, none⟩ = false) (hv : w.cell? ⟨pe, 0, none⟩ = some v) :
    Calls Tryz.prog 42 #[.pointer (some ⟨pp, 0, none⟩), .pointer (some ⟨pe, 0, none⟩)] w
      fun r w' => r = .returned (.tuple #[]) ∧ ∃ sv, w'.cell? ⟨pp, 0, none⟩ = some sv ∧ w'.ownsRow pp 9 1 sv ps.length (ps.map Value.string) ∧ Below pp w w' := by
  have H := Lib.hid (gather_any ps v e hi pp w he hhi hpp hps hG hGp hp hf)
  clear he hpp hps hG hp hf
  go_enter Tryz.func42, Tryz.ntmps42
  go_wp2_with fail
  refine (H.out).mono ?_
  rintro r w2 ⟨rfl, hq⟩
  have HQ := Lib.hid hq
  clear hq H hv
  go_wp2_with fail
  go_end0
  exact ⟨rfl, HQ.out⟩

/-- A call has made a new slice of these texts, and has changed nothing that was there. -/
def RetS (l : List ByteArray) (w : World) (r : Ending) (w' : World) : Prop :=
  ∃ sv, r = .returned sv ∧ w'.ownsRow w.heap.size 9 1 sv l.length (l.map Value.string) ∧ Below w.heap.size w w'

set_option maxHeartbeats 1000000 in
theorem trail_core (ps : List ByteArray) (v : Value) (w : World) (hv : v = .nilIface ∨ ∃ t x, v = .iface t x)
    (H : Calls Tryz.prog 42 #[.pointer (some ⟨w.heap.size + 1, 0, none⟩), .pointer (some ⟨w.heap.size, 0, none⟩)] ((w.alloc (.cells #[v] 29)).alloc (.cells #[.slice none 0 0] 81))
      fun r w' => r = .returned (.tuple #[]) ∧ ∃ sv, w'.cell? ⟨w.heap.size + 1, 0, none⟩ = some sv ∧ w'.ownsRow (w.heap.size + 1) 9 1 sv ps.length (ps.map Value.string) ∧ Below (w.heap.size + 1) ((w.alloc (.cells #[v] 29)).alloc (.cells #[.slice none 0 0] 81)) w') :
    Calls Tryz.prog 15 #[v] w (RetS ps w) := by
  have hmf : ∀ (fn : Fn) (first cap : Array Value) (w : World), (Instr.makeFunc fn first cap).run Tryz.prog w = .ok (.func fn first cap) w := fun _ _ _ _ => rfl
  have hs := safely_of 42 _ _ _ (by kernel_rfl) H
  have HS := Lib.hid hs
  clear hs H
  rcases hv with rfl | ⟨t, x, rfl⟩
  all_goals
    go_enter Tryz.func15, Tryz.ntmps15
    go_wp2_with fail
    refine (HS.out).mono ?_
    rintro r w2 ⟨rfl, sv, hc, ho, hb⟩
    have HQ := Lib.hid (And.intro ho hb)
    clear ho hb HS
    go_wp2_with fail
    go_ret
    exact ⟨sv, rfl, ownF_below HQ.out.1 (fun _ _ _ => rfl) (by omega), (((Below.refl _ w).alloc (Nat.le_refl _) _).alloc (by simp) _).trans (HQ.out.2.mono (by omega))⟩

theorem Err.nil_or {w : World} {hi : Nat} {e : End} {ps : List ByteArray} {v : Value} (h : Err w hi e ps v) : v = .nilIface ∨ ∃ t x, v = .iface t x := by
  rcases ps with _ | ⟨p, ps⟩
  · rcases e with _ | n | ⟨x, y⟩
    · exact .inl h
    · exact .inr ⟨_, _, h⟩
    · exact .inr ⟨_, _, h⟩
  · obtain ⟨b, u, rfl, _⟩ := h
    exact .inr ⟨_, _, rfl⟩

theorem trail_any (ps : List ByteArray) (v : Value) (e : End) (hi : Nat) (w : World) (he : Err w hi e ps v) (hhi : hi ≤ w.heap.size) (hps : ps.length ≤ 1000000) (hG : GlobW w) :
    Calls Tryz.prog 15 #[v] w (RetS ps w) := by
  have HB : Below w.heap.size w ((w.alloc (.cells #[v] 29)).alloc (.cells #[.slice none 0 0] 81)) := ((Below.refl _ w).alloc (Nat.le_refl _) _).alloc (by simp) _
  have hg := hG.big
  exact trail_core ps v w he.nil_or (trail1_any ps v e hi _ _ _ (he.below HB hhi) (by omega) (by simp) hps (hG.below HB hg) (by omega) (by simp) (by simp) (by simp))
end Go.Proofs.YtidomoibhjgkjaaGreatDoor

/-
  Of and Wrap of package fault.
-/
namespace Go.Proofs.YtidomoibhjgkjaaGreatDoor
open Go.RowKit

theorem of_zero (w : World) : Calls Tryz.prog 45 #[.int .i64 0] w fun r w' => r = .returned .nilIface ∧ w = w' := by
  go_enter Tryz.func45, Tryz.ntmps45
  go_wp2
  go_ret
  exact ⟨rfl, rfl⟩
theorem of_num (n : Int) (w : World) (hn : n ≠ 0) : Calls Tryz.prog 45 #[.int .i64 n] w fun r w' => r = .returned (.iface 33 (.int .i64 n)) ∧ w = w' := by
  have h : (n == 0) = false := by simpa using hn
  clear hn
  go_enter Tryz.func45, Tryz.ntmps45
  go_wp2
  go_ret
  exact ⟨rfl, rfl⟩
theorem wrap_none (p : ByteArray) (w : World) : Calls Tryz.prog 132 #[.string p, .nilIface] w fun r w' => r = .returned .nilIface ∧ w = w' := by
  go_enter Tryz.func132, Tryz.ntmps132
  go_wp2
  go_ret
  exact ⟨rfl, rfl⟩
theorem wrap_raw (p : ByteArray) (T : TypeId) (y : Value) (w : World) : Calls Tryz.prog 132 #[.string p, .iface T y] w
    fun r w' => r = .returned (.iface 117 (.pointer (some ⟨w.heap.size, 0, none⟩))) ∧ w.alloc (.cells #[.string p, .iface T y] 121) = w' := by
  go_enter Tryz.func132, Tryz.ntmps132
  go_wp2
  go_ret
  exact ⟨rfl, rfl⟩

def RetE (e : End) (ps : List ByteArray) (w : World) (r : Ending) (w' : World) : Prop := ∃ v, r = .returned v ∧ Err w' w'.heap.size e ps v ∧ Below w.heap.size w w'

theorem wrap_any (p : ByteArray) (ps : List ByteArray) (v : Value) (e : End) (hi : Nat) (w : World) (he : Err w hi e ps v) (hs : some? e ps) (hhi : hi ≤ w.heap.size) :
    Calls Tryz.prog 132 #[.string p, v] w (RetE e (p :: ps) w) := by
  obtain ⟨T, y, rfl⟩ := he.iface hs
  refine (wrap_raw p T y w).mono ?_
  rintro r w' ⟨rfl, rfl⟩
  have hb : Below w.heap.size w (w.alloc (.cells #[.string p, .iface T y] 121)) := (Below.refl _ w).alloc (Nat.le_refl _) _
  exact ⟨_, rfl, ⟨w.heap.size, _, rfl, by simp, heap_alloc_new w _, (he.below hb hhi).wide (by simp; omega)⟩, hb⟩

end Go.Proofs.YtidomoibhjgkjaaGreatDoor
