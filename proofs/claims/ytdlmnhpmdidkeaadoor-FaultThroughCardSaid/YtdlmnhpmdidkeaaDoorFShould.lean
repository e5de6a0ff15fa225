/-
  What the document says an error is that is made so: should, of the statements on package fault.
-/
import Derived.Test.YtdlmnhpmdidkeaaDoorFLaw
import Derived.IntWalk
import Derived.StillTailTactics
namespace Go.Proofs.YtdlmnhpmdidkeaaDoor
open Go.RowKit

theorem cell_at {w : World} {b o : Nat} {vs : Array Value} {t : TypeId} {v : Value} (h : w.heap[b]? = some (.cells vs t (0, 0))) (hv : vs[o]? = some v) : w.cell? ⟨b, o, none⟩ = some v := by simp [World.cell?, h, hv]
theorem frozen_at {w : World} {b o : Nat} {vs : Array Value} {t : TypeId} (h : w.heap[b]? = some (.cells vs t (0, 0))) : w.frozen? ⟨b, o, none⟩ = false := by simp [World.frozen?, h]

/-- Six cells of a block, stored one behind the other. -/
theorem set6 {w : World} {b : Nat} {a0 a1 a2 a3 a4 a5 : Value} {t : TypeId} (h : w.heap[b]? = some (.cells #[a0, a1, a2, a3, a4, a5] t (0, 0))) (v0 v1 v2 v3 v4 v5 : Value) :
    ((((((w.setCell ⟨b, 0, none⟩ v0).setCell ⟨b, 1, none⟩ v1).setCell ⟨b, 2, none⟩ v2).setCell ⟨b, 3, none⟩ v3).setCell ⟨b, 4, none⟩ v4).setCell ⟨b, 5, none⟩ v5).heap[b]? = some (.cells #[v0, v1, v2, v3, v4, v5] t (0, 0)) := by
  simp [World.setCell, Array.getElem?_modify, h]

/-- A store below where a row lies. -/
theorem rowS_set {w : World} {lo hi b o : Nat} {A : Option Addr} {l : List ByteArray} (h : RowS w lo hi A l) (hb : b < lo) (v : Value) : RowS (w.setCell ⟨b, o, none⟩ v) lo hi A l := fun hn => by
  obtain ⟨g, q, e, h1, h2, hc⟩ := h hn
  exact ⟨g, q, e, h1, h2, fun j hj => (World.cell?_setCell_other _ _ _ _ (by intro h; injection h; omega)).trans (hc j hj)⟩

/-- What the document's answer is, of an error. -/
def RetV (is : Bool) (l : List ByteArray) (k : Int) (q : Bool) (x y : ByteArray) (w : World) (r : Ending) (w' : World) : Prop :=
  ∃ A c, r = .returned (.agg #[.bool is, .slice A l.length c, .int .i64 k, .bool q, .string x, .string y]) ∧ (A = none → c = 0) ∧ RowS w' w.heap.size w'.heap.size A l ∧ Below w.heap.size w w'

set_option maxRecDepth 100000 in
set_option maxHeartbeats 2000000 in
theorem should_num (x y : ByteArray) (k : Int) (A : Option Addr) (n c : Nat) (ps : List ByteArray) (lo hi : Nat) (w : World) (hk0 : k ≠ 0) (h0 : -2147483648 ≤ k) (h1 : k ≤ 2147483647) (hn : n = ps.length) (hps : n ≤ 1000000) (hr : RowS w lo hi A ps) (hhi : hi ≤ w.heap.size) :
    Calls Tryd.prog 11 #[.agg #[.bool false, .string x, .string y, .int .i32 k, .slice A n c]] w (RetV true ps k false ⟨#[]⟩ ⟨#[]⟩ w) := by
  subst hn
  have HR := Lib.hid hr
  clear hr
  go_enter Tryd.func11, Tryd.ntmps11
  go_wp2_with fail
  refine (refOf_num _ _ hk0).mono ?_
  rintro r wo ⟨rfl, bo⟩
  have c0 := bcell bo (by simp; omega) (show ((w.alloc (.cells #[.bool false, .string x, .string y, .int .i32 k, .slice A ps.length c] 24)).alloc (.cells #[.bool false, .slice none 0 0, .int .i64 0, .bool false, .string ⟨#[]⟩, .string ⟨#[]⟩] 33)).cell? ⟨w.heap.size, 0, none⟩ = some (.bool false) by simp [go_sem])
  have c4 := bcell bo (by simp; omega) (show ((w.alloc (.cells #[.bool false, .string x, .string y, .int .i32 k, .slice A ps.length c] 24)).alloc (.cells #[.bool false, .slice none 0 0, .int .i64 0, .bool false, .string ⟨#[]⟩, .string ⟨#[]⟩] 33)).cell? ⟨w.heap.size, 4, none⟩ = some (.slice A ps.length c) by simp [go_sem])
  have hz1 : wo.heap[w.heap.size + 1]? = some (.cells #[.bool false, .slice none 0 0, .int .i64 0, .bool false, .string ⟨#[]⟩, .string ⟨#[]⟩] 33 (0, 0)) := (bo.block _ (by simp)).trans (by simpa using heap_alloc_new (w.alloc (.cells #[.bool false, .string x, .string y, .int .i32 k, .slice A ps.length c] 24)) (.cells #[.bool false, .slice none 0 0, .int .i64 0, .bool false, .string ⟨#[]⟩, .string ⟨#[]⟩] 33))
  have hso := bo.size
  rw [World.size_alloc, World.size_alloc] at hso
  have hl0 : w.heap.size < wo.heap.size := by omega
  have BO := Lib.hid (show Below (w.heap.size + 2) ((w.alloc (.cells #[.bool false, .string x, .string y, .int .i32 k, .slice A ps.length c] 24)).alloc (.cells #[.bool false, .slice none 0 0, .int .i64 0, .bool false, .string ⟨#[]⟩, .string ⟨#[]⟩] 33)) wo by simpa using bo)
  have HZ1 := Lib.hid hz1
  clear bo hz1 hk0
  go_wp2_with fail
  go_loopg [19] ps.length (fun q i wr => ∃ (j : Nat) (A' : Option Addr) (c' : Nat), j + q = ps.length ∧ i = .int .i64 j ∧ wr.heap[wo.heap.size]? = some (.cells #[.bool true, .slice A' j c', .int .i64 k, .bool false, .string ⟨#[]⟩, .string ⟨#[]⟩] 33 (0, 0)) ∧ (A' = none → c' = 0) ∧ RowS wr wo.heap.size wr.heap.size A' (ps.drop (ps.length - j)) ∧ Below wo.heap.size wo wr ∧ wo.heap.size < wr.heap.size)
  case atStart => exact ⟨0, none, 0, by omega, rfl, heap_alloc_new wo _, fun _ => rfl, fun h => (by rw [Nat.sub_zero, List.drop_length] at h; exact absurd h (by simp)), (Below.refl _ wo).alloc (Nat.le_refl _) _, by simp⟩
  case round =>
    obtain ⟨j, A', c', hk, rfl, hc, hz, hrow, hb, hsz⟩ := hrel
    have HK := Lib.hid hk
    have HC := Lib.hid hc
    have HB := Lib.hid hb
    have HZ := Lib.hid hz
    have HROW := Lib.hid hrow
    have d4 := bcell hb hl0 c4
    have r0 : wr.cell? ⟨wo.heap.size, 0, none⟩ = some (.bool true) := cell_at hc rfl
    have r1 : wr.cell? ⟨wo.heap.size, 1, none⟩ = some (.slice A' j c') := cell_at hc rfl
    have r2 : wr.cell? ⟨wo.heap.size, 2, none⟩ = some (.int .i64 k) := cell_at hc rfl
    have r3 : wr.cell? ⟨wo.heap.size, 3, none⟩ = some (.bool false) := cell_at hc rfl
    have r4 : wr.cell? ⟨wo.heap.size, 4, none⟩ = some (.string ⟨#[]⟩) := cell_at hc rfl
    have r5 : wr.cell? ⟨wo.heap.size, 5, none⟩ = some (.string ⟨#[]⟩) := cell_at hc rfl
    clear hc hb hz hrow
    by_cases hj : j < ps.length
    · have hlt : decide ((j : Int) < (ps.length : Int)) = true := by simpa using hj
      have HRW := HR.out.below (((((Below.refl _ w).alloc (Nat.le_refl _) _).alloc (by simp) _).trans (BO.out.mono (by omega))).trans (HB.out.mono (by omega))) hhi
      obtain ⟨b, o, rfl, d1⟩ := HRW.at_ (k := ps.length - 1 - j) (by omega)
      have HW := Lib.hid (wrap_loop hj)
      generalize ps[ps.length - 1 - j] = pj at d1 HW
      obtain ⟨idx, hidx⟩ : ∃ idx, ps.length - 1 - j = idx := ⟨_, rfl⟩
      rw [hidx] at d1
      have hil : idx < ps.length := by omega
      clear hk HRW
      go_wp2_with fail
      have HJ := Lib.hid (show j = (ps.drop (ps.length - j)).length by simp; omega)
      have HL := Lib.hid (show (ps.drop (ps.length - j)).length ≤ 1000000 by simp; omega)
      have s1 : IntKind.i64.wrap ((ps.length : Int) - 1) = (ps.length : Int) - 1 := IntWalk.i64_in _ (by omega)
      have s2 : IntKind.i64.wrap ((ps.length : Int) - 1 - (j : Int)) = (idx : Int) := by rw [IntWalk.i64_in _ (by omega)]; omega
      have HI := Lib.hid hidx
      clear hidx
      have HS := Lib.hid hsz
      go_still_tail 11, (by kernel_rfl)
      change wpList _ _ _ _ _ wr.drew
      clear s1 s2 d1 d4 r0 r1 r2 r3 r4 r5
      go_wp2_with fail
      refine (refWrap_any pj (ps.drop (ps.length - j)) A' j c' k false ⟨#[]⟩ ⟨#[]⟩ _ _ _ HJ.out HZ.out (by exact HROW.out) (Nat.le_refl _) HL.out).mono ?_
      rintro r w2 ⟨A2, c2, rfl, hl2, hz2, hr2, hb2⟩
      have hj1 : (pj :: ps.drop (ps.length - j)).length = j + 1 := by rw [List.length_cons, ← HJ.out]
      rw [hj1]
      clear hj1
      have hc2 : w2.heap[wo.heap.size]? = some (.cells #[.bool true, .slice A' j c', .int .i64 k, .bool false, .string ⟨#[]⟩, .string ⟨#[]⟩] 33 (0, 0)) := (hb2.block _ HS.out).trans HC.out
      have t0 : w2.cell? ⟨wo.heap.size, 0, none⟩ = some (.bool true) := cell_at hc2 rfl
      have g0 := frozen_at (o := 0) hc2
      have t1 : w2.cell? ⟨wo.heap.size, 1, none⟩ = some (.slice A' j c') := cell_at hc2 rfl
      have g1 := frozen_at (o := 1) hc2
      have t2 : w2.cell? ⟨wo.heap.size, 2, none⟩ = some (.int .i64 k) := cell_at hc2 rfl
      have g2 := frozen_at (o := 2) hc2
      have t3 : w2.cell? ⟨wo.heap.size, 3, none⟩ = some (.bool false) := cell_at hc2 rfl
      have g3 := frozen_at (o := 3) hc2
      have t4 : w2.cell? ⟨wo.heap.size, 4, none⟩ = some (.string ⟨#[]⟩) := cell_at hc2 rfl
      have g4 := frozen_at (o := 4) hc2
      have t5 : w2.cell? ⟨wo.heap.size, 5, none⟩ = some (.string ⟨#[]⟩) := cell_at hc2 rfl
      have g5 := frozen_at (o := 5) hc2
      have HC2 := Lib.hid hc2
      have HB2 := Lib.hid (show Below wr.heap.size wr w2 from ⟨hb2.os, hb2.tape, hb2.output, hb2.size, hb2.block⟩)
      clear hc2 hb2
      have HX := Lib.hid (And.intro hz2 hr2)
      clear hl2 hz2 hr2
      go_wp2_with fail
      go_roundg (gk - 1)
      case measure => have := HK.out; omega
      case rel =>
        have hs2 := HB2.out.size
        have hs3 : wr.heap.size ≤ w2.heap.size := hs2
        have hB : Below wo.heap.size wo w2 := HB.out.trans (HB2.out.mono (Nat.le_of_lt HS.out))
        refine ⟨j + 1, A2, c2, by have := HK.out; omega, by go_num, ?_, HX.out.1, ?_, (((((hB.setCell (Nat.le_refl _) _).setCell (Nat.le_refl _) _).setCell (Nat.le_refl _) _).setCell (Nat.le_refl _) _).setCell (Nat.le_refl _) _).setCell (Nat.le_refl _) _, ?_⟩
        · exact set6 HC2.out _ _ _ _ _ _
        · rw [HW.out]
          refine RowS.wide (lo := wr.heap.size) (hi := w2.heap.size) (rowS_set (rowS_set (rowS_set (rowS_set (rowS_set (rowS_set HX.out.2 HS.out _) HS.out _) HS.out _) HS.out _) HS.out _) HS.out _) (Nat.le_of_lt HS.out) ?_
          simp [World.setCell]
        · have := HS.out
          simp [World.setCell]
          omega
    · have hj' : j = ps.length := by have := HK.out; omega
      have hlt : decide ((j : Int) < (ps.length : Int)) = false := by simpa using hj
      subst hj'
      have hz2 : wr.heap[w.heap.size + 1]? = some (.cells #[.bool false, .slice none 0 0, .int .i64 0, .bool false, .string ⟨#[]⟩, .string ⟨#[]⟩] 33 (0, 0)) := (HB.out.block _ (by omega)).trans HZ1.out
      have t0 : wr.cell? ⟨w.heap.size + 1, 0, none⟩ = some (.bool false) := cell_at hz2 rfl
      have g0 := frozen_at (o := 0) hz2
      have t1 : wr.cell? ⟨w.heap.size + 1, 1, none⟩ = some (.slice none 0 0) := cell_at hz2 rfl
      have g1 := frozen_at (o := 1) hz2
      have t2 : wr.cell? ⟨w.heap.size + 1, 2, none⟩ = some (.int .i64 0) := cell_at hz2 rfl
      have g2 := frozen_at (o := 2) hz2
      have t3 : wr.cell? ⟨w.heap.size + 1, 3, none⟩ = some (.bool false) := cell_at hz2 rfl
      have g3 := frozen_at (o := 3) hz2
      have t4 : wr.cell? ⟨w.heap.size + 1, 4, none⟩ = some (.string ⟨#[]⟩) := cell_at hz2 rfl
      have g4 := frozen_at (o := 4) hz2
      have t5 : wr.cell? ⟨w.heap.size + 1, 5, none⟩ = some (.string ⟨#[]⟩) := cell_at hz2 rfl
      have g5 := frozen_at (o := 5) hz2
      have HZ2 := Lib.hid hz2
      clear hk hz2 d4
      go_wp2_with fail
      refine bodyPost_ret (v := .agg #[.bool true, .slice A' ps.length c', .int .i64 k, .bool false, .string ⟨#[]⟩, .string ⟨#[]⟩]) (by simp [results, Tryd.results11, go_sem, t0, t1, t2, t3, t4, t5]) rfl ?_
      have hB : Below w.heap.size w wr := ((((Below.refl _ w).alloc (Nat.le_refl _) _).alloc (by simp) _).trans (BO.out.mono (by omega))).trans (HB.out.mono (by omega))
      have hle : w.heap.size ≤ w.heap.size + 1 := by omega
      have hrow := HROW.out
      rw [Nat.sub_self, List.drop_zero] at hrow
      have hlt1 : w.heap.size + 1 < wo.heap.size := by omega
      refine ⟨A', c', rfl, HZ.out, RowS.wide (lo := wo.heap.size) (hi := wr.heap.size) (rowS_set (rowS_set (rowS_set (rowS_set (rowS_set (rowS_set hrow hlt1 _) hlt1 _) hlt1 _) hlt1 _) hlt1 _) hlt1 _) (by omega) ?_, (((((hB.setCell hle _).setCell hle _).setCell hle _).setCell hle _).setCell hle _).setCell hle _⟩
      simp [World.setCell]

set_option maxRecDepth 100000 in
set_option maxHeartbeats 2000000 in
theorem should_zero (x y : ByteArray) (A : Option Addr) (n c : Nat) (ps : List ByteArray) (lo hi : Nat) (w : World) (hn : n = ps.length) (hps : n ≤ 1000000) (hr : RowS w lo hi A ps) (hhi : hi ≤ w.heap.size) :
    Calls Tryd.prog 11 #[.agg #[.bool false, .string x, .string y, .int .i32 0, .slice A n c]] w (RetV false [] 0 false ⟨#[]⟩ ⟨#[]⟩ w) := by
  subst hn
  have HR := Lib.hid hr
  clear hr
  go_enter Tryd.func11, Tryd.ntmps11
  go_wp2_with fail
  refine (refOf_zero _).mono ?_
  rintro r wo ⟨rfl, bo⟩
  have c0 := bcell bo (by simp; omega) (show ((w.alloc (.cells #[.bool false, .string x, .string y, .int .i32 0, .slice A ps.length c] 24)).alloc (.cells #[.bool false, .slice none 0 0, .int .i64 0, .bool false, .string ⟨#[]⟩, .string ⟨#[]⟩] 33)).cell? ⟨w.heap.size, 0, none⟩ = some (.bool false) by simp [go_sem])
  have c4 := bcell bo (by simp; omega) (show ((w.alloc (.cells #[.bool false, .string x, .string y, .int .i32 0, .slice A ps.length c] 24)).alloc (.cells #[.bool false, .slice none 0 0, .int .i64 0, .bool false, .string ⟨#[]⟩, .string ⟨#[]⟩] 33)).cell? ⟨w.heap.size, 4, none⟩ = some (.slice A ps.length c) by simp [go_sem])
  have hz1 : wo.heap[w.heap.size + 1]? = some (.cells #[.bool false, .slice none 0 0, .int .i64 0, .bool false, .string ⟨#[]⟩, .string ⟨#[]⟩] 33 (0, 0)) := (bo.block _ (by simp)).trans (by simpa using heap_alloc_new (w.alloc (.cells #[.bool false, .string x, .string y, .int .i32 0, .slice A ps.length c] 24)) (.cells #[.bool false, .slice none 0 0, .int .i64 0, .bool false, .string ⟨#[]⟩, .string ⟨#[]⟩] 33))
  have hso := bo.size
  rw [World.size_alloc, World.size_alloc] at hso
  have hl0 : w.heap.size < wo.heap.size := by omega
  have BO := Lib.hid (show Below (w.heap.size + 2) ((w.alloc (.cells #[.bool false, .string x, .string y, .int .i32 0, .slice A ps.length c] 24)).alloc (.cells #[.bool false, .slice none 0 0, .int .i64 0, .bool false, .string ⟨#[]⟩, .string ⟨#[]⟩] 33)) wo by simpa using bo)
  have HZ1 := Lib.hid hz1
  clear bo hz1
  go_wp2_with fail
  go_loopg [19] ps.length (fun q i wr => ∃ (j : Nat), j + q = ps.length ∧ i = .int .i64 j ∧ wr.heap[wo.heap.size]? = some (.cells #[.bool false, .slice none 0 0, .int .i64 0, .bool false, .string ⟨#[]⟩, .string ⟨#[]⟩] 33 (0, 0)) ∧ Below wo.heap.size wo wr ∧ wo.heap.size < wr.heap.size)
  case atStart => exact ⟨0, by omega, rfl, heap_alloc_new wo _, (Below.refl _ wo).alloc (Nat.le_refl _) _, by simp⟩
  case round =>
    obtain ⟨j, hk, rfl, hc, hb, hsz⟩ := hrel
    have HK := Lib.hid hk
    have HC := Lib.hid hc
    have HB := Lib.hid hb
    have d4 := bcell hb hl0 c4
    have r0 : wr.cell? ⟨wo.heap.size, 0, none⟩ = some (.bool false) := cell_at hc rfl
    have r1 : wr.cell? ⟨wo.heap.size, 1, none⟩ = some (.slice none 0 0) := cell_at hc rfl
    have r2 : wr.cell? ⟨wo.heap.size, 2, none⟩ = some (.int .i64 0) := cell_at hc rfl
    have r3 : wr.cell? ⟨wo.heap.size, 3, none⟩ = some (.bool false) := cell_at hc rfl
    have r4 : wr.cell? ⟨wo.heap.size, 4, none⟩ = some (.string ⟨#[]⟩) := cell_at hc rfl
    have r5 : wr.cell? ⟨wo.heap.size, 5, none⟩ = some (.string ⟨#[]⟩) := cell_at hc rfl
    clear hc hb
    by_cases hj : j < ps.length
    · have hlt : decide ((j : Int) < (ps.length : Int)) = true := by simpa using hj
      have HRW := HR.out.below (((((Below.refl _ w).alloc (Nat.le_refl _) _).alloc (by simp) _).trans (BO.out.mono (by omega))).trans (HB.out.mono (by omega))) hhi
      obtain ⟨b, o, rfl, d1⟩ := HRW.at_ (k := ps.length - 1 - j) (by omega)
      have HW := Lib.hid (wrap_loop hj)
      generalize ps[ps.length - 1 - j] = pj at d1 HW
      obtain ⟨idx, hidx⟩ : ∃ idx, ps.length - 1 - j = idx := ⟨_, rfl⟩
      rw [hidx] at d1
      have hil : idx < ps.length := by omega
      clear hk HRW
      go_wp2_with fail
      have HJ := Lib.hid (show j = (ps.drop (ps.length - j)).length by simp; omega)
      have HL := Lib.hid (show (ps.drop (ps.length - j)).length ≤ 1000000 by simp; omega)
      have s1 : IntKind.i64.wrap ((ps.length : Int) - 1) = (ps.length : Int) - 1 := IntWalk.i64_in _ (by omega)
      have s2 : IntKind.i64.wrap ((ps.length : Int) - 1 - (j : Int)) = (idx : Int) := by rw [IntWalk.i64_in _ (by omega)]; omega
      have HI := Lib.hid hidx
      clear hidx
      have HS := Lib.hid hsz
      go_still_tail 11, (by kernel_rfl)
      change wpList _ _ _ _ _ wr.drew
      clear s1 s2 d1 d4 r0 r1 r2 r3 r4 r5
      go_wp2_with fail
      refine (refWrap_none _ _ _ _ _ _ _ _ _).mono ?_
      rintro r w2 ⟨rfl, hb2⟩
      have hc2 : w2.heap[wo.heap.size]? = some (.cells #[.bool false, .slice none 0 0, .int .i64 0, .bool false, .string ⟨#[]⟩, .string ⟨#[]⟩] 33 (0, 0)) := (hb2.block _ HS.out).trans HC.out
      have t0 : w2.cell? ⟨wo.heap.size, 0, none⟩ = some (.bool false) := cell_at hc2 rfl
      have g0 := frozen_at (o := 0) hc2
      have t1 : w2.cell? ⟨wo.heap.size, 1, none⟩ = some (.slice none 0 0) := cell_at hc2 rfl
      have g1 := frozen_at (o := 1) hc2
      have t2 : w2.cell? ⟨wo.heap.size, 2, none⟩ = some (.int .i64 0) := cell_at hc2 rfl
      have g2 := frozen_at (o := 2) hc2
      have t3 : w2.cell? ⟨wo.heap.size, 3, none⟩ = some (.bool false) := cell_at hc2 rfl
      have g3 := frozen_at (o := 3) hc2
      have t4 : w2.cell? ⟨wo.heap.size, 4, none⟩ = some (.string ⟨#[]⟩) := cell_at hc2 rfl
      have g4 := frozen_at (o := 4) hc2
      have t5 : w2.cell? ⟨wo.heap.size, 5, none⟩ = some (.string ⟨#[]⟩) := cell_at hc2 rfl
      have g5 := frozen_at (o := 5) hc2
      have HC2 := Lib.hid hc2
      have HB2 := Lib.hid (show Below wr.heap.size wr w2 from ⟨hb2.os, hb2.tape, hb2.output, hb2.size, hb2.block⟩)
      clear hc2 hb2
      go_wp2_with fail
      go_roundg (gk - 1)
      case measure => have := HK.out; omega
      case rel =>
        have hs2 := HB2.out.size
        have hs3 : wr.heap.size ≤ w2.heap.size := hs2
        have hB : Below wo.heap.size wo w2 := HB.out.trans (HB2.out.mono (Nat.le_of_lt HS.out))
        refine ⟨j + 1, by have := HK.out; omega, by go_num, set6 HC2.out _ _ _ _ _ _, (((((hB.setCell (Nat.le_refl _) _).setCell (Nat.le_refl _) _).setCell (Nat.le_refl _) _).setCell (Nat.le_refl _) _).setCell (Nat.le_refl _) _).setCell (Nat.le_refl _) _, ?_⟩
        have := HS.out
        simp [World.setCell]
        omega
    · have hj' : j = ps.length := by have := HK.out; omega
      have hlt : decide ((j : Int) < (ps.length : Int)) = false := by simpa using hj
      subst hj'
      have hz2 : wr.heap[w.heap.size + 1]? = some (.cells #[.bool false, .slice none 0 0, .int .i64 0, .bool false, .string ⟨#[]⟩, .string ⟨#[]⟩] 33 (0, 0)) := (HB.out.block _ (by omega)).trans HZ1.out
      have t0 : wr.cell? ⟨w.heap.size + 1, 0, none⟩ = some (.bool false) := cell_at hz2 rfl
      have g0 := frozen_at (o := 0) hz2
      have t1 : wr.cell? ⟨w.heap.size + 1, 1, none⟩ = some (.slice none 0 0) := cell_at hz2 rfl
      have g1 := frozen_at (o := 1) hz2
      have t2 : wr.cell? ⟨w.heap.size + 1, 2, none⟩ = some (.int .i64 0) := cell_at hz2 rfl
      have g2 := frozen_at (o := 2) hz2
      have t3 : wr.cell? ⟨w.heap.size + 1, 3, none⟩ = some (.bool false) := cell_at hz2 rfl
      have g3 := frozen_at (o := 3) hz2
      have t4 : wr.cell? ⟨w.heap.size + 1, 4, none⟩ = some (.string ⟨#[]⟩) := cell_at hz2 rfl
      have g4 := frozen_at (o := 4) hz2
      have t5 : wr.cell? ⟨w.heap.size + 1, 5, none⟩ = some (.string ⟨#[]⟩) := cell_at hz2 rfl
      have g5 := frozen_at (o := 5) hz2
      have HZ2 := Lib.hid hz2
      clear hk hz2 d4
      go_wp2_with fail
      refine bodyPost_ret (v := .agg #[.bool false, .slice none 0 0, .int .i64 0, .bool false, .string ⟨#[]⟩, .string ⟨#[]⟩]) (by simp [results, Tryd.results11, go_sem, t0, t1, t2, t3, t4, t5]) rfl ?_
      have hB : Below w.heap.size w wr := ((((Below.refl _ w).alloc (Nat.le_refl _) _).alloc (by simp) _).trans (BO.out.mono (by omega))).trans (HB.out.mono (by omega))
      have hle : w.heap.size ≤ w.heap.size + 1 := by omega
      exact ⟨none, 0, rfl, fun _ => rfl, fun h => absurd h (by simp), (((((hB.setCell hle _).setCell hle _).setCell hle _).setCell hle _).setCell hle _).setCell hle _⟩

set_option maxRecDepth 100000 in
set_option maxHeartbeats 2000000 in
theorem should_need (x y : ByteArray) (k : Int) (A : Option Addr) (n c : Nat) (ps : List ByteArray) (lo hi : Nat) (w : World) (hk0 : k ≠ 0) (h0 : -2147483648 ≤ k) (h1 : k ≤ 2147483647) (hn : n = ps.length) (hps : n ≤ 1000000) (hr : RowS w lo hi A ps) (hhi : hi ≤ w.heap.size) :
    Calls Tryd.prog 11 #[.agg #[.bool true, .string x, .string y, .int .i32 k, .slice A n c]] w (RetV true ps 20 true x y w) := by
  subst hn
  have HR := Lib.hid hr
  clear hr
  go_enter Tryd.func11, Tryd.ntmps11
  go_wp2_with fail
  refine (refOf_num _ _ hk0).mono ?_
  rintro r wo ⟨rfl, bo⟩
  have c0 := bcell bo (by simp; omega) (show ((w.alloc (.cells #[.bool true, .string x, .string y, .int .i32 k, .slice A ps.length c] 24)).alloc (.cells #[.bool false, .slice none 0 0, .int .i64 0, .bool false, .string ⟨#[]⟩, .string ⟨#[]⟩] 33)).cell? ⟨w.heap.size, 0, none⟩ = some (.bool true) by simp [go_sem])
  have c1 := bcell bo (by simp; omega) (show ((w.alloc (.cells #[.bool true, .string x, .string y, .int .i32 k, .slice A ps.length c] 24)).alloc (.cells #[.bool false, .slice none 0 0, .int .i64 0, .bool false, .string ⟨#[]⟩, .string ⟨#[]⟩] 33)).cell? ⟨w.heap.size, 1, none⟩ = some (.string x) by simp [go_sem])
  have c2 := bcell bo (by simp; omega) (show ((w.alloc (.cells #[.bool true, .string x, .string y, .int .i32 k, .slice A ps.length c] 24)).alloc (.cells #[.bool false, .slice none 0 0, .int .i64 0, .bool false, .string ⟨#[]⟩, .string ⟨#[]⟩] 33)).cell? ⟨w.heap.size, 2, none⟩ = some (.string y) by simp [go_sem])
  have c4 := bcell bo (by simp; omega) (show ((w.alloc (.cells #[.bool true, .string x, .string y, .int .i32 k, .slice A ps.length c] 24)).alloc (.cells #[.bool false, .slice none 0 0, .int .i64 0, .bool false, .string ⟨#[]⟩, .string ⟨#[]⟩] 33)).cell? ⟨w.heap.size, 4, none⟩ = some (.slice A ps.length c) by simp [go_sem])
  have hz1 : wo.heap[w.heap.size + 1]? = some (.cells #[.bool false, .slice none 0 0, .int .i64 0, .bool false, .string ⟨#[]⟩, .string ⟨#[]⟩] 33 (0, 0)) := (bo.block _ (by simp)).trans (by simpa using heap_alloc_new (w.alloc (.cells #[.bool true, .string x, .string y, .int .i32 k, .slice A ps.length c] 24)) (.cells #[.bool false, .slice none 0 0, .int .i64 0, .bool false, .string ⟨#[]⟩, .string ⟨#[]⟩] 33))
  have hso := bo.size
  rw [World.size_alloc, World.size_alloc] at hso
  have hl0 : w.heap.size < wo.heap.size := by omega
  have BO := Lib.hid (show Below (w.heap.size + 2) ((w.alloc (.cells #[.bool true, .string x, .string y, .int .i32 k, .slice A ps.length c] 24)).alloc (.cells #[.bool false, .slice none 0 0, .int .i64 0, .bool false, .string ⟨#[]⟩, .string ⟨#[]⟩] 33)) wo by simpa using bo)
  have HZ1 := Lib.hid hz1
  clear bo hz1 hk0
  go_wp2_with fail
  refine (refAsk_any _ _ _).mono ?_
  rintro r wa ⟨rfl, ba⟩
  have hc3 : wa.heap[wo.heap.size]? = some (.cells #[.bool true, .slice none 0 0, .int .i64 k, .bool false, .string ⟨#[]⟩, .string ⟨#[]⟩] 33 (0, 0)) := (ba.block _ (by simp)).trans (heap_alloc_new wo _)
  have t0 : wa.cell? ⟨wo.heap.size, 0, none⟩ = some (.bool true) := cell_at hc3 rfl
  have g0 := frozen_at (o := 0) hc3
  have t1 : wa.cell? ⟨wo.heap.size, 1, none⟩ = some (.slice none 0 0) := cell_at hc3 rfl
  have g1 := frozen_at (o := 1) hc3
  have t2 : wa.cell? ⟨wo.heap.size, 2, none⟩ = some (.int .i64 k) := cell_at hc3 rfl
  have g2 := frozen_at (o := 2) hc3
  have t3 : wa.cell? ⟨wo.heap.size, 3, none⟩ = some (.bool false) := cell_at hc3 rfl
  have g3 := frozen_at (o := 3) hc3
  have t4 : wa.cell? ⟨wo.heap.size, 4, none⟩ = some (.string ⟨#[]⟩) := cell_at hc3 rfl
  have g4 := frozen_at (o := 4) hc3
  have t5 : wa.cell? ⟨wo.heap.size, 5, none⟩ = some (.string ⟨#[]⟩) := cell_at hc3 rfl
  have g5 := frozen_at (o := 5) hc3
  have d4 : wa.cell? ⟨w.heap.size, 4, none⟩ = some (.slice A ps.length c) := bcell ba (by simp; omega) (cell_alloc c4 _)
  have HC3 := Lib.hid hc3
  have BA := Lib.hid (show Below wo.heap.size wo wa from ((Below.refl _ wo).alloc (Nat.le_refl _) _).trans (ba.mono (by simp)))
  have hsa := ba.size
  rw [World.size_alloc] at hsa
  clear ba hc3
  go_wp2_with fail
  go_loopg [19] ps.length (fun q i wr => ∃ (j : Nat) (A' : Option Addr) (c' : Nat), j + q = ps.length ∧ i = .int .i64 j ∧ wr.heap[wo.heap.size]? = some (.cells #[.bool true, .slice A' j c', .int .i64 20, .bool true, .string x, .string y] 33 (0, 0)) ∧ (A' = none → c' = 0) ∧ RowS wr wo.heap.size wr.heap.size A' (ps.drop (ps.length - j)) ∧ Below wo.heap.size wo wr ∧ wo.heap.size < wr.heap.size)
  case atStart =>
    refine ⟨0, none, 0, by omega, rfl, set6 HC3.out _ _ _ _ _ _, fun _ => rfl, fun h => (by rw [Nat.sub_zero, List.drop_length] at h; exact absurd h (by simp)), ?_, ?_⟩
    · exact (((((BA.out.setCell (Nat.le_refl _) _).setCell (Nat.le_refl _) _).setCell (Nat.le_refl _) _).setCell (Nat.le_refl _) _).setCell (Nat.le_refl _) _).setCell (Nat.le_refl _) _
    · simp [World.setCell]; omega
  case round =>
    obtain ⟨j, A', c', hk, rfl, hc, hz, hrow, hb, hsz⟩ := hrel
    have HK := Lib.hid hk
    have HC := Lib.hid hc
    have HB := Lib.hid hb
    have HZ := Lib.hid hz
    have HROW := Lib.hid hrow
    have d4 := bcell hb hl0 c4
    have r0 : wr.cell? ⟨wo.heap.size, 0, none⟩ = some (.bool true) := cell_at hc rfl
    have r1 : wr.cell? ⟨wo.heap.size, 1, none⟩ = some (.slice A' j c') := cell_at hc rfl
    have r2 : wr.cell? ⟨wo.heap.size, 2, none⟩ = some (.int .i64 20) := cell_at hc rfl
    have r3 : wr.cell? ⟨wo.heap.size, 3, none⟩ = some (.bool true) := cell_at hc rfl
    have r4 : wr.cell? ⟨wo.heap.size, 4, none⟩ = some (.string x) := cell_at hc rfl
    have r5 : wr.cell? ⟨wo.heap.size, 5, none⟩ = some (.string y) := cell_at hc rfl
    clear hc hb hz hrow
    by_cases hj : j < ps.length
    · have hlt : decide ((j : Int) < (ps.length : Int)) = true := by simpa using hj
      have HRW := HR.out.below (((((Below.refl _ w).alloc (Nat.le_refl _) _).alloc (by simp) _).trans (BO.out.mono (by omega))).trans (HB.out.mono (by omega))) hhi
      obtain ⟨b, o, rfl, d1⟩ := HRW.at_ (k := ps.length - 1 - j) (by omega)
      have HW := Lib.hid (wrap_loop hj)
      generalize ps[ps.length - 1 - j] = pj at d1 HW
      obtain ⟨idx, hidx⟩ : ∃ idx, ps.length - 1 - j = idx := ⟨_, rfl⟩
      rw [hidx] at d1
      have hil : idx < ps.length := by omega
      clear hk HRW
      go_wp2_with fail
      have HJ := Lib.hid (show j = (ps.drop (ps.length - j)).length by simp; omega)
      have HL := Lib.hid (show (ps.drop (ps.length - j)).length ≤ 1000000 by simp; omega)
      have s1 : IntKind.i64.wrap ((ps.length : Int) - 1) = (ps.length : Int) - 1 := IntWalk.i64_in _ (by omega)
      have s2 : IntKind.i64.wrap ((ps.length : Int) - 1 - (j : Int)) = (idx : Int) := by rw [IntWalk.i64_in _ (by omega)]; omega
      have HI := Lib.hid hidx
      clear hidx
      have HS := Lib.hid hsz
      go_still_tail 11, (by kernel_rfl)
      change wpList _ _ _ _ _ wr.drew
      clear s1 s2 d1 d4 r0 r1 r2 r3 r4 r5
      go_wp2_with fail
      refine (refWrap_any pj (ps.drop (ps.length - j)) A' j c' 20 true x y _ _ _ HJ.out HZ.out (by exact HROW.out) (Nat.le_refl _) HL.out).mono ?_
      rintro r w2 ⟨A2, c2, rfl, hl2, hz2, hr2, hb2⟩
      have hj1 : (pj :: ps.drop (ps.length - j)).length = j + 1 := by rw [List.length_cons, ← HJ.out]
      rw [hj1]
      clear hj1
      have hc2 : w2.heap[wo.heap.size]? = some (.cells #[.bool true, .slice A' j c', .int .i64 20, .bool true, .string x, .string y] 33 (0, 0)) := (hb2.block _ HS.out).trans HC.out
      have t0 : w2.cell? ⟨wo.heap.size, 0, none⟩ = some (.bool true) := cell_at hc2 rfl
      have g0 := frozen_at (o := 0) hc2
      have t1 : w2.cell? ⟨wo.heap.size, 1, none⟩ = some (.slice A' j c') := cell_at hc2 rfl
      have g1 := frozen_at (o := 1) hc2
      have t2 : w2.cell? ⟨wo.heap.size, 2, none⟩ = some (.int .i64 20) := cell_at hc2 rfl
      have g2 := frozen_at (o := 2) hc2
      have t3 : w2.cell? ⟨wo.heap.size, 3, none⟩ = some (.bool true) := cell_at hc2 rfl
      have g3 := frozen_at (o := 3) hc2
      have t4 : w2.cell? ⟨wo.heap.size, 4, none⟩ = some (.string x) := cell_at hc2 rfl
      have g4 := frozen_at (o := 4) hc2
      have t5 : w2.cell? ⟨wo.heap.size, 5, none⟩ = some (.string y) := cell_at hc2 rfl
      have g5 := frozen_at (o := 5) hc2
      have HC2 := Lib.hid hc2
      have HB2 := Lib.hid (show Below wr.heap.size wr w2 from ⟨hb2.os, hb2.tape, hb2.output, hb2.size, hb2.block⟩)
      clear hc2 hb2
      have HX := Lib.hid (And.intro hz2 hr2)
      clear hl2 hz2 hr2
      go_wp2_with fail
      go_roundg (gk - 1)
      case measure => have := HK.out; omega
      case rel =>
        have hs2 := HB2.out.size
        have hs3 : wr.heap.size ≤ w2.heap.size := hs2
        have hB : Below wo.heap.size wo w2 := HB.out.trans (HB2.out.mono (Nat.le_of_lt HS.out))
        refine ⟨j + 1, A2, c2, by have := HK.out; omega, by go_num, ?_, HX.out.1, ?_, (((((hB.setCell (Nat.le_refl _) _).setCell (Nat.le_refl _) _).setCell (Nat.le_refl _) _).setCell (Nat.le_refl _) _).setCell (Nat.le_refl _) _).setCell (Nat.le_refl _) _, ?_⟩
        · exact set6 HC2.out _ _ _ _ _ _
        · rw [HW.out]
          refine RowS.wide (lo := wr.heap.size) (hi := w2.heap.size) (rowS_set (rowS_set (rowS_set (rowS_set (rowS_set (rowS_set HX.out.2 HS.out _) HS.out _) HS.out _) HS.out _) HS.out _) HS.out _) (Nat.le_of_lt HS.out) ?_
          simp [World.setCell]
        · have := HS.out
          simp [World.setCell]
          omega
    · have hj' : j = ps.length := by have := HK.out; omega
      have hlt : decide ((j : Int) < (ps.length : Int)) = false := by simpa using hj
      subst hj'
      have hz2 : wr.heap[w.heap.size + 1]? = some (.cells #[.bool false, .slice none 0 0, .int .i64 0, .bool false, .string ⟨#[]⟩, .string ⟨#[]⟩] 33 (0, 0)) := (HB.out.block _ (by omega)).trans HZ1.out
      have t0 : wr.cell? ⟨w.heap.size + 1, 0, none⟩ = some (.bool false) := cell_at hz2 rfl
      have g0 := frozen_at (o := 0) hz2
      have t1 : wr.cell? ⟨w.heap.size + 1, 1, none⟩ = some (.slice none 0 0) := cell_at hz2 rfl
      have g1 := frozen_at (o := 1) hz2
      have t2 : wr.cell? ⟨w.heap.size + 1, 2, none⟩ = some (.int .i64 0) := cell_at hz2 rfl
      have g2 := frozen_at (o := 2) hz2
      have t3 : wr.cell? ⟨w.heap.size + 1, 3, none⟩ = some (.bool false) := cell_at hz2 rfl
      have g3 := frozen_at (o := 3) hz2
      have t4 : wr.cell? ⟨w.heap.size + 1, 4, none⟩ = some (.string ⟨#[]⟩) := cell_at hz2 rfl
      have g4 := frozen_at (o := 4) hz2
      have t5 : wr.cell? ⟨w.heap.size + 1, 5, none⟩ = some (.string ⟨#[]⟩) := cell_at hz2 rfl
      have g5 := frozen_at (o := 5) hz2
      have HZ2 := Lib.hid hz2
      clear hk hz2 d4
      go_wp2_with fail
      refine bodyPost_ret (v := .agg #[.bool true, .slice A' ps.length c', .int .i64 20, .bool true, .string x, .string y]) (by simp [results, Tryd.results11, go_sem, t0, t1, t2, t3, t4, t5]) rfl ?_
      have hB : Below w.heap.size w wr := ((((Below.refl _ w).alloc (Nat.le_refl _) _).alloc (by simp) _).trans (BO.out.mono (by omega))).trans (HB.out.mono (by omega))
      have hle : w.heap.size ≤ w.heap.size + 1 := by omega
      have hrow := HROW.out
      rw [Nat.sub_self, List.drop_zero] at hrow
      have hlt1 : w.heap.size + 1 < wo.heap.size := by omega
      refine ⟨A', c', rfl, HZ.out, RowS.wide (lo := wo.heap.size) (hi := wr.heap.size) (rowS_set (rowS_set (rowS_set (rowS_set (rowS_set (rowS_set hrow hlt1 _) hlt1 _) hlt1 _) hlt1 _) hlt1 _) hlt1 _) (by omega) ?_, (((((hB.setCell hle _).setCell hle _).setCell hle _).setCell hle _).setCell hle _).setCell hle _⟩
      simp [World.setCell]

set_option maxRecDepth 100000 in
set_option maxHeartbeats 2000000 in
theorem should_need0 (x y : ByteArray) (A : Option Addr) (n c : Nat) (ps : List ByteArray) (lo hi : Nat) (w : World) (hn : n = ps.length) (hps : n ≤ 1000000) (hr : RowS w lo hi A ps) (hhi : hi ≤ w.heap.size) :
    Calls Tryd.prog 11 #[.agg #[.bool true, .string x, .string y, .int .i32 0, .slice A n c]] w (RetV true ps 20 true x y w) := by
  subst hn
  have HR := Lib.hid hr
  clear hr
  go_enter Tryd.func11, Tryd.ntmps11
  go_wp2_with fail
  refine (refOf_zero _).mono ?_
  rintro r wo ⟨rfl, bo⟩
  have c0 := bcell bo (by simp; omega) (show ((w.alloc (.cells #[.bool true, .string x, .string y, .int .i32 0, .slice A ps.length c] 24)).alloc (.cells #[.bool false, .slice none 0 0, .int .i64 0, .bool false, .string ⟨#[]⟩, .string ⟨#[]⟩] 33)).cell? ⟨w.heap.size, 0, none⟩ = some (.bool true) by simp [go_sem])
  have c1 := bcell bo (by simp; omega) (show ((w.alloc (.cells #[.bool true, .string x, .string y, .int .i32 0, .slice A ps.length c] 24)).alloc (.cells #[.bool false, .slice none 0 0, .int .i64 0, .bool false, .string ⟨#[]⟩, .string ⟨#[]⟩] 33)).cell? ⟨w.heap.size, 1, none⟩ = some (.string x) by simp [go_sem])
  have c2 := bcell bo (by simp; omega) (show ((w.alloc (.cells #[.bool true, .string x, .string y, .int .i32 0, .slice A ps.length c] 24)).alloc (.cells #[.bool false, .slice none 0 0, .int .i64 0, .bool false, .string ⟨#[]⟩, .string ⟨#[]⟩] 33)).cell? ⟨w.heap.size, 2, none⟩ = some (.string y) by simp [go_sem])
  have c4 := bcell bo (by simp; omega) (show ((w.alloc (.cells #[.bool true, .string x, .string y, .int .i32 0, .slice A ps.length c] 24)).alloc (.cells #[.bool false, .slice none 0 0, .int .i64 0, .bool false, .string ⟨#[]⟩, .string ⟨#[]⟩] 33)).cell? ⟨w.heap.size, 4, none⟩ = some (.slice A ps.length c) by simp [go_sem])
  have hz1 : wo.heap[w.heap.size + 1]? = some (.cells #[.bool false, .slice none 0 0, .int .i64 0, .bool false, .string ⟨#[]⟩, .string ⟨#[]⟩] 33 (0, 0)) := (bo.block _ (by simp)).trans (by simpa using heap_alloc_new (w.alloc (.cells #[.bool true, .string x, .string y, .int .i32 0, .slice A ps.length c] 24)) (.cells #[.bool false, .slice none 0 0, .int .i64 0, .bool false, .string ⟨#[]⟩, .string ⟨#[]⟩] 33))
  have hso := bo.size
  rw [World.size_alloc, World.size_alloc] at hso
  have hl0 : w.heap.size < wo.heap.size := by omega
  have BO := Lib.hid (show Below (w.heap.size + 2) ((w.alloc (.cells #[.bool true, .string x, .string y, .int .i32 0, .slice A ps.length c] 24)).alloc (.cells #[.bool false, .slice none 0 0, .int .i64 0, .bool false, .string ⟨#[]⟩, .string ⟨#[]⟩] 33)) wo by simpa using bo)
  have HZ1 := Lib.hid hz1
  clear bo hz1
  go_wp2_with fail
  refine (refAsk_any _ _ _).mono ?_
  rintro r wa ⟨rfl, ba⟩
  have hc3 : wa.heap[wo.heap.size]? = some (.cells #[.bool false, .slice none 0 0, .int .i64 0, .bool false, .string ⟨#[]⟩, .string ⟨#[]⟩] 33 (0, 0)) := (ba.block _ (by simp)).trans (heap_alloc_new wo _)
  have t0 : wa.cell? ⟨wo.heap.size, 0, none⟩ = some (.bool false) := cell_at hc3 rfl
  have g0 := frozen_at (o := 0) hc3
  have t1 : wa.cell? ⟨wo.heap.size, 1, none⟩ = some (.slice none 0 0) := cell_at hc3 rfl
  have g1 := frozen_at (o := 1) hc3
  have t2 : wa.cell? ⟨wo.heap.size, 2, none⟩ = some (.int .i64 0) := cell_at hc3 rfl
  have g2 := frozen_at (o := 2) hc3
  have t3 : wa.cell? ⟨wo.heap.size, 3, none⟩ = some (.bool false) := cell_at hc3 rfl
  have g3 := frozen_at (o := 3) hc3
  have t4 : wa.cell? ⟨wo.heap.size, 4, none⟩ = some (.string ⟨#[]⟩) := cell_at hc3 rfl
  have g4 := frozen_at (o := 4) hc3
  have t5 : wa.cell? ⟨wo.heap.size, 5, none⟩ = some (.string ⟨#[]⟩) := cell_at hc3 rfl
  have g5 := frozen_at (o := 5) hc3
  have d4 : wa.cell? ⟨w.heap.size, 4, none⟩ = some (.slice A ps.length c) := bcell ba (by simp; omega) (cell_alloc c4 _)
  have HC3 := Lib.hid hc3
  have BA := Lib.hid (show Below wo.heap.size wo wa from ((Below.refl _ wo).alloc (Nat.le_refl _) _).trans (ba.mono (by simp)))
  have hsa := ba.size
  rw [World.size_alloc] at hsa
  clear ba hc3
  go_wp2_with fail
  go_loopg [19] ps.length (fun q i wr => ∃ (j : Nat) (A' : Option Addr) (c' : Nat), j + q = ps.length ∧ i = .int .i64 j ∧ wr.heap[wo.heap.size]? = some (.cells #[.bool true, .slice A' j c', .int .i64 20, .bool true, .string x, .string y] 33 (0, 0)) ∧ (A' = none → c' = 0) ∧ RowS wr wo.heap.size wr.heap.size A' (ps.drop (ps.length - j)) ∧ Below wo.heap.size wo wr ∧ wo.heap.size < wr.heap.size)
  case atStart =>
    refine ⟨0, none, 0, by omega, rfl, set6 HC3.out _ _ _ _ _ _, fun _ => rfl, fun h => (by rw [Nat.sub_zero, List.drop_length] at h; exact absurd h (by simp)), ?_, ?_⟩
    · exact (((((BA.out.setCell (Nat.le_refl _) _).setCell (Nat.le_refl _) _).setCell (Nat.le_refl _) _).setCell (Nat.le_refl _) _).setCell (Nat.le_refl _) _).setCell (Nat.le_refl _) _
    · simp [World.setCell]; omega
  case round =>
    obtain ⟨j, A', c', hk, rfl, hc, hz, hrow, hb, hsz⟩ := hrel
    have HK := Lib.hid hk
    have HC := Lib.hid hc
    have HB := Lib.hid hb
    have HZ := Lib.hid hz
    have HROW := Lib.hid hrow
    have d4 := bcell hb hl0 c4
    have r0 : wr.cell? ⟨wo.heap.size, 0, none⟩ = some (.bool true) := cell_at hc rfl
    have r1 : wr.cell? ⟨wo.heap.size, 1, none⟩ = some (.slice A' j c') := cell_at hc rfl
    have r2 : wr.cell? ⟨wo.heap.size, 2, none⟩ = some (.int .i64 20) := cell_at hc rfl
    have r3 : wr.cell? ⟨wo.heap.size, 3, none⟩ = some (.bool true) := cell_at hc rfl
    have r4 : wr.cell? ⟨wo.heap.size, 4, none⟩ = some (.string x) := cell_at hc rfl
    have r5 : wr.cell? ⟨wo.heap.size, 5, none⟩ = some (.string y) := cell_at hc rfl
    clear hc hb hz hrow
    by_cases hj : j < ps.length
    · have hlt : decide ((j : Int) < (ps.length : Int)) = true := by simpa using hj
      have HRW := HR.out.below (((((Below.refl _ w).alloc (Nat.le_refl _) _).alloc (by simp) _).trans (BO.out.mono (by omega))).trans (HB.out.mono (by omega))) hhi
      obtain ⟨b, o, rfl, d1⟩ := HRW.at_ (k := ps.length - 1 - j) (by omega)
      have HW := Lib.hid (wrap_loop hj)
      generalize ps[ps.length - 1 - j] = pj at d1 HW
      obtain ⟨idx, hidx⟩ : ∃ idx, ps.length - 1 - j = idx := ⟨_, rfl⟩
      rw [hidx] at d1
      have hil : idx < ps.length := by omega
      clear hk HRW
      go_wp2_with fail
      have HJ := Lib.hid (show j = (ps.drop (ps.length - j)).length by simp; omega)
      have HL := Lib.hid (show (ps.drop (ps.length - j)).length ≤ 1000000 by simp; omega)
      have s1 : IntKind.i64.wrap ((ps.length : Int) - 1) = (ps.length : Int) - 1 := IntWalk.i64_in _ (by omega)
      have s2 : IntKind.i64.wrap ((ps.length : Int) - 1 - (j : Int)) = (idx : Int) := by rw [IntWalk.i64_in _ (by omega)]; omega
      have HI := Lib.hid hidx
      clear hidx
      have HS := Lib.hid hsz
      go_still_tail 11, (by kernel_rfl)
      change wpList _ _ _ _ _ wr.drew
      clear s1 s2 d1 d4 r0 r1 r2 r3 r4 r5
      go_wp2_with fail
      refine (refWrap_any pj (ps.drop (ps.length - j)) A' j c' 20 true x y _ _ _ HJ.out HZ.out (by exact HROW.out) (Nat.le_refl _) HL.out).mono ?_
      rintro r w2 ⟨A2, c2, rfl, hl2, hz2, hr2, hb2⟩
      have hj1 : (pj :: ps.drop (ps.length - j)).length = j + 1 := by rw [List.length_cons, ← HJ.out]
      rw [hj1]
      clear hj1
      have hc2 : w2.heap[wo.heap.size]? = some (.cells #[.bool true, .slice A' j c', .int .i64 20, .bool true, .string x, .string y] 33 (0, 0)) := (hb2.block _ HS.out).trans HC.out
      have t0 : w2.cell? ⟨wo.heap.size, 0, none⟩ = some (.bool true) := cell_at hc2 rfl
      have g0 := frozen_at (o := 0) hc2
      have t1 : w2.cell? ⟨wo.heap.size, 1, none⟩ = some (.slice A' j c') := cell_at hc2 rfl
      have g1 := frozen_at (o := 1) hc2
      have t2 : w2.cell? ⟨wo.heap.size, 2, none⟩ = some (.int .i64 20) := cell_at hc2 rfl
      have g2 := frozen_at (o := 2) hc2
      have t3 : w2.cell? ⟨wo.heap.size, 3, none⟩ = some (.bool true) := cell_at hc2 rfl
      have g3 := frozen_at (o := 3) hc2
      have t4 : w2.cell? ⟨wo.heap.size, 4, none⟩ = some (.string x) := cell_at hc2 rfl
      have g4 := frozen_at (o := 4) hc2
      have t5 : w2.cell? ⟨wo.heap.size, 5, none⟩ = some (.string y) := cell_at hc2 rfl
      have g5 := frozen_at (o := 5) hc2
      have HC2 := Lib.hid hc2
      have HB2 := Lib.hid (show Below wr.heap.size wr w2 from ⟨hb2.os, hb2.tape, hb2.output, hb2.size, hb2.block⟩)
      clear hc2 hb2
      have HX := Lib.hid (And.intro hz2 hr2)
      clear hl2 hz2 hr2
      go_wp2_with fail
      go_roundg (gk - 1)
      case measure => have := HK.out; omega
      case rel =>
        have hs2 := HB2.out.size
        have hs3 : wr.heap.size ≤ w2.heap.size := hs2
        have hB : Below wo.heap.size wo w2 := HB.out.trans (HB2.out.mono (Nat.le_of_lt HS.out))
        refine ⟨j + 1, A2, c2, by have := HK.out; omega, by go_num, ?_, HX.out.1, ?_, (((((hB.setCell (Nat.le_refl _) _).setCell (Nat.le_refl _) _).setCell (Nat.le_refl _) _).setCell (Nat.le_refl _) _).setCell (Nat.le_refl _) _).setCell (Nat.le_refl _) _, ?_⟩
        · exact set6 HC2.out _ _ _ _ _ _
        · rw [HW.out]
          refine RowS.wide (lo := wr.heap.size) (hi := w2.heap.size) (rowS_set (rowS_set (rowS_set (rowS_set (rowS_set (rowS_set HX.out.2 HS.out _) HS.out _) HS.out _) HS.out _) HS.out _) HS.out _) (Nat.le_of_lt HS.out) ?_
          simp [World.setCell]
        · have := HS.out
          simp [World.setCell]
          omega
    · have hj' : j = ps.length := by have := HK.out; omega
      have hlt : decide ((j : Int) < (ps.length : Int)) = false := by simpa using hj
      subst hj'
      have hz2 : wr.heap[w.heap.size + 1]? = some (.cells #[.bool false, .slice none 0 0, .int .i64 0, .bool false, .string ⟨#[]⟩, .string ⟨#[]⟩] 33 (0, 0)) := (HB.out.block _ (by omega)).trans HZ1.out
      have t0 : wr.cell? ⟨w.heap.size + 1, 0, none⟩ = some (.bool false) := cell_at hz2 rfl
      have g0 := frozen_at (o := 0) hz2
      have t1 : wr.cell? ⟨w.heap.size + 1, 1, none⟩ = some (.slice none 0 0) := cell_at hz2 rfl
      have g1 := frozen_at (o := 1) hz2
      have t2 : wr.cell? ⟨w.heap.size + 1, 2, none⟩ = some (.int .i64 0) := cell_at hz2 rfl
      have g2 := frozen_at (o := 2) hz2
      have t3 : wr.cell? ⟨w.heap.size + 1, 3, none⟩ = some (.bool false) := cell_at hz2 rfl
      have g3 := frozen_at (o := 3) hz2
      have t4 : wr.cell? ⟨w.heap.size + 1, 4, none⟩ = some (.string ⟨#[]⟩) := cell_at hz2 rfl
      have g4 := frozen_at (o := 4) hz2
      have t5 : wr.cell? ⟨w.heap.size + 1, 5, none⟩ = some (.string ⟨#[]⟩) := cell_at hz2 rfl
      have g5 := frozen_at (o := 5) hz2
      have HZ2 := Lib.hid hz2
      clear hk hz2 d4
      go_wp2_with fail
      refine bodyPost_ret (v := .agg #[.bool true, .slice A' ps.length c', .int .i64 20, .bool true, .string x, .string y]) (by simp [results, Tryd.results11, go_sem, t0, t1, t2, t3, t4, t5]) rfl ?_
      have hB : Below w.heap.size w wr := ((((Below.refl _ w).alloc (Nat.le_refl _) _).alloc (by simp) _).trans (BO.out.mono (by omega))).trans (HB.out.mono (by omega))
      have hle : w.heap.size ≤ w.heap.size + 1 := by omega
      have hrow := HROW.out
      rw [Nat.sub_self, List.drop_zero] at hrow
      have hlt1 : w.heap.size + 1 < wo.heap.size := by omega
      refine ⟨A', c', rfl, HZ.out, RowS.wide (lo := wo.heap.size) (hi := wr.heap.size) (rowS_set (rowS_set (rowS_set (rowS_set (rowS_set (rowS_set hrow hlt1 _) hlt1 _) hlt1 _) hlt1 _) hlt1 _) hlt1 _) (by omega) ?_, (((((hB.setCell hle _).setCell hle _).setCell hle _).setCell hle _).setCell hle _).setCell hle _⟩
      simp [World.setCell]
end Go.Proofs.YtdlmnhpmdidkeaaDoor
