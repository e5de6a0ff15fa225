/-
  Variables: slices of them that read as a list; few of the statements on values.
-/
import Derived.Test.YtepniiaojhiogaaDoorVEq
namespace Go.Proofs.YtepniiaojhiogaaDoor
open Go.RowKit

def varVal (x : VN) : Value := .agg #[.string x.1, .int .i64 x.2.k, .int .i64 x.2.n, .string x.2.s]
/-- The cells of a variable stand at a place. -/
def VarAt (w : World) (b o : Nat) (x : VN) : Prop :=
  w.cell? ⟨b, o, none⟩ = some (.string x.1) ∧ w.cell? ⟨b, o + 1, none⟩ = some (.int .i64 x.2.k) ∧ w.cell? ⟨b, o + 2, none⟩ = some (.int .i64 x.2.n) ∧ w.cell? ⟨b, o + 3, none⟩ = some (.string x.2.s)
/-- A slice at A reads as the variables l, in a block from lo on and below hi; of an empty one nothing is asked. -/
def RowN (w : World) (lo hi : Nat) (A : Option Addr) (l : List VN) : Prop :=
  0 < l.length → ∃ b o, A = some ⟨b, o, none⟩ ∧ lo ≤ b ∧ b < hi ∧ ∀ j (h : j < l.length), VarAt w b (o + j * 4) (l[j]'h)
theorem VarAt.below {w w' : World} {B b o : Nat} {x : VN} (h : VarAt w b o x) (hb : Below B w w') (hB : b < B) : VarAt w' b o x :=
  ⟨(hb.cell (p := ⟨b, o, none⟩) hB).trans h.1, (hb.cell (p := ⟨b, o + 1, none⟩) hB).trans h.2.1, (hb.cell (p := ⟨b, o + 2, none⟩) hB).trans h.2.2.1, (hb.cell (p := ⟨b, o + 3, none⟩) hB).trans h.2.2.2⟩
theorem RowN.below {w w' : World} {lo hi B : Nat} {A : Option Addr} {l : List VN} (h : RowN w lo hi A l) (hb : Below B w w') (hB : hi ≤ B) : RowN w' lo hi A l := fun hn => by
  obtain ⟨b, o, e, h1, h2, hc⟩ := h hn
  exact ⟨b, o, e, h1, h2, fun j hj => (hc j hj).below hb (Nat.lt_of_lt_of_le h2 hB)⟩
theorem RowN.wide {w : World} {lo hi lo' hi' : Nat} {A : Option Addr} {l : List VN} (h : RowN w lo hi A l) (h1 : lo' ≤ lo) (h2 : hi ≤ hi') : RowN w lo' hi' A l := fun hn => by
  obtain ⟨b, o, e, h3, h4, hc⟩ := h hn
  exact ⟨b, o, e, by omega, by omega, hc⟩
theorem RowN.at_ {w : World} {lo hi k : Nat} {A : Option Addr} {l : List VN} (h : RowN w lo hi A l) (hk : k < l.length) : ∃ b o, A = some ⟨b, o, none⟩ ∧ VarAt w b (o + k * 4) (l[k]'hk) := by
  obtain ⟨b, o, e, _, _, hc⟩ := h (by omega)
  exact ⟨b, o, e, hc k hk⟩

theorem RowN.take {w : World} {lo hi : Nat} {A : Option Addr} {l : List VN} (h : RowN w lo hi A l) (k : Nat) : RowN w lo hi A (l.take k) := fun hn => by
  rw [List.length_take] at hn
  obtain ⟨b, o, rfl, h1, h2, hc⟩ := h (by omega)
  refine ⟨b, o, rfl, h1, h2, fun j hj => ?_⟩
  rw [List.length_take] at hj
  rw [List.getElem_take]
  exact hc j (by omega)
theorem RowN.drop {w : World} {lo hi : Nat} {A : Option Addr} {l : List VN} (h : RowN w lo hi A l) (k cap : Nat) (hc : l.length ≤ cap) (hk : k ≤ l.length) : RowN w lo hi (if cap = k then A else A.map (·.add (k * 4))) (l.drop k) := fun hn => by
  rw [List.length_drop] at hn
  obtain ⟨b, o, rfl, h1, h2, hcell⟩ := h (by omega)
  rw [if_neg (by omega)]
  refine ⟨b, o + k * 4, by simp [addr_add], h1, h2, fun j hj => ?_⟩
  rw [List.length_drop] at hj
  rw [List.getElem_drop, show o + k * 4 + j * 4 = o + (k + j) * 4 by omega]
  exact hcell (k + j) (by omega)

/-- Are these few short variables? -/
def fewVar (x : VN) : Bool := decide (x.1.size ≤ 100) && decide (x.2.s.size ≤ 200)
def fewV (l : List VN) : Bool := l.all fewVar && decide (l.length ≤ 40)
theorem fewV_yes {l : List VN} (h : fewV l = true) : (∀ x ∈ l, x.1.size ≤ 100 ∧ x.2.s.size ≤ 200) ∧ l.length ≤ 40 := by
  unfold fewV at h
  rw [Bool.and_eq_true, List.all_eq_true] at h
  exact ⟨fun x hx => by simpa [fewVar] using h.1 x hx, by simpa using h.2⟩

set_option maxRecDepth 100000 in
set_option maxHeartbeats 2000000 in
theorem fewV_any (l : List VN) (A : Option Addr) (c : Nat) (lo hi : Nat) (w : World) (hl : l.length ≤ 9223372036854775807) (hn : ∀ x ∈ l, x.1.size ≤ 9223372036854775807 ∧ x.2.s.size ≤ 9223372036854775807) (hr : RowN w lo hi A l) (hhi : hi ≤ w.heap.size) :
    Calls Tryd.prog 26 #[.slice A l.length c] w fun r w' => r = .returned (.bool (fewV l)) ∧ Below w.heap.size w w' := by
  have HR := Lib.hid hr
  have HN := Lib.hid hn
  clear hr hn
  go_enter Tryd.func26, Tryd.ntmps26
  go_wp2
  go_loopg [7] l.length (fun q i wr => ∃ j : Nat, j + q = l.length ∧ i = .int .i64 j ∧ (l.take j).all fewVar = true ∧ Below w.heap.size w wr)
  case atStart => exact ⟨0, by omega, rfl, rfl, Below.refl _ _⟩
  case round =>
    obtain ⟨j, hk, rfl, hall, hb⟩ := hrel
    have HK := Lib.hid hk
    have HA := Lib.hid hall
    have HB := Lib.hid hb
    clear hall hb hk
    by_cases hj : j < l.length
    · have hlt : decide ((j : Int) < (l.length : Int)) = true := by simpa using hj
      have hlt2 : decide (j < l.length) = true := by simpa using hj
      obtain ⟨b, o, rfl, hv⟩ := (HR.out.below HB.out hhi).at_ hj
      obtain ⟨c0, c1, c2, c3⟩ := hv
      have hsz := HN.out _ (List.getElem_mem hj)
      have HTS := Lib.hid (show l.take (j + 1) = l.take j ++ [l[j]] from by rw [List.take_succ_eq_append_getElem hj])
      have HM := Lib.hid (List.getElem_mem hj)
      generalize l[j] = x at *
      obtain ⟨nm, k, n, s⟩ := x
      simp only at c0 c1 c2 c3 hsz
      have HM2 := Lib.hid (fun (h : fewVar (nm, ⟨k, n, s⟩) = false) => (show fewV l = false by
        unfold fewV
        rw [Bool.and_eq_false_iff]
        left
        rw [List.all_eq_false]
        exact ⟨_, HM.out, by simpa using h⟩))
      have hbn := HB.out.alloc HB.out.size (.cells #[.string nm, .int .i64 k, .int .i64 n, .string s] 47)
      have HBN := Lib.hid hbn
      clear hbn hsz
      by_cases h1 : 100 < nm.size
      · have d1 : decide (100 < (nm.size : Int)) = true := by rw [decide_eq_true_iff]; omega
        have HF := Lib.hid (HM2.out (by simp [fewVar, show ¬ nm.size ≤ 100 by omega]))
        clear h1
        go_wp2
        go_ret
        rw [HF.out]
        exact ⟨rfl, HBN.out⟩
      · have d1 : decide (100 < (nm.size : Int)) = false := by rw [decide_eq_false_iff_not]; omega
        by_cases h2 : 200 < s.size
        · have d2 : decide (200 < (s.size : Int)) = true := by rw [decide_eq_true_iff]; omega
          have HF := Lib.hid (HM2.out (by simp [fewVar, show ¬ s.size ≤ 200 by omega]))
          clear h1 h2
          go_wp2
          go_ret
          rw [HF.out]
          exact ⟨rfl, HBN.out⟩
        · have d2 : decide (200 < (s.size : Int)) = false := by rw [decide_eq_false_iff_not]; omega
          have HF := Lib.hid (show fewVar (nm, ⟨k, n, s⟩) = true by simp [fewVar, show nm.size ≤ 100 by omega, show s.size ≤ 200 by omega])
          clear h1 h2
          go_wp2
          go_roundg (gk - 1)
          case measure => have := HK.out; omega
          case rel => exact ⟨j + 1, by have := HK.out; omega, by go_num, by rw [HTS.out, List.all_append, HA.out]; simp [HF.out], HBN.out⟩
    · have hj' : j = l.length := by have := HK.out; omega
      have hlt : decide ((j : Int) < (l.length : Int)) = false := by simpa using hj
      have HF := Lib.hid (show fewV l = decide ((l.length : Int) ≤ 40) by
        have h := HA.out
        rw [hj', List.take_length] at h
        unfold fewV
        rw [h, Bool.true_and, decide_eq_decide]
        omega)
      clear hj'
      go_wp2
      go_ret
      rw [HF.out]
      exact ⟨rfl, HB.out⟩
end Go.Proofs.YtepniiaojhiogaaDoor
