/-
  What package span has to answer, as contracts; lists that are few and short; the chapter's examples.
-/
import Derived.Test.YtooegjdppeiccaaIRefF
namespace Go.Proofs.Ytooegjdppeiccaa
open Go.RowKit

/-- Lists of a length that the contracts speak of. -/
def okI (l : List Sp) : Prop := l.length ≤ 1000
structure SpanC : Prop where
  point : ∀ (k : List UInt8) (w : World), k.length ≤ 1000000 → Calls Try.prog 31 #[.string (bs k)] w fun r w' => r = .returned (spVal ⟨k, k ++ [0]⟩) ∧ Below w.heap.size w w'
  right : ∀ (s : Sp) (w : World), Calls Try.prog 33 #[spVal s] w fun r w' => r = .returned (.bool (rightS s)) ∧ Below w.heap.size w w'
  has : ∀ (s : Sp) (k : List UInt8) (w : World), Calls Try.prog 35 #[spVal s, .string (bs k)] w fun r w' => r = .returned (.bool (hasS s k)) ∧ Below w.heap.size w w'
  meets : ∀ (a b : Sp) (w : World), Calls Try.prog 37 #[spVal a, spVal b] w fun r w' => r = .returned (.bool (meetsS a b)) ∧ Below w.heap.size w w'
  normal : ∀ (l : List Sp) (A : Option Addr) (c : Nat) (w : World), okI l → ChI w w.heap.size A c l → Calls Try.prog 44 #[.slice A l.length c] w fun r w' => r = .returned (.bool (normB l)) ∧ Below w.heap.size w w'
  has_in : ∀ (l : List Sp) (A : Option Addr) (c : Nat) (k : List UInt8) (w : World), okI l → ChI w w.heap.size A c l → Calls Try.prog 46 #[.slice A l.length c, .string (bs k)] w fun r w' => r = .returned (.bool (inS l k)) ∧ Below w.heap.size w w'
  meet : ∀ (a b : List Sp) (A B : Option Addr) (c d : Nat) (w : World), okI a → okI b → ChI w w.heap.size A c a → ChI w w.heap.size B d b → Calls Try.prog 48 #[.slice A a.length c, .slice B b.length d] w fun r w' => r = .returned (.bool (meetB a b)) ∧ Below w.heap.size w w'
  same : ∀ (a b : List Sp) (A B : Option Addr) (c d : Nat) (w : World), okI a → okI b → ChI w w.heap.size A c a → ChI w w.heap.size B d b → Calls Try.prog 50 #[.slice A a.length c, .slice B b.length d] w fun r w' => r = .returned (.bool (sameI a b)) ∧ Below w.heap.size w w'
  add : ∀ (a : List Sp) (s : Sp) (A : Option Addr) (c : Nat) (w : World), okI a → ChI w w.heap.size A c a → Calls Try.prog 40 #[.slice A a.length c, spVal s] w (RetI (joinSp (a ++ [s])) w)
  join : ∀ (a b : List Sp) (A B : Option Addr) (c d : Nat) (w : World), okI a → okI b → ChI w w.heap.size A c a → ChI w w.heap.size B d b → Calls Try.prog 42 #[.slice A a.length c, .slice B b.length d] w (RetI (joinSp (a ++ b)) w)
  fit : ∀ (a : List Sp) (A : Option Addr) (c : Nat) (n : Int) (w : World), okI a → -9223372036854775808 ≤ n → n ≤ 9223372036854775807 → ChI w w.heap.size A c a → Calls Try.prog 51 #[.slice A a.length c, .int .i64 n] w (RetI (fitI n (joinSp a)) w)

/-! ### few -/
def shortI (s : Sp) : Bool := decide (s.lo.length ≤ 300) && decide (s.hi.length ≤ 300)
def fewI (l : List Sp) : Bool := l.all shortI && decide (l.length ≤ 40)
theorem fewI_yes {l : List Sp} (h : fewI l = true) : (∀ s ∈ l, s.lo.length ≤ 300 ∧ s.hi.length ≤ 300) ∧ l.length ≤ 40 := by
  unfold fewI at h
  rw [Bool.and_eq_true, List.all_eq_true, decide_eq_true_iff] at h
  refine ⟨fun s hs => ?_, h.2⟩
  have := h.1 s hs
  unfold shortI at this
  rwa [Bool.and_eq_true, decide_eq_true_iff, decide_eq_true_iff] at this
theorem fewI_ok {l : List Sp} (h : fewI l = true) : okI l := by
  have := (fewI_yes h).2
  unfold okI
  omega
set_option maxRecDepth 100000 in
set_option maxHeartbeats 4000000 in
theorem fewI_any (l : List Sp) (A : Option Addr) (c : Nat) (w : World) (hl : l.length ≤ 9223372036854775807) (hr : RowG spCells w 0 w.heap.size A l) :
    Calls Try.prog 30 #[.slice A l.length c] w fun r w' => r = .returned (.bool (fewI l)) ∧ Below w.heap.size w w' := by
  have HR := Lib.hid hr
  clear hr
  go_enter Try.func30, Try.ntmps30
  go_wp2
  go_loopg [7] l.length (fun q i wr => ∃ j : Nat, j + q = l.length ∧ i = .int .i64 j ∧ (l.take j).all shortI = true ∧ Below w.heap.size w wr)
  case atStart => exact ⟨0, by omega, rfl, rfl, Below.refl _ _⟩
  case round =>
    obtain ⟨j, hk, rfl, hall, hb⟩ := hrel
    have HK := Lib.hid hk
    have HA := Lib.hid hall
    have HB := Lib.hid hb
    clear hall hb hk
    by_cases hj : j < l.length
    · have hlt : decide ((j : Int) < (l.length : Int)) = true := by simpa using hj
      have hlt3 : decide (j < l.length) = true := by simpa using hj
      obtain ⟨b, o, rfl, _, hbl, hc⟩ := (HR.out.below HB.out (Nat.le_refl _)).at_ spF hj
      have c0 := hc 0 _ rfl
      have c1 := hc 1 _ rfl
      simp only [Nat.add_zero] at c0
      have HT := Lib.hid (show (l.take (j + 1)).all shortI = ((l.take j).all shortI && shortI l[j]) by rw [List.take_succ_eq_append_getElem hj, List.all_append]; simp)
      have HNo := Lib.hid (fun h : shortI l[j] = false => (show fewI l = false by
        cases hf : fewI l
        · rfl
        · unfold fewI at hf
          rw [Bool.and_eq_true, List.all_eq_true] at hf
          rw [hf.1 _ (List.getElem_mem hj)] at h
          cases h))
      clear hc hbl
      generalize l[j] = x at *
      obtain ⟨xl, xh⟩ := x
      simp only at c0 c1
      have HBN := Lib.hid (HB.out.alloc HB.out.size (.cells #[.string (bs xl), .string (bs xh)] 60))
      have z1 : ((bs xl).size : Int) = (xl.length : Int) := by rw [bs_size]
      have z2 : ((bs xh).size : Int) = (xh.length : Int) := by rw [bs_size]
      by_cases h1 : xl.length ≤ 300
      · have d1 : decide ((300 : Int) < (xl.length : Int)) = false := by rw [decide_eq_false_iff_not]; omega
        have d1' : decide (300 < xl.length) = false := by rw [decide_eq_false_iff_not]; omega
        by_cases h2 : xh.length ≤ 300
        · have d2 : decide ((300 : Int) < (xh.length : Int)) = false := by rw [decide_eq_false_iff_not]; omega
          have d2' : decide (300 < xh.length) = false := by rw [decide_eq_false_iff_not]; omega
          have HF := Lib.hid (show (l.take (j + 1)).all shortI = true by rw [HT.out, HA.out]; simp [shortI, h1, h2])
          clear h1 h2 HT HNo
          go_wp2_with fail
          go_roundg (gk - 1)
          case measure => have := HK.out; omega
          case rel => exact ⟨j + 1, by have := HK.out; omega, by go_num, HF.out, HBN.out⟩
        · have d2 : decide ((300 : Int) < (xh.length : Int)) = true := by rw [decide_eq_true_iff]; omega
          have d2' : decide (300 < xh.length) = true := by rw [decide_eq_true_iff]; omega
          have HF := Lib.hid (HNo.out (by simp [shortI, h2]))
          clear h1 h2 HT HNo
          go_wp2_with fail
          go_ret
          rw [HF.out]
          exact ⟨rfl, HBN.out⟩
      · have d1 : decide ((300 : Int) < (xl.length : Int)) = true := by rw [decide_eq_true_iff]; omega
        have d1' : decide (300 < xl.length) = true := by rw [decide_eq_true_iff]; omega
        have HF := Lib.hid (HNo.out (by simp [shortI, h1]))
        clear h1 HT HNo
        go_wp2_with fail
        go_ret
        rw [HF.out]
        exact ⟨rfl, HBN.out⟩
    · have hj' : j = l.length := by have := HK.out; omega
      subst hj'
      have hlt : decide ((l.length : Int) < (l.length : Int)) = false := by simp
      have hlt2 : decide (l.length < l.length) = false := by simp
      have hF := HA.out
      rw [List.take_length] at hF
      by_cases h4 : l.length ≤ 40
      · have d1 : decide ((l.length : Int) ≤ 40) = true := by rw [decide_eq_true_iff]; omega
        have d1' : decide (l.length ≤ 40) = true := by rw [decide_eq_true_iff]; omega
        have HF := Lib.hid (show fewI l = true by unfold fewI; rw [hF, d1']; rfl)
        clear hF hj h4
        go_wp2_with fail
        go_ret
        rw [HF.out]
        exact ⟨rfl, HB.out⟩
      · have d1 : decide ((l.length : Int) ≤ 40) = false := by rw [decide_eq_false_iff_not]; omega
        have d1' : decide (l.length ≤ 40) = false := by rw [decide_eq_false_iff_not]; omega
        have HF := Lib.hid (show fewI l = false by unfold fewI; rw [hF, d1']; rfl)
        clear hF hj h4
        go_wp2_with fail
        go_ret
        rw [HF.out]
        exact ⟨rfl, HB.out⟩
end Go.Proofs.Ytooegjdppeiccaa
