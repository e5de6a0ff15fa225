import Derived.Test.YtidomoibhjgkjaaGreatDoorZC11
import Derived.Test.YtidomoibhjgkjaaGreatDoorZC35
import Derived.Deep.LoopGhost
import Derived.Test.YtidomoibhjgkjaaGreatDoorZC31
/-
  few of the statements on what expressions come to: few terms and variables, with little in each.
-/
namespace Go.Proofs.YtidomoibhjgkjaaGreatDoor
open Go.RowKit

def few6 (l : List TM) (vs : List VN) : Bool := l.all fewTerm && (vs.all fewVar && (decide (l.length ≤ 100) && decide (vs.length ≤ 40)))
theorem few6_yes {l : List TM} {vs : List VN} (h : few6 l vs = true) : (∀ x ∈ l, x.nm.size ≤ 100 ∧ x.v.s.size ≤ 200) ∧ (∀ x ∈ vs, x.1.size ≤ 100 ∧ x.2.s.size ≤ 200) ∧ l.length ≤ 100 ∧ vs.length ≤ 40 := by
  unfold few6 at h
  rw [Bool.and_eq_true, Bool.and_eq_true, Bool.and_eq_true, List.all_eq_true, List.all_eq_true] at h
  exact ⟨fun x hx => by simpa [fewTerm] using h.1 x hx, fun x hx => by simpa [fewVar] using h.2.1 x hx, by simpa using h.2.2.1, by simpa using h.2.2.2⟩

set_option maxRecDepth 100000 in
set_option maxHeartbeats 4000000 in
theorem few6_any (l : List TM) (A : Option Addr) (c : Nat) (vs : List VN) (A2 : Option Addr) (c2 : Nat) (w : World) (hl : l.length ≤ 9223372036854775807) (hn : ∀ x ∈ l, x.nm.size ≤ 9223372036854775807 ∧ x.v.s.size ≤ 9223372036854775807) (hr : RowT w 0 w.heap.size A l)
    (hl2 : vs.length ≤ 9223372036854775807) (hn2 : ∀ x ∈ vs, x.1.size ≤ 9223372036854775807 ∧ x.2.s.size ≤ 9223372036854775807) (hr2 : RowN w 0 w.heap.size A2 vs) :
    Calls Tryz.prog 10 #[.slice A l.length c, .slice A2 vs.length c2] w fun r w' => r = .returned (.bool (few6 l vs)) ∧ Below w.heap.size w w' := by
  have HR := Lib.hid hr
  have HN := Lib.hid hn
  have HR2 := Lib.hid hr2
  have HN2 := Lib.hid hn2
  clear hr hn hr2 hn2
  go_enter Tryz.func10, Tryz.ntmps10
  go_wp2
  go_loopg [6, 11] l.length (fun q _ i wr => ∃ j : Nat, j + q = l.length ∧ i = .int .i64 j ∧ (l.take j).all fewTerm = true ∧ Below w.heap.size w wr)
  case atStart => exact ⟨0, by omega, rfl, rfl, Below.refl _ _⟩
  case round =>
    obtain ⟨j, hk, rfl, hall, hb⟩ := hrel
    have HK := Lib.hid hk
    have HA := Lib.hid hall
    have HB := Lib.hid hb
    clear hall hb hk
    by_cases hj : j < l.length
    · have hlt : decide ((j : Int) < (l.length : Int)) = true := by simpa using hj
      have hlt2 : decide (j < l.length) = true := by simpa using hj
      obtain ⟨b, o, rfl, hv⟩ := (HR.out.below HB.out (Nat.le_refl _)).at_ hj
      obtain ⟨c0, c1, c2, c3, c4⟩ := hv
      have hsz := HN.out _ (List.getElem_mem hj)
      have HTS := Lib.hid (show l.take (j + 1) = l.take j ++ [l[j]] from by rw [List.take_succ_eq_append_getElem hj])
      have HM := Lib.hid (List.getElem_mem hj)
      generalize l[j] = x at *
      obtain ⟨op, ⟨k, n, s⟩, nm⟩ := x
      simp only at c0 c1 c2 c3 c4 hsz
      have HM2 := Lib.hid (fun (h : fewTerm ⟨op, ⟨k, n, s⟩, nm⟩ = false) => (show few6 l vs = false by
        unfold few6
        rw [Bool.and_eq_false_iff]
        left
        rw [List.all_eq_false]
        exact ⟨_, HM.out, by simpa using h⟩))
      have hbn := HB.out.alloc HB.out.size (.cells #[.int .i64 op, .int .i64 k, .int .i64 n, .string s, .string nm] 47)
      have HBN := Lib.hid hbn
      clear hbn hsz
      by_cases h1 : 100 < nm.size
      · have d1 : decide (100 < (nm.size : Int)) = true := by rw [decide_eq_true_iff]; omega
        have HF := Lib.hid (HM2.out (by simp [fewTerm, show ¬ nm.size ≤ 100 by omega]))
        clear h1
        go_wp2
        go_ret
        rw [HF.out]
        exact ⟨rfl, HBN.out⟩
      · have d1 : decide (100 < (nm.size : Int)) = false := by rw [decide_eq_false_iff_not]; omega
        by_cases h2 : 200 < s.size
        · have d2 : decide (200 < (s.size : Int)) = true := by rw [decide_eq_true_iff]; omega
          have HF := Lib.hid (HM2.out (by simp [fewTerm, show ¬ s.size ≤ 200 by omega]))
          clear h1 h2
          go_wp2
          go_ret
          rw [HF.out]
          exact ⟨rfl, HBN.out⟩
        · have d2 : decide (200 < (s.size : Int)) = false := by rw [decide_eq_false_iff_not]; omega
          have HF := Lib.hid (show fewTerm ⟨op, ⟨k, n, s⟩, nm⟩ = true by simp [fewTerm, show nm.size ≤ 100 by omega, show s.size ≤ 200 by omega])
          clear h1 h2
          go_wp2
          go_roundg (gk - 1)
          case measure => have := HK.out; omega
          case rel => exact ⟨j + 1, by have := HK.out; omega, by go_num, by rw [HTS.out, List.all_append, HA.out]; simp [HF.out], HBN.out⟩
    · have hj' : j = l.length := by have := HK.out; omega
      have hlt : decide ((j : Int) < (l.length : Int)) = false := by simpa using hj
      have HALL := Lib.hid (show l.all fewTerm = true by
        have h := HA.out
        rw [hj', List.take_length] at h
        exact h)
      have HB1 := Lib.hid HB.out
      clear hj' HA HK HB
      go_wp2
      go_loopg [8, 29] vs.length (fun q _ i wv => ∃ m : Nat, m + q = vs.length ∧ i = .int .i64 m ∧ (vs.take m).all fewVar = true ∧ Below w.heap.size w wv)
      case atStart => exact ⟨0, by omega, rfl, rfl, HB1.out⟩
      case round =>
        obtain ⟨m, hk, rfl, hall, hb⟩ := hrel
        have HK := Lib.hid hk
        have HA := Lib.hid hall
        have HB := Lib.hid hb
        clear hall hb hk
        by_cases hm : m < vs.length
        · have hlt' : decide ((m : Int) < (vs.length : Int)) = true := by simpa using hm
          have hlt2' : decide (m < vs.length) = true := by simpa using hm
          obtain ⟨b, o, rfl, hv⟩ := (HR2.out.below HB.out (Nat.le_refl _)).at_ hm
          obtain ⟨c0, c1, c2', c3⟩ := hv
          have hsz := HN2.out _ (List.getElem_mem hm)
          have HTS := Lib.hid (show vs.take (m + 1) = vs.take m ++ [vs[m]] from by rw [List.take_succ_eq_append_getElem hm])
          have HM := Lib.hid (List.getElem_mem hm)
          generalize vs[m] = x at *
          obtain ⟨nm, ⟨k, n, s⟩⟩ := x
          simp only at c0 c1 c2' c3 hsz
          have HM2 := Lib.hid (fun (h : fewVar (nm, ⟨k, n, s⟩) = false) => (show few6 l vs = false by
            unfold few6
            rw [HALL.out, Bool.true_and, Bool.and_eq_false_iff]
            left
            rw [List.all_eq_false]
            exact ⟨_, HM.out, by simpa using h⟩))
          have hbn := HB.out.alloc HB.out.size (.cells #[.string nm, .int .i64 k, .int .i64 n, .string s] 67)
          have HBN := Lib.hid hbn
          clear hbn hsz
          by_cases h1 : 100 < nm.size
          · have d1 : decide (100 < (nm.size : Int)) = true := by rw [decide_eq_true_iff]; omega
            have HF := Lib.hid (HM2.out (by simp [fewVar, show ¬ nm.size ≤ 100 by omega]))
            clear h1
            go_wp2
            go_ret
            rw [HF.out]
            exact ⟨rfl, HBN.out⟩
          · have d1 : decide (100 < (nm.size : Int)) = false := by rw [decide_eq_false_iff_not]; omega
            by_cases h2 : 200 < s.size
            · have d2 : decide (200 < (s.size : Int)) = true := by rw [decide_eq_true_iff]; omega
              have HF := Lib.hid (HM2.out (by simp [fewVar, show ¬ s.size ≤ 200 by omega]))
              clear h1 h2
              go_wp2
              go_ret
              rw [HF.out]
              exact ⟨rfl, HBN.out⟩
            · have d2 : decide (200 < (s.size : Int)) = false := by rw [decide_eq_false_iff_not]; omega
              have HF := Lib.hid (show fewVar (nm, ⟨k, n, s⟩) = true by simp [fewVar, show nm.size ≤ 100 by omega, show s.size ≤ 200 by omega])
              clear h1 h2
              go_wp2
              go_roundg (gk - 1)
              case measure => have := HK.out; omega
              case rel => exact ⟨m + 1, by have := HK.out; omega, by go_num, by rw [HTS.out, List.all_append, HA.out]; simp [HF.out], HBN.out⟩
        · have hm' : m = vs.length := by have := HK.out; omega
          have hlt' : decide ((m : Int) < (vs.length : Int)) = false := by simpa using hm
          have HF := Lib.hid (show few6 l vs = (decide ((l.length : Int) ≤ 100) && decide ((vs.length : Int) ≤ 40)) by
            have h := HA.out
            rw [hm', List.take_length] at h
            unfold few6
            rw [HALL.out, h, Bool.true_and, Bool.true_and]
            congr 1
            · rw [decide_eq_decide]; omega
            · rw [decide_eq_decide]; omega)
          clear hm'
          obtain ⟨q1, hq1⟩ : ∃ q, decide ((l.length : Int) ≤ 100) = q := ⟨_, rfl⟩
          cases q1
          · go_wp2
            go_ret
            rw [HF.out, hq1]
            exact ⟨rfl, HB.out⟩
          · go_wp2
            go_ret
            rw [HF.out, hq1]
            exact ⟨rfl, HB.out⟩
end Go.Proofs.YtidomoibhjgkjaaGreatDoor

/-
  Expressions, the document's own answers: what is wrong with a term that is a value.
-/
namespace Go.Proofs.YtidomoibhjgkjaaGreatDoor
open Go.RowKit

set_option maxRecDepth 100000 in
set_option maxHeartbeats 4000000 in
theorem own_val (v : V) (w : World) :
    Calls Tryz.prog 47 #[.agg #[.int .i64 0, .int .i64 v.k, .int .i64 v.n, .string v.s, .string ⟨#[]⟩]] w fun r w' => r = .returned (.int .i64 (if rightV v ≠ 0 then rightV v else if v.k = 1 ∧ v.n < 0 then 1 else 0)) ∧ Below w.heap.size w w' := by
  have HRi := Lib.hid (fun w => fRight_any v w)
  obtain ⟨k, n, s⟩ := v
  simp only [V.val] at HRi ⊢
  have hb := box_below w #[.int .i64 0, .int .i64 k, .int .i64 n, .string s, .string ⟨#[]⟩] 47
  have hb2 := hb.alloc hb.size (.cells #[.int .i64 0, .int .i64 0, .string ⟨#[]⟩] 27)
  have HB := Lib.hid hb2
  clear hb hb2
  generalize rightV ⟨k, n, s⟩ = e at *
  obtain ⟨R, hR⟩ : ∃ R : Int, R = if e ≠ 0 then e else if k = 1 ∧ n < 0 then 1 else 0 := ⟨_, rfl⟩
  rw [← hR]
  by_cases he : e = 0
  · subst he
    rw [if_neg (by simp)] at hR
    have hk : ((k == 1) = true ∧ decide (n < 0) = true ∧ R = 1) ∨ ((k == 1) = true ∧ decide (n < 0) = false ∧ R = 0) ∨ ((k == 1) = false ∧ ¬ k = 1 ∧ R = 0) := by
      by_cases h1 : k = 1
      · by_cases h2 : n < 0
        · exact .inl ⟨by simpa using h1, by simpa using h2, by rw [hR, if_pos ⟨h1, h2⟩]⟩
        · exact .inr (.inl ⟨by simpa using h1, by simpa using h2, by rw [hR, if_neg (fun h => h2 h.2)]⟩)
      · exact .inr (.inr ⟨by simpa using h1, h1, by rw [hR, if_neg (fun h => h1 h.1)]⟩)
    clear hR
    rcases hk with ⟨k1, k2, rfl⟩ | ⟨k1, k2, rfl⟩ | ⟨k1, k2, rfl⟩
    all_goals
      go_enter Tryz.func47, Tryz.ntmps47
      go_wp2_with fail
      refine (HRi.out _).mono ?_
      rintro r w1 ⟨rfl, hb1⟩
      have hb1' : Below (w.heap.size + 1 + 1) ((w.alloc (.cells #[.int .i64 0, .int .i64 k, .int .i64 n, .string s, .string ⟨#[]⟩] 47)).alloc (.cells #[.int .i64 0, .int .i64 0, .string ⟨#[]⟩] 27)) w1 := by simpa using hb1
      have c1 := (hb1'.cell (p := ⟨w.heap.size, 1, none⟩) (by simp; omega)).trans (show _ = some (Value.int .i64 k) by simp [go_sem])
      have c2 := (hb1'.cell (p := ⟨w.heap.size, 2, none⟩) (by simp; omega)).trans (show _ = some (Value.int .i64 n) by simp [go_sem])
      have c0 := (hb1'.cell (p := ⟨w.heap.size, 0, none⟩) (by simp; omega)).trans (show _ = some (Value.int .i64 0) by simp [go_sem])
      have HB1 := Lib.hid (HB.out.trans (hb1.mono HB.out.size))
      clear hb1 hb1'
      go_wp2_with fail
      go_ret
      exact ⟨rfl, HB1.out⟩
  · rw [if_pos he] at hR
    subst hR
    have e0 : (R == 0) = false := by rw [beq_eq_false_iff_ne]; exact he
    go_enter Tryz.func47, Tryz.ntmps47
    go_wp2_with fail
    refine (HRi.out _).mono ?_
    rintro r w1 ⟨rfl, hb1⟩
    have HB1 := Lib.hid (HB.out.trans (hb1.mono HB.out.size))
    clear hb1
    go_wp2_with fail
    go_ret
    exact ⟨rfl, HB1.out⟩
end Go.Proofs.YtidomoibhjgkjaaGreatDoor

/-
  Expressions, the document's own answers: a term that has what it may not have; own of any term.
-/
namespace Go.Proofs.YtidomoibhjgkjaaGreatDoor
open Go.RowKit

theorem empty_list {s : ByteArray} (h : s ≠ mtS) : ¬ s.toList = [] := fun e => by
  rw [ByteArray.toList_eq] at e
  exact h (ba_list e)
set_option maxRecDepth 100000 in
set_option maxHeartbeats 2000000 in
theorem own_more (op : Int) (v : V) (m : ByteArray) (hop : 0 ≤ op ∧ op ≤ 18) (h0 : op ≠ 0) (hv : v ≠ V0) (w : World) :
    Calls Tryz.prog 47 #[.agg #[.int .i64 op, .int .i64 v.k, .int .i64 v.n, .string v.s, .string m]] w fun r w' => r = .returned (.int .i64 1) ∧ Below w.heap.size w w' := by
  obtain ⟨k, n, s⟩ := v
  simp only
  have hb := box_below w #[.int .i64 op, .int .i64 k, .int .i64 n, .string s, .string m] 47
  have HB := Lib.hid (hb.alloc hb.size (.cells #[.int .i64 0, .int .i64 0, .string ⟨#[]⟩] 27))
  clear hb
  have d0 : decide (op < 0) = false := by rw [decide_eq_false_iff_not]; omega
  have d1 : decide ((18 : Int) < op) = false := by rw [decide_eq_false_iff_not]; omega
  have b0 : (op == 0) = false := by rw [beq_eq_false_iff_ne]; omega
  have n0 : ¬ op = 0 := h0
  have hd : ¬ k = 0 ∨ (k = 0 ∧ ¬ n = 0) ∨ (k = 0 ∧ n = 0 ∧ ¬ s.toList = []) := by
    by_cases h1 : k = 0
    · by_cases h2 : n = 0
      · refine .inr (.inr ⟨h1, h2, empty_list fun e => hv ?_⟩)
        subst h1 h2 e
        rfl
      · exact .inr (.inl ⟨h1, h2⟩)
    · exact .inl h1
  clear hop h0 hv
  rcases hd with h | ⟨rfl, h⟩ | ⟨rfl, rfl, h⟩
  all_goals
    go_enter Tryz.func47, Tryz.ntmps47
    go_wp2
    go_ret
    exact ⟨rfl, HB.out⟩
set_option maxRecDepth 100000 in
set_option maxHeartbeats 2000000 in
theorem own_named (op : Int) (v : V) (m : ByteArray) (hop : 0 ≤ op ∧ op ≤ 18) (h0 : op = 0 ∨ v = V0) (h1 : op ≠ 1) (h2 : op ≠ 2) (hm : m ≠ mtS) (w : World) :
    Calls Tryz.prog 47 #[.agg #[.int .i64 op, .int .i64 v.k, .int .i64 v.n, .string v.s, .string m]] w fun r w' => r = .returned (.int .i64 1) ∧ Below w.heap.size w w' := by
  obtain ⟨k, n, s⟩ := v
  simp only
  have d0 : decide (op < 0) = false := by rw [decide_eq_false_iff_not]; omega
  have d1 : decide ((18 : Int) < op) = false := by rw [decide_eq_false_iff_not]; omega
  have b1 : (op == 1) = false := by rw [beq_eq_false_iff_ne]; omega
  have b2 : (op == 2) = false := by rw [beq_eq_false_iff_ne]; omega
  have q1 : (op != 1) = true := by rw [bne, b1]; rfl
  have q2 : (op != 2) = true := by rw [bne, b2]; rfl
  have hml := empty_list hm
  have hmb : m.toList.isEmpty = false := by rw [List.isEmpty_eq_false_iff]; exact hml
  have hmb2 : (!m.toList.isEmpty) = true := by rw [hmb]; rfl
  have hb := box_below w #[.int .i64 op, .int .i64 k, .int .i64 n, .string s, .string m] 47
  have HB := Lib.hid (hb.alloc hb.size (.cells #[.int .i64 0, .int .i64 0, .string ⟨#[]⟩] 27))
  clear hb hop hm
  by_cases hz : op = 0
  · subst hz
    clear h0 h1 h2 b1 b2 d0 d1 q1 q2
    go_enter Tryz.func47, Tryz.ntmps47
    go_wp2
    go_ret
    exact ⟨rfl, HB.out⟩
  · have hv : (⟨k, n, s⟩ : V) = V0 := by
      rcases h0 with h | h
      · exact absurd h hz
      · exact h
    simp only [V0, V.mk.injEq] at hv
    obtain ⟨rfl, rfl, rfl⟩ := hv
    have b0 : (op == 0) = false := by rw [beq_eq_false_iff_ne]; exact hz
    clear h0
    go_enter Tryz.func47, Tryz.ntmps47
    go_wp2
    go_ret
    exact ⟨rfl, HB.out⟩
theorem own_any (hN : RefNameC) (x : TM) (hm : x.nm.size ≤ 5000) (w : World) :
    Calls Tryz.prog 47 #[termVal x] w fun r w' => r = .returned (.int .i64 (ownT x)) ∧ Below w.heap.size w w' := by
  obtain ⟨op, v, m⟩ := x
  simp only at hm
  by_cases hr : op < 0 ∨ 18 < op
  · have e : ownT ⟨op, v, m⟩ = 1 := by unfold ownT; rw [if_pos (by rcases hr with h | h; exact .inl h; exact .inr (.inl h))]
    rw [e]
    exact own_no op v.k v.n v.s m hr w
  have hop : 0 ≤ op ∧ op ≤ 18 := by omega
  by_cases hv : op ≠ 0 ∧ v ≠ V0
  · have e : ownT ⟨op, v, m⟩ = 1 := by unfold ownT; rw [if_pos (.inr (.inr (.inl hv)))]
    rw [e]
    exact own_more op v m hop hv.1 hv.2 w
  have hv' : op = 0 ∨ v = V0 := by
    by_cases h : op = 0
    · exact .inl h
    · right
      by_cases h2 : v = V0
      · exact h2
      · exact absurd ⟨h, h2⟩ hv
  by_cases hnm : op ≠ 1 ∧ op ≠ 2 ∧ m ≠ mtS
  · have e : ownT ⟨op, v, m⟩ = 1 := by unfold ownT; rw [if_pos (.inr (.inr (.inr hnm)))]
    rw [e]
    exact own_named op v m hop hv' hnm.1 hnm.2.1 hnm.2.2 w
  have hno : ¬ (op < 0 ∨ 18 < op ∨ (op ≠ 0 ∧ v ≠ V0) ∨ (op ≠ 1 ∧ op ≠ 2 ∧ m ≠ mtS)) := by
    rintro (h | h | h | h)
    · exact hr (.inl h)
    · exact hr (.inr h)
    · exact hv h
    · exact hnm h
  by_cases h12 : op = 1 ∨ op = 2
  · have hv0 : v = V0 := by
      rcases hv' with h | h
      · omega
      · exact h
    subst hv0
    have e : ownT ⟨op, V0, m⟩ = if nm.nameOk m = false ∨ reservedB m = true then 30 else 0 := by
      unfold ownT
      rw [if_neg hno, if_neg (by simp only; omega), if_pos h12]
    rw [e]
    exact own_name hN op h12 m hm w
  have hm0 : m = mtS := by
    by_cases h : m = mtS
    · exact h
    · exact absurd ⟨by omega, by omega, h⟩ hnm
  subst hm0
  by_cases hz : op = 0
  · subst hz
    have e : ownT ⟨0, v, mtS⟩ = if rightV v ≠ 0 then rightV v else if v.k = 1 ∧ v.n < 0 then 1 else 0 := by
      unfold ownT
      rw [if_neg hno, if_pos rfl]
    rw [e]
    exact own_val v w
  · have hv0 : v = V0 := by
      rcases hv' with h | h
      · exact absurd h hz
      · exact h
    subst hv0
    have e : ownT ⟨op, V0, mtS⟩ = 0 := by
      unfold ownT
      rw [if_neg hno, if_neg hz, if_neg h12]
    rw [e]
    exact own_op0 op (by omega) w
end Go.Proofs.YtidomoibhjgkjaaGreatDoor
