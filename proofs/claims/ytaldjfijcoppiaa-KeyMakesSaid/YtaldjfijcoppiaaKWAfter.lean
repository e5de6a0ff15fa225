/-
  The walk of KeyAfter, from the contracts of package key.
-/
import Derived.Test.YtaldjfijcoppiaaKCon
namespace Go.Proofs.Ytaldjfijcoppiaa.keyAfter
open Go.RowKit

theorem ba_self (p : ByteArray) : (⟨p.data.toList.toArray⟩ : ByteArray) = p := by cases p; simp

set_option maxRecDepth 100000 in
set_option maxHeartbeats 1000000 in
theorem walk_many (K : KeyC) (p s : ByteArray) (w : World) (hp : p.size ≤ reachBytes) (hs : s.size ≤ reachBytes) (h : ¬ (p.size ≤ 1000 ∧ s.size ≤ 1000)) :
    Calls Try.prog 8 #[.string p, .string s] w fun e w' => e = .returned (.bool true) ∧ Below w.heap.size w w' := by
  have HK := Lib.hid K
  clear K
  unfold reachBytes at hp hs
  by_cases h1 : p.size ≤ 1000
  · have h2 : 1000 < s.size := by omega
    have d1 : decide ((1000 : Int) < (p.size : Int)) = false := by rw [decide_eq_false_iff_not]; omega
    have d2 : decide ((1000 : Int) < (s.size : Int)) = true := by rw [decide_eq_true_iff]; omega
    clear h
    go_enter Try.func8, Try.ntmps8
    go_wp2_with fail
    refine (liveK_any HK.out _).mono ?_
    rintro r w1 ⟨rfl, hb⟩
    have HB := Lib.hid hb
    clear hb
    go_wp2_with fail
    refine (liveK_any HK.out _).mono ?_
    rintro r w2 ⟨rfl, hb⟩
    have HB2 := Lib.hid (HB.out.trans (hb.mono HB.out.size))
    clear hb
    go_wp2
    go_ret
    exact ⟨rfl, HB2.out⟩
  · have h2 : 1000 < p.size := by omega
    have d1 : decide ((1000 : Int) < (p.size : Int)) = true := by rw [decide_eq_true_iff]; omega
    clear h
    go_enter Try.func8, Try.ntmps8
    go_wp2_with fail
    refine (liveK_any HK.out _).mono ?_
    rintro r w1 ⟨rfl, hb⟩
    have HB := Lib.hid hb
    clear hb
    go_wp2_with fail
    refine (liveK_any HK.out _).mono ?_
    rintro r w2 ⟨rfl, hb⟩
    have HB2 := Lib.hid (HB.out.trans (hb.mono HB.out.size))
    clear hb
    go_wp2
    go_ret
    exact ⟨rfl, HB2.out⟩

/-- What the tests come to. -/
structure Tests (p s : ByteArray) (hi : List UInt8) (len pre lt emp below : Bool) : Prop where
  len : decide ((p.size : Int) ≤ (s.size : Int)) = len
  pre : ((s.extract 0 p.size).toList == p.toList) = pre
  lt : Op.bytesLess s.toList p.toList = lt
  emp : hi.isEmpty = emp
  below : Op.bytesLess s.toList hi = below
theorem tests_ok {p s : ByteArray} {len pre lt emp below : Bool} (T : Tests p s (afterL p.data.toList) len pre lt emp below) : ((!lt) && (emp || below)) = (len && pre) := by
  have h := after_iff p.data.toList s.data.toList
  obtain ⟨h1, h2, h3, h4, h5⟩ := T
  rw [ByteArray.toList_eq, extract_take, ByteArray.toList_eq] at h2
  rw [ByteArray.toList_eq, ByteArray.toList_eq] at h3
  rw [ByteArray.toList_eq] at h5
  have e1 : p.data.toList.length = p.size := rfl
  have e2 : s.data.toList.length = s.size := rfl
  have hpre : (len && pre) = true ↔ p.data.toList <+: s.data.toList := by
    rw [Bool.and_eq_true, ← h1, ← h2, decide_eq_true_iff, beq_iff_eq, List.prefix_iff_eq_take, e1]
    constructor
    · rintro ⟨_, h⟩
      exact h.symm
    · intro h
      refine ⟨?_, h.symm⟩
      have := congrArg List.length h
      rw [List.length_take] at this
      omega
  have hx : ((!lt) && (emp || below)) = true ↔ (blt s.data.toList p.data.toList = false ∧ (afterL p.data.toList = [] ∨ blt s.data.toList (afterL p.data.toList) = true)) := by
    rw [Bool.and_eq_true, Bool.or_eq_true, ← h3, ← h4, ← h5, List.isEmpty_iff]
    simp
  rw [Bool.eq_iff_iff, hx, hpre]
  exact h

set_option maxRecDepth 100000 in
set_option maxHeartbeats 1000000 in
theorem walk_few (K : KeyC) (p s : ByteArray) (w : World) (hp : p.size ≤ 1000) (hs : s.size ≤ 1000) :
    Calls Try.prog 8 #[.string p, .string s] w fun e w' => e = .returned (.bool true) ∧ Below w.heap.size w w' := by
  have HK := Lib.hid K
  clear K
  obtain ⟨len, pre, lt, emp, below, T⟩ : ∃ len pre lt emp below, Tests p s (afterL p.data.toList) len pre lt emp below := ⟨_, _, _, _, _, ⟨rfl, rfl, rfl, rfl, rfl⟩⟩
  have ok := tests_ok T
  obtain ⟨t1, t2, t3, t4, t5⟩ := T
  have HA := Lib.hid (fun w' => HK.out.after p.data.toList w' (by have : p.data.toList.length = p.size := rfl; omega))
  have t0 : decide (p.size ≤ s.size) = len := by rw [← t1, decide_eq_decide]; omega
  generalize afterL p.data.toList = hi at *
  cases len <;> cases pre <;> cases lt <;> cases emp <;> cases below <;> first | (exfalso; revert ok; decide) | skip
  all_goals
    clear ok
    try have hle := of_decide_eq_true t0
    try have hle' := of_decide_eq_true t1
    go_enter Try.func8, Try.ntmps8
    go_wp2_with fail
    refine (liveK_any HK.out _).mono ?_
    rintro r w1 ⟨rfl, hb⟩
    have HB := Lib.hid hb
    clear hb
    go_wp2_with fail
    have H1 := HA.out w1
    rw [ba_self] at H1
    refine H1.mono ?_
    rintro r w2 ⟨rfl, hb⟩
    have HB2 := Lib.hid (HB.out.trans (hb.mono HB.out.size))
    clear hb H1 HB
    go_wp2
    go_ret
    exact ⟨rfl, HB2.out⟩

theorem walk (K : KeyC) (p s : ByteArray) (w : World) (hp : p.size ≤ reachBytes) (hs : s.size ≤ reachBytes) :
    Calls Try.prog 8 #[.string p, .string s] w fun e w' => e = .returned (.bool true) ∧ Below w.heap.size w w' := by
  by_cases h : p.size ≤ 1000 ∧ s.size ≤ 1000
  · exact walk_few K p s w h.1 h.2
  · exact walk_many K p s w hp hs h
end Go.Proofs.Ytaldjfijcoppiaa.keyAfter
