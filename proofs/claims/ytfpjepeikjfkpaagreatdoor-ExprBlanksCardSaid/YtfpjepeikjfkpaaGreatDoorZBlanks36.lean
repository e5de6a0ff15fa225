import Derived.Test.YtfpjepeikjfkpaaGreatDoorZBlanks35
import Derived.BigQuiet
import Derived.Deep.QuietTactic
/-
  Expressions, the document's own answers: which part stands in brackets.
-/
namespace Go.Proofs.YtfpjepeikjfkpaaGreatDoor
open Go.RowKit

theorem strOf_le (op : Int) : strOf op ≤ 9 := by
  unfold strOf
  repeat' split
  all_goals omega
theorem same_fromT {P : Program} {f : FuncId} {args : Array Value} {v : Value} {B : Nat} {W wx : World} (hb : Below B W wx) (h : Calls P f args wx fun r w' => r = .returned v ∧ w' = wx) :
    Calls P f args wx fun r w' => r = .returned v ∧ Below B W w' := h.mono fun _ _ ⟨a, b⟩ => ⟨a, by rw [b]; exact hb⟩
theorem region_class {P : Program} {C : World → Prop} {id : Nat} {Q : Exit → Act → World → Prop} {a : Act} {w : World} {l : List Oper} (hm : P.follows .mixedOrders = true) (hB : Region.lexB .any l.toArray = true) (hC : C w.drew)
    (h : wpQuiet P l.toArray C (fun a' => ∀ w', C w' → Q .normal a' w') l a) : (Code.region id l.toArray true).wp P Q a w :=
  wp_region_quiet (C := C) hm hB hC (by simpa using h)
theorem inB_cases (a b : Int) (right : Bool) :
    ((a == 5) = true ∧ inB a b right = false) ∨ ((a == 5) = false ∧ ((strOf b : Int) == 9) = true ∧ inB a b right = false) ∨ ((a == 5) = false ∧ ((strOf b : Int) == 9) = false ∧ ((strOf a : Int) == 9) = true ∧ inB a b right = true)
    ∨ ((a == 5) = false ∧ ((strOf b : Int) == 9) = false ∧ ((strOf a : Int) == 9) = false ∧ decide (strOf b < strOf a) = true ∧ inB a b right = true)
    ∨ ((a == 5) = false ∧ ((strOf b : Int) == 9) = false ∧ ((strOf a : Int) == 9) = false ∧ decide (strOf b < strOf a) = false ∧ ((strOf b : Int) == (strOf a : Int)) = false ∧ inB a b right = false)
    ∨ ((a == 5) = false ∧ ((strOf b : Int) == 9) = false ∧ ((strOf a : Int) == 9) = false ∧ decide (strOf b < strOf a) = false ∧ ((strOf b : Int) == (strOf a : Int)) = true ∧ inB a b right = (right || ((strOf a : Int) == 2))) := by
  by_cases h5 : a = 5
  · exact .inl ⟨by simpa using h5, by unfold inB; rw [if_pos (.inl h5)]⟩
  have e5 : (a == 5) = false := by simpa using h5
  right
  by_cases h9 : strOf b = 9
  · exact .inl ⟨e5, by rw [h9]; rfl, by unfold inB; rw [if_pos (.inr h9)]⟩
  have e9 : ((strOf b : Int) == 9) = false := by rw [beq_eq_false_iff_ne]; omega
  right
  have n1 : ¬ (a = 5 ∨ strOf b = 9) := by rintro (h | h); exact h5 h; exact h9 h
  by_cases ha : strOf a = 9
  · exact .inl ⟨e5, e9, by rw [ha]; rfl, by unfold inB; rw [if_neg n1, if_pos ha]⟩
  have ea : ((strOf a : Int) == 9) = false := by rw [beq_eq_false_iff_ne]; omega
  right
  have hin : inB a b right = (decide (strOf b < strOf a) || (decide (strOf b = strOf a) && (right || decide (strOf a = 2)))) := by unfold inB; rw [if_neg n1, if_neg ha]
  by_cases hlt : strOf b < strOf a
  · exact .inl ⟨e5, e9, ea, by rw [decide_eq_true_iff]; omega, by rw [hin]; simp [hlt]⟩
  have elt : decide (strOf b < strOf a) = false := by rw [decide_eq_false_iff_not]; omega
  right
  by_cases heq : strOf b = strOf a
  · refine .inr ⟨e5, e9, ea, elt, by rw [heq]; simp, ?_⟩
    rw [hin]
    have : ((strOf a : Int) == 2) = decide (strOf a = 2) := by
      rw [Bool.eq_iff_iff, beq_iff_eq, decide_eq_true_iff]; omega
    rw [this]
    simp [heq]
  · exact .inl ⟨e5, e9, ea, elt, by rw [beq_eq_false_iff_ne]; omega, by rw [hin]; simp [heq]; omega⟩

set_option maxRecDepth 100000 in
set_option maxHeartbeats 2000000 in
theorem brackets_any (x y : TM) (right : Bool) (w : World) :
    Calls Tryz.prog 84 #[termVal x, termVal y, .bool right] w fun r w' => r = .returned (.bool (inB x.op y.op right)) ∧ Below w.heap.size w w' := by
  obtain ⟨op, ⟨k, n, s⟩, nm⟩ := x
  obtain ⟨op', ⟨k', n', s'⟩, nm'⟩ := y
  simp only [termVal]
  have hbel := box_below w #[.int .i64 op, .int .i64 k, .int .i64 n, .string s, .string nm] 44
  have HBel := Lib.hid (hbel.alloc hbel.size (.cells #[.int .i64 op', .int .i64 k', .int .i64 n', .string s', .string nm'] 44))
  clear hbel
  have HA := Lib.hid (fun (wx : World) (hb : Below (w.heap.size + 1 + 1) ((w.alloc (.cells #[.int .i64 op, .int .i64 k, .int .i64 n, .string s, .string nm] 44)).alloc (.cells #[.int .i64 op', .int .i64 k', .int .i64 n', .string s', .string nm'] 44)) wx) => same_fromT hb (strength_any op wx))
  have HB := Lib.hid (fun (wx : World) (hb : Below (w.heap.size + 1 + 1) ((w.alloc (.cells #[.int .i64 op, .int .i64 k, .int .i64 n, .string s, .string nm] 44)).alloc (.cells #[.int .i64 op', .int .i64 k', .int .i64 n', .string s', .string nm'] 44)) wx) => same_fromT hb (strength_any op' wx))
  have KEEP := Lib.hid (fun (wx : World) (hb : Below (w.heap.size + 1 + 1) ((w.alloc (.cells #[.int .i64 op, .int .i64 k, .int .i64 n, .string s, .string nm] 44)).alloc (.cells #[.int .i64 op', .int .i64 k', .int .i64 n', .string s', .string nm'] 44)) wx) => And.intro ((hb.cell (p := ⟨w.heap.size, 0, none⟩) (by simp; omega)).trans (show _ = some (Value.int .i64 op) by simp [go_sem])) ((hb.cell (p := ⟨w.heap.size + 1, 0, none⟩) (by simp)).trans (show _ = some (Value.int .i64 op') by simp [go_sem])))
  have hc := inB_cases op op' right
  generalize hv : inB op op' right = v at *
  clear hv
  generalize strOf op = a at *
  generalize strOf op' = b at *
  rcases hc with ⟨e1, rfl⟩ | ⟨e1, e2, rfl⟩ | ⟨e1, e2, e3, rfl⟩ | ⟨e1, e2, e3, e4, rfl⟩ | ⟨e1, e2, e3, e4, e5, rfl⟩ | ⟨e1, e2, e3, e4, e5, rfl⟩
  case inr.inr.inr.inr.inr =>
    cases right
    · cases hq : ((a : Int) == 2)
      all_goals
        go_enter Tryz.func84, Tryz.ntmps84
        go_wp2
        refine region_class (C := fun w' => Below (w.heap.size + 1 + 1) ((w.alloc (.cells #[.int .i64 op, .int .i64 k, .int .i64 n, .string s, .string nm] 44)).alloc (.cells #[.int .i64 op', .int .i64 k', .int .i64 n', .string s', .string nm'] 44)) w') (by kernel_rfl) (by kernel_rfl) (Below.refl _ _).drew ?_
        repeat (quiet_step (first
          | (intro hw; with_reducible exact HA.out _ hw)
          | (intro hw; with_reducible exact HB.out _ hw)
          | (intro _; with_reducible rfl)
          | (intro hw; obtain ⟨c0, c1⟩ := KEEP.out _ hw; go_simp; with_reducible exact ⟨rfl, rfl⟩)
          | (intro hw; obtain ⟨c0, c1⟩ := KEEP.out _ hw; go_simp; with_reducible rfl) | (intro hw; go_simp; with_reducible rfl) | (intro _; exact rfl)))
        refine wpQuiet_nil ?_
        intro w8 hb8
        have HB8 := Lib.hid (HBel.out.trans (hb8.mono (by omega)))
        obtain ⟨c0, c1⟩ := KEEP.out _ hb8
        clear hb8
        go_wp2
        go_ret
        exact ⟨rfl, HB8.out⟩
    · skip
      go_enter Tryz.func84, Tryz.ntmps84
      go_wp2
      refine region_class (C := fun w' => Below (w.heap.size + 1 + 1) ((w.alloc (.cells #[.int .i64 op, .int .i64 k, .int .i64 n, .string s, .string nm] 44)).alloc (.cells #[.int .i64 op', .int .i64 k', .int .i64 n', .string s', .string nm'] 44)) w') (by kernel_rfl) (by kernel_rfl) (Below.refl _ _).drew ?_
      repeat (quiet_step (first
        | (intro hw; with_reducible exact HA.out _ hw)
        | (intro hw; with_reducible exact HB.out _ hw)
        | (intro _; with_reducible rfl)
        | (intro hw; obtain ⟨c0, c1⟩ := KEEP.out _ hw; go_simp; with_reducible exact ⟨rfl, rfl⟩)
        | (intro hw; obtain ⟨c0, c1⟩ := KEEP.out _ hw; go_simp; with_reducible rfl) | (intro hw; go_simp; with_reducible rfl) | (intro _; exact rfl)))
      refine wpQuiet_nil ?_
      intro w8 hb8
      have HB8 := Lib.hid (HBel.out.trans (hb8.mono (by omega)))
      obtain ⟨c0, c1⟩ := KEEP.out _ hb8
      clear hb8
      go_wp2
      go_ret
      exact ⟨rfl, HB8.out⟩
  all_goals
    go_enter Tryz.func84, Tryz.ntmps84
    go_wp2
    refine region_class (C := fun w' => Below (w.heap.size + 1 + 1) ((w.alloc (.cells #[.int .i64 op, .int .i64 k, .int .i64 n, .string s, .string nm] 44)).alloc (.cells #[.int .i64 op', .int .i64 k', .int .i64 n', .string s', .string nm'] 44)) w') (by kernel_rfl) (by kernel_rfl) (Below.refl _ _).drew ?_
    repeat (quiet_step (first
      | (intro hw; with_reducible exact HA.out _ hw)
      | (intro hw; with_reducible exact HB.out _ hw)
      | (intro _; with_reducible rfl)
      | (intro hw; obtain ⟨c0, c1⟩ := KEEP.out _ hw; go_simp; with_reducible exact ⟨rfl, rfl⟩)
      | (intro hw; obtain ⟨c0, c1⟩ := KEEP.out _ hw; go_simp; with_reducible rfl) | (intro hw; go_simp; with_reducible rfl) | (intro _; exact rfl)))
    refine wpQuiet_nil ?_
    intro w8 hb8
    have HB8 := Lib.hid (HBel.out.trans (hb8.mono (by omega)))
    obtain ⟨c0, c1⟩ := KEEP.out _ hb8
    clear hb8
    go_wp2
    go_ret
    exact ⟨rfl, HB8.out⟩
end Go.Proofs.YtfpjepeikjfkpaaGreatDoor

/-
  Expressions, the document's own answers: what is wrong with a term by itself.
-/
namespace Go.Proofs.YtfpjepeikjfkpaaGreatDoor
open Go.RowKit

def wTrue : ByteArray := ⟨#[116, 114, 117, 101]⟩
def wFalse : ByteArray := ⟨#[102, 97, 108, 115, 101]⟩
def wHas : ByteArray := ⟨#[104, 97, 115]⟩
def wLen : ByteArray := ⟨#[108, 101, 110]⟩
theorem reserved_not {m : ByteArray} (h1 : m ≠ wTrue) (h2 : m ≠ wFalse) (h3 : m ≠ wHas) (h4 : m ≠ wLen) : reservedB m = false := by
  have q : ∀ t : ByteArray, m ≠ t → m.data.toList ≠ t.data.toList := fun t h e => h (ba_list e)
  have g1 := q _ h1
  have g2 := q _ h2
  have g3 := q _ h3
  have g4 := q _ h4
  simp only [wTrue, wFalse, wHas, wLen] at g1 g2 g3 g4
  cases hb : reservedB m
  · rfl
  · have : m.data.toList ∈ wordsNo := by simpa [reservedB] using hb
    simp only [wordsNo, List.mem_cons, List.not_mem_nil, or_false] at this
    rcases this with h | h | h | h
    · exact absurd h g1
    · exact absurd h g2
    · exact absurd h g3
    · exact absurd h g4
set_option maxHeartbeats 1000000 in
theorem reserved_any (m : ByteArray) (w : World) : Calls Tryz.prog 49 #[.string m] w fun r w' => r = .returned (.bool (reservedB m)) ∧ w' = w := by
  by_cases h1 : m = wTrue
  · subst h1
    unfold wTrue
    go_enter Tryz.func49, Tryz.ntmps49
    go_wp2
    go_ret
    exact ⟨rfl, rfl⟩
  by_cases h2 : m = wFalse
  · subst h2
    unfold wFalse
    go_enter Tryz.func49, Tryz.ntmps49
    go_wp2
    go_ret
    exact ⟨rfl, rfl⟩
  by_cases h3 : m = wHas
  · subst h3
    unfold wHas
    go_enter Tryz.func49, Tryz.ntmps49
    go_wp2
    go_ret
    exact ⟨rfl, rfl⟩
  by_cases h4 : m = wLen
  · subst h4
    unfold wLen
    go_enter Tryz.func49, Tryz.ntmps49
    go_wp2
    go_ret
    exact ⟨rfl, rfl⟩
  rw [reserved_not h1 h2 h3 h4]
  have q : ∀ t : ByteArray, m ≠ t → ¬ m.toList = t.data.toList := fun t h e => by
    rw [ByteArray.toList_eq] at e
    exact h (ba_list e)
  have b1 : ¬ m.toList = [116, 114, 117, 101] := q _ h1
  have b2 : ¬ m.toList = [102, 97, 108, 115, 101] := q _ h2
  have b3 : ¬ m.toList = [104, 97, 115] := q _ h3
  have b4 : ¬ m.toList = [108, 101, 110] := q _ h4
  have f1 : (m.toList == [116, 114, 117, 101]) = false := by rw [beq_eq_false_iff_ne]; exact b1
  have f2 : (m.toList == [102, 97, 108, 115, 101]) = false := by rw [beq_eq_false_iff_ne]; exact b2
  have f3 : (m.toList == [104, 97, 115]) = false := by rw [beq_eq_false_iff_ne]; exact b3
  have f4 : (m.toList == [108, 101, 110]) = false := by rw [beq_eq_false_iff_ne]; exact b4
  clear q
  clear h1 h2 h3 h4
  go_enter Tryz.func49, Tryz.ntmps49
  go_wp2
  go_ret
  refine ⟨?_, rfl⟩
  simp [go_sem, f1, f2, f3, f4]

def RefNameC : Prop := ∀ (s : ByteArray) (w : World), s.size ≤ 5000 → Calls Tryz.prog 48 #[.string s] w fun r w' => r = .returned (.bool (nm.nameOk s)) ∧ w = w'
set_option maxRecDepth 100000 in
set_option maxHeartbeats 2000000 in
/-- A term that is a variable, or asks whether there is one. -/
theorem own_name (hN : RefNameC) (op : Int) (hop : op = 1 ∨ op = 2) (m : ByteArray) (hm : m.size ≤ 5000) (w : World) :
    Calls Tryz.prog 25 #[.agg #[.int .i64 op, .int .i64 0, .int .i64 0, .string ⟨#[]⟩, .string m]] w fun r w' => r = .returned (.int .i64 (if nm.nameOk m = false ∨ reservedB m = true then 30 else 0)) ∧ Below w.heap.size w w' := by
  have HN := Lib.hid (fun w => hN m w hm)
  have HRs := Lib.hid (fun w => (reserved_any m w).mono fun _ _ h => And.intro h.1 h.2.symm)
  have hb := box_below w #[.int .i64 op, .int .i64 0, .int .i64 0, .string ⟨#[]⟩, .string m] 44
  have HB := Lib.hid (hb.alloc hb.size (.cells #[.int .i64 0, .int .i64 0, .string ⟨#[]⟩] 42))
  have HB0 := Lib.hid hb
  clear hb hm
  generalize nm.nameOk m = a at *
  generalize reservedB m = b at *
  obtain ⟨R, hR⟩ : ∃ R : Int, R = if a = false ∨ b = true then 30 else 0 := ⟨_, rfl⟩
  rw [← hR]
  rcases hop with rfl | rfl
  all_goals
    cases a
    · have e : R = 30 := hR
      subst e
      clear hR
      go_enter Tryz.func25, Tryz.ntmps25
      go_wp2_with (first | (go_at_call 48; refine (HN.out _).mono ?_; rintro r w' ⟨rfl, rfl⟩) | (go_at_call 49; refine (HRs.out _).mono ?_; rintro r w' ⟨rfl, rfl⟩))
      go_ret
      exact ⟨rfl, HB.out⟩
    · cases b
      · have e : R = 0 := hR
        subst e
        clear hR
        go_enter Tryz.func25, Tryz.ntmps25
        go_wp2_with (first | (go_at_call 48; refine (HN.out _).mono ?_; rintro r w' ⟨rfl, rfl⟩) | (go_at_call 49; refine (HRs.out _).mono ?_; rintro r w' ⟨rfl, rfl⟩))
        go_ret
        exact ⟨rfl, HB.out⟩
      · have e : R = 30 := hR
        subst e
        clear hR
        go_enter Tryz.func25, Tryz.ntmps25
        go_wp2_with (first | (go_at_call 48; refine (HN.out _).mono ?_; rintro r w' ⟨rfl, rfl⟩) | (go_at_call 49; refine (HRs.out _).mono ?_; rintro r w' ⟨rfl, rfl⟩))
        go_ret
        exact ⟨rfl, HB.out⟩

set_option maxRecDepth 100000 in
set_option maxHeartbeats 2000000 in
/-- An operation with nothing beside it. -/
theorem own_op0 (op : Int) (hop : 3 ≤ op ∧ op ≤ 18) (w : World) :
    Calls Tryz.prog 25 #[.agg #[.int .i64 op, .int .i64 0, .int .i64 0, .string ⟨#[]⟩, .string ⟨#[]⟩]] w fun r w' => r = .returned (.int .i64 0) ∧ Below w.heap.size w w' := by
  have hb := box_below w #[.int .i64 op, .int .i64 0, .int .i64 0, .string ⟨#[]⟩, .string ⟨#[]⟩] 44
  have HB := Lib.hid (hb.alloc hb.size (.cells #[.int .i64 0, .int .i64 0, .string ⟨#[]⟩] 42))
  clear hb
  have d0 : decide (op < 0) = false := by rw [decide_eq_false_iff_not]; omega
  have d1 : decide ((18 : Int) < op) = false := by rw [decide_eq_false_iff_not]; omega
  have b0 : (op == 0) = false := by rw [beq_eq_false_iff_ne]; omega
  have b1 : (op == 1) = false := by rw [beq_eq_false_iff_ne]; omega
  have b2 : (op == 2) = false := by rw [beq_eq_false_iff_ne]; omega
  have n0 : ¬ op = 0 := by omega
  have n1 : ¬ op = 1 := by omega
  have n2 : ¬ op = 2 := by omega
  clear hop
  go_enter Tryz.func25, Tryz.ntmps25
  go_wp2
  go_ret
  exact ⟨rfl, HB.out⟩
set_option maxRecDepth 100000 in
set_option maxHeartbeats 2000000 in
/-- No operation. -/
theorem own_no (op k n : Int) (s m : ByteArray) (hop : op < 0 ∨ 18 < op) (w : World) :
    Calls Tryz.prog 25 #[.agg #[.int .i64 op, .int .i64 k, .int .i64 n, .string s, .string m]] w fun r w' => r = .returned (.int .i64 1) ∧ Below w.heap.size w w' := by
  have hb := box_below w #[.int .i64 op, .int .i64 k, .int .i64 n, .string s, .string m] 44
  have HB := Lib.hid (hb.alloc hb.size (.cells #[.int .i64 0, .int .i64 0, .string ⟨#[]⟩] 42))
  clear hb
  have hd : decide (op < 0) = true ∨ (decide (op < 0) = false ∧ decide ((18 : Int) < op) = true) := by
    by_cases h : op < 0
    · exact .inl (by simpa using h)
    · exact .inr ⟨by simpa using h, by rw [decide_eq_true_iff]; omega⟩
  clear hop
  rcases hd with d0 | ⟨d0, d1⟩
  all_goals
    go_enter Tryz.func25, Tryz.ntmps25
    go_wp2
    go_ret
    exact ⟨rfl, HB.out⟩
end Go.Proofs.YtfpjepeikjfkpaaGreatDoor
