import Derived.Test.YtidomoibhjgkjaaGreatDoorZC30
import Derived.Test.YtidomoibhjgkjaaGreatDoorZC23
import Derived.Test.YtidomoibhjgkjaaGreatDoorZC29
import Derived.Test.YtidomoibhjgkjaaGreatDoorZC10
/-
  Expressions, the document's own answers: what is wrong with a term by itself.
-/
namespace Go.Proofs.YtidomoibhjgkjaaGreatDoor
open Go.RowKit

def wTrue : ByteArray := ⟨#[116, 114, 117, 101]⟩
def wFalse : ByteArray := ⟨#[102, 97, 108, 115, 101]⟩
def wHas : ByteArray := ⟨#[104, 97, 115]⟩
def wLen : ByteArray := ⟨#[108, 101, 110]⟩
theorem reserved_not {m : ByteArray} (h1 : m ≠ wTrue) (h2 : m ≠ wFalse) (h3 : m ≠ wHas) (h4 : m ≠ wLen) : reservedB m = false := by
  have q : ∀ t : ByteArray, m ≠ t → m.data.toList ≠ t.data.toList := fun t h e => h (ba_list e)
  have g1 := q _ h1
  have g2 := q _ h2
  have g3 := q _ h3
  have g4 := q _ h4
  simp only [wTrue, wFalse, wHas, wLen] at g1 g2 g3 g4
  cases hb : reservedB m
  · rfl
  · have : m.data.toList ∈ wordsNo := by simpa [reservedB] using hb
    simp only [wordsNo, List.mem_cons, List.not_mem_nil, or_false] at this
    rcases this with h | h | h | h
    · exact absurd h g1
    · exact absurd h g2
    · exact absurd h g3
    · exact absurd h g4
set_option maxHeartbeats 1000000 in
theorem reserved_any (m : ByteArray) (w : World) : Calls Tryz.prog 78 #[.string m] w fun r w' => r = .returned (.bool (reservedB m)) ∧ w' = w := by
  by_cases h1 : m = wTrue
  · subst h1
    unfold wTrue
    go_enter Tryz.func78, Tryz.ntmps78
    go_wp2
    go_ret
    exact ⟨rfl, rfl⟩
  by_cases h2 : m = wFalse
  · subst h2
    unfold wFalse
    go_enter Tryz.func78, Tryz.ntmps78
    go_wp2
    go_ret
    exact ⟨rfl, rfl⟩
  by_cases h3 : m = wHas
  · subst h3
    unfold wHas
    go_enter Tryz.func78, Tryz.ntmps78
    go_wp2
    go_ret
    exact ⟨rfl, rfl⟩
  by_cases h4 : m = wLen
  · subst h4
    unfold wLen
    go_enter Tryz.func78, Tryz.ntmps78
    go_wp2
    go_ret
    exact ⟨rfl, rfl⟩
  rw [reserved_not h1 h2 h3 h4]
  have q : ∀ t : ByteArray, m ≠ t → ¬ m.toList = t.data.toList := fun t h e => by
    rw [ByteArray.toList_eq] at e
    exact h (ba_list e)
  have b1 : ¬ m.toList = [116, 114, 117, 101] := q _ h1
  have b2 : ¬ m.toList = [102, 97, 108, 115, 101] := q _ h2
  have b3 : ¬ m.toList = [104, 97, 115] := q _ h3
  have b4 : ¬ m.toList = [108, 101, 110] := q _ h4
  have f1 : (m.toList == [116, 114, 117, 101]) = false := by rw [beq_eq_false_iff_ne]; exact b1
  have f2 : (m.toList == [102, 97, 108, 115, 101]) = false := by rw [beq_eq_false_iff_ne]; exact b2
  have f3 : (m.toList == [104, 97, 115]) = false := by rw [beq_eq_false_iff_ne]; exact b3
  have f4 : (m.toList == [108, 101, 110]) = false := by rw [beq_eq_false_iff_ne]; exact b4
  clear q
  clear h1 h2 h3 h4
  go_enter Tryz.func78, Tryz.ntmps78
  go_wp2
  go_ret
  refine ⟨?_, rfl⟩
  simp [go_sem]

def RefNameC : Prop := ∀ (s : ByteArray) (w : World), s.size ≤ 5000 → Calls Tryz.prog 77 #[.string s] w fun r w' => r = .returned (.bool (nm.nameOk s)) ∧ w = w'
set_option maxRecDepth 100000 in
set_option maxHeartbeats 2000000 in
/-- A term that is a variable, or asks whether there is one. -/
theorem own_name (hN : RefNameC) (op : Int) (hop : op = 1 ∨ op = 2) (m : ByteArray) (hm : m.size ≤ 5000) (w : World) :
    Calls Tryz.prog 47 #[.agg #[.int .i64 op, .int .i64 0, .int .i64 0, .string ⟨#[]⟩, .string m]] w fun r w' => r = .returned (.int .i64 (if nm.nameOk m = false ∨ reservedB m = true then 30 else 0)) ∧ Below w.heap.size w w' := by
  have HN := Lib.hid (fun w => hN m w hm)
  have HRs := Lib.hid (fun w => (reserved_any m w).mono fun _ _ h => And.intro h.1 h.2.symm)
  have hb := box_below w #[.int .i64 op, .int .i64 0, .int .i64 0, .string ⟨#[]⟩, .string m] 47
  have HB := Lib.hid (hb.alloc hb.size (.cells #[.int .i64 0, .int .i64 0, .string ⟨#[]⟩] 27))
  have HB0 := Lib.hid hb
  clear hb hm
  generalize nm.nameOk m = a at *
  generalize reservedB m = b at *
  obtain ⟨R, hR⟩ : ∃ R : Int, R = if a = false ∨ b = true then 30 else 0 := ⟨_, rfl⟩
  rw [← hR]
  rcases hop with rfl | rfl
  all_goals
    cases a
    · have e : R = 30 := hR
      subst e
      clear hR
      go_enter Tryz.func47, Tryz.ntmps47
      go_wp2_with (first | (go_at_call 77; refine (HN.out _).mono ?_; rintro r w' ⟨rfl, rfl⟩) | (go_at_call 78; refine (HRs.out _).mono ?_; rintro r w' ⟨rfl, rfl⟩))
      go_ret
      exact ⟨rfl, HB.out⟩
    · cases b
      · have e : R = 0 := hR
        subst e
        clear hR
        go_enter Tryz.func47, Tryz.ntmps47
        go_wp2_with (first | (go_at_call 77; refine (HN.out _).mono ?_; rintro r w' ⟨rfl, rfl⟩) | (go_at_call 78; refine (HRs.out _).mono ?_; rintro r w' ⟨rfl, rfl⟩))
        go_ret
        exact ⟨rfl, HB.out⟩
      · have e : R = 30 := hR
        subst e
        clear hR
        go_enter Tryz.func47, Tryz.ntmps47
        go_wp2_with (first | (go_at_call 77; refine (HN.out _).mono ?_; rintro r w' ⟨rfl, rfl⟩) | (go_at_call 78; refine (HRs.out _).mono ?_; rintro r w' ⟨rfl, rfl⟩))
        go_ret
        exact ⟨rfl, HB.out⟩

set_option maxRecDepth 100000 in
set_option maxHeartbeats 2000000 in
/-- An operation with nothing beside it. -/
theorem own_op0 (op : Int) (hop : 3 ≤ op ∧ op ≤ 18) (w : World) :
    Calls Tryz.prog 47 #[.agg #[.int .i64 op, .int .i64 0, .int .i64 0, .string ⟨#[]⟩, .string ⟨#[]⟩]] w fun r w' => r = .returned (.int .i64 0) ∧ Below w.heap.size w w' := by
  have hb := box_below w #[.int .i64 op, .int .i64 0, .int .i64 0, .string ⟨#[]⟩, .string ⟨#[]⟩] 47
  have HB := Lib.hid (hb.alloc hb.size (.cells #[.int .i64 0, .int .i64 0, .string ⟨#[]⟩] 27))
  clear hb
  have d0 : decide (op < 0) = false := by rw [decide_eq_false_iff_not]; omega
  have d1 : decide ((18 : Int) < op) = false := by rw [decide_eq_false_iff_not]; omega
  have b0 : (op == 0) = false := by rw [beq_eq_false_iff_ne]; omega
  have b1 : (op == 1) = false := by rw [beq_eq_false_iff_ne]; omega
  have b2 : (op == 2) = false := by rw [beq_eq_false_iff_ne]; omega
  have n0 : ¬ op = 0 := by omega
  have n1 : ¬ op = 1 := by omega
  have n2 : ¬ op = 2 := by omega
  clear hop
  go_enter Tryz.func47, Tryz.ntmps47
  go_wp2
  go_ret
  exact ⟨rfl, HB.out⟩
set_option maxRecDepth 100000 in
set_option maxHeartbeats 2000000 in
/-- No operation. -/
theorem own_no (op k n : Int) (s m : ByteArray) (hop : op < 0 ∨ 18 < op) (w : World) :
    Calls Tryz.prog 47 #[.agg #[.int .i64 op, .int .i64 k, .int .i64 n, .string s, .string m]] w fun r w' => r = .returned (.int .i64 1) ∧ Below w.heap.size w w' := by
  have hb := box_below w #[.int .i64 op, .int .i64 k, .int .i64 n, .string s, .string m] 47
  have HB := Lib.hid (hb.alloc hb.size (.cells #[.int .i64 0, .int .i64 0, .string ⟨#[]⟩] 27))
  clear hb
  have hd : decide (op < 0) = true ∨ (decide (op < 0) = false ∧ decide ((18 : Int) < op) = true) := by
    by_cases h : op < 0
    · exact .inl (by simpa using h)
    · exact .inr ⟨by simpa using h, by rw [decide_eq_true_iff]; omega⟩
  clear hop
  rcases hd with d0 | ⟨d0, d1⟩
  all_goals
    go_enter Tryz.func47, Tryz.ntmps47
    go_wp2
    go_ret
    exact ⟨rfl, HB.out⟩
end Go.Proofs.YtidomoibhjgkjaaGreatDoor

/-
  Package expr: how long a word is; the token of a word.
-/
namespace Go.Proofs.YtidomoibhjgkjaaGreatDoor
open Go.RowKit

/-! ### the token of a word -/
def tokVal (k a z : Int) (tx : ByteArray) (v : V) : Value := .agg #[.int .i64 k, .int .i64 a, .int .i64 z, .string tx, .int .i64 v.k, .int .i64 v.n, .string v.s]
/-- What word makes of a word: its kind, text, value, and what is wrong. -/
def wordK (m : ByteArray) : Int × ByteArray × V × Int :=
  if m = wTrue then (1, mtS, ⟨2, 1, mtS⟩, 0) else if m = wFalse then (1, mtS, ⟨2, 0, mtS⟩, 0) else if m = wHas ∨ m = wLen then (0, m, V0, 0) else if nm.nameOk m = true then (2, m, V0, 0) else (0, mtS, V0, 30)
theorem toList_ne {m n : ByteArray} (h : m ≠ n) : (m.toList == n.toList) = false := by
  rw [beq_eq_false_iff_ne, ByteArray.toList_eq, ByteArray.toList_eq]
  exact fun e => h (ba_list e)
theorem toList_ne' {m n : ByteArray} (h : m ≠ n) : ¬ m.toList = n.toList := by
  rw [ByteArray.toList_eq, ByteArray.toList_eq]
  exact fun e => h (ba_list e)
theorem dKept_any (m : ByteArray) (w : World) : Calls Tryz.prog 115 #[.string m] w fun r w' => r = .returned (.bool (reservedB m)) ∧ w' = w := by
  by_cases h1 : m = wTrue
  · subst h1
    unfold wTrue
    go_enter Tryz.func115, Tryz.ntmps115
    go_wp2
    go_ret
    exact ⟨rfl, rfl⟩
  by_cases h2 : m = wFalse
  · subst h2
    unfold wFalse
    go_enter Tryz.func115, Tryz.ntmps115
    go_wp2
    go_ret
    exact ⟨rfl, rfl⟩
  by_cases h3 : m = wHas
  · subst h3
    unfold wHas
    go_enter Tryz.func115, Tryz.ntmps115
    go_wp2
    go_ret
    exact ⟨rfl, rfl⟩
  by_cases h4 : m = wLen
  · subst h4
    unfold wLen
    go_enter Tryz.func115, Tryz.ntmps115
    go_wp2
    go_ret
    exact ⟨rfl, rfl⟩
  rw [reserved_not h1 h2 h3 h4]
  have q : ∀ t : ByteArray, m ≠ t → ¬ m.toList = t.data.toList := fun t h e => by
    rw [ByteArray.toList_eq] at e
    exact h (ba_list e)
  have b1 : ¬ m.toList = [116, 114, 117, 101] := q _ h1
  have b2 : ¬ m.toList = [102, 97, 108, 115, 101] := q _ h2
  have b3 : ¬ m.toList = [104, 97, 115] := q _ h3
  have b4 : ¬ m.toList = [108, 101, 110] := q _ h4
  have f1 : (m.toList == [116, 114, 117, 101]) = false := by rw [beq_eq_false_iff_ne]; exact b1
  have f2 : (m.toList == [102, 97, 108, 115, 101]) = false := by rw [beq_eq_false_iff_ne]; exact b2
  have f3 : (m.toList == [104, 97, 115]) = false := by rw [beq_eq_false_iff_ne]; exact b3
  have f4 : (m.toList == [108, 101, 110]) = false := by rw [beq_eq_false_iff_ne]; exact b4
  clear q
  clear h1 h2 h3 h4
  go_enter Tryz.func115, Tryz.ntmps115
  go_wp2
  go_ret
  refine ⟨?_, rfl⟩
  simp [go_sem]

theorem cellAt {w : World} {b o : Nat} {vs : Array Value} {t : TypeId} {v : Value} (h : w.heap[b]? = some (.cells vs t (0, 0))) (hv : vs[o]? = some v) : w.cell? ⟨b, o, none⟩ = some v := by simp [World.cell?, h, hv]
theorem frozenAt {w : World} {b o : Nat} {vs : Array Value} {t : TypeId} (h : w.heap[b]? = some (.cells vs t (0, 0))) : w.frozen? ⟨b, o, none⟩ = false := by simp [World.frozen?, h]
theorem bool_raw (b : Bool) (w : World) : Calls Tryz.prog 57 #[.bool b] w fun r w' => r = .returned (.agg #[.int .i64 2, .int .i64 (if b = true then 1 else 0), .string ⟨#[]⟩]) ∧ w.alloc (.cells #[.int .i64 2, .int .i64 (if b = true then 1 else 0), .string ⟨#[]⟩] 27) = w' := by
  cases b
  all_goals
    go_enter Tryz.func57, Tryz.ntmps57
    go_wp2
    exact bodyPost_ret (v := .agg #[.int .i64 2, _, .string ⟨#[]⟩]) (by simp [results, Tryz.results57, go_sem]) rfl ⟨rfl, rfl⟩
end Go.Proofs.YtidomoibhjgkjaaGreatDoor

/-
  Package expr: what is wrong with a term by itself.
-/
namespace Go.Proofs.YtidomoibhjgkjaaGreatDoor
open Go.RowKit

theorem eqT_name {op k n : Int} {s m : ByteArray} : eqT ⟨op, ⟨k, n, s⟩, m⟩ ⟨op, ⟨k, n, s⟩, ⟨#[]⟩⟩ = decide (m = mtS) := by
  rw [Bool.eq_iff_iff, eqT_iff, decide_eq_true_iff]
  simp [mtS]
theorem eqT_val {op k n : Int} {s m : ByteArray} : eqT ⟨op, ⟨k, n, s⟩, m⟩ ⟨op, ⟨0, 0, ⟨#[]⟩⟩, m⟩ = decide ((⟨k, n, s⟩ : V) = V0) := by
  rw [Bool.eq_iff_iff, eqT_iff, decide_eq_true_iff]
  simp [V0]
theorem eqT_both {op k n : Int} {s m : ByteArray} : eqT ⟨op, ⟨k, n, s⟩, m⟩ ⟨op, ⟨0, 0, ⟨#[]⟩⟩, ⟨#[]⟩⟩ = decide ((⟨k, n, s⟩ : V) = V0 ∧ m = mtS) := by
  rw [Bool.eq_iff_iff, eqT_iff, decide_eq_true_iff]
  simp [V0, mtS]

set_option maxRecDepth 100000 in
set_option maxHeartbeats 2000000 in
theorem dRight_out (op k n : Int) (s m : ByteArray) (hop : op < 0 ∨ 18 < op) (w : World) :
    Calls Tryz.prog 83 #[.agg #[.int .i64 op, .int .i64 k, .int .i64 n, .string s, .string m]] w fun r w' => r = .returned (.int .i64 1) ∧ Below w.heap.size w w' := by
  have b0 : (op == 0) = false := by rw [beq_eq_false_iff_ne]; omega
  have b1 : (op == 1) = false := by rw [beq_eq_false_iff_ne]; omega
  have b2 : (op == 2) = false := by rw [beq_eq_false_iff_ne]; omega
  have hT : takesD op = -1 := by unfold takesD; rw [if_pos hop]
  have HTk := Lib.hid (fun w => (dTakes_any op w).mono fun _ _ h => And.intro h.1 h.2.symm)
  rw [hT] at HTk
  have hb := box_below w #[.int .i64 op, .int .i64 k, .int .i64 n, .string s, .string m] 47
  have HB := Lib.hid (hb.alloc hb.size (.cells #[.int .i64 op, .int .i64 0, .int .i64 0, .string ⟨#[]⟩, .string ⟨#[]⟩] 47))
  clear hop hT hb
  go_enter Tryz.func83, Tryz.ntmps83
  go_wp2_with (go_at_call 84; refine (HTk.out _).mono ?_; rintro r w' ⟨rfl, rfl⟩)
  go_ret
  exact ⟨rfl, HB.out⟩

set_option maxRecDepth 100000 in
set_option maxHeartbeats 2000000 in
/-- An operation that has neither a value nor a name. -/
theorem dRight_op (op k n : Int) (s m : ByteArray) (b : Bool) (hop : 3 ≤ op ∧ op ≤ 18) (hb : eqT ⟨op, ⟨k, n, s⟩, m⟩ ⟨op, ⟨0, 0, ⟨#[]⟩⟩, ⟨#[]⟩⟩ = b) (w : World) :
    Calls Tryz.prog 83 #[.agg #[.int .i64 op, .int .i64 k, .int .i64 n, .string s, .string m]] w fun r w' => r = .returned (.int .i64 (if b = true then 0 else 1)) ∧ Below w.heap.size w w' := by
  have b0 : (op == 0) = false := by rw [beq_eq_false_iff_ne]; omega
  have b1 : (op == 1) = false := by rw [beq_eq_false_iff_ne]; omega
  have b2 : (op == 2) = false := by rw [beq_eq_false_iff_ne]; omega
  obtain ⟨tk, hT, hT0⟩ : ∃ tk : Int, takesD op = tk ∧ 0 ≤ tk := ⟨_, rfl, by unfold takesD; rw [if_neg (by omega), if_neg (by omega)]; split <;> decide⟩
  have dT : decide (tk < 0) = false := by rw [decide_eq_false_iff_not]; omega
  have HTk := Lib.hid (fun w => (dTakes_any op w).mono fun _ _ h => And.intro h.1 h.2.symm)
  rw [hT] at HTk
  have q : ∀ w, (Op.equalIn 10000 47 (.agg #[.int .i64 op, .int .i64 k, .int .i64 n, .string s, .string m]) (.agg #[.int .i64 op, .int .i64 0, .int .i64 0, .string ⟨#[]⟩, .string ⟨#[]⟩])).run Tryz.prog w = .ok b w := fun w => by rw [eq_inT, hb]
  have hbl := box_below w #[.int .i64 op, .int .i64 k, .int .i64 n, .string s, .string m] 47
  have HB := Lib.hid (hbl.alloc hbl.size (.cells #[.int .i64 op, .int .i64 0, .int .i64 0, .string ⟨#[]⟩, .string ⟨#[]⟩] 47))
  clear hop hT hbl hb hT0
  cases b
  all_goals
    go_enter Tryz.func83, Tryz.ntmps83
    go_wp2_with (go_at_call 84; refine (HTk.out _).mono ?_; rintro r w' ⟨rfl, rfl⟩)
    go_ret
    exact ⟨rfl, HB.out⟩

set_option maxRecDepth 100000 in
set_option maxHeartbeats 2000000 in
/-- A value. -/
theorem dRight_val (k n : Int) (s m : ByteArray) (b : Bool) (hb : eqT ⟨0, ⟨k, n, s⟩, m⟩ ⟨0, ⟨k, n, s⟩, ⟨#[]⟩⟩ = b) (w : World) :
    Calls Tryz.prog 83 #[.agg #[.int .i64 0, .int .i64 k, .int .i64 n, .string s, .string m]] w fun r w' => r = .returned (.int .i64 (if b = true then (if rightV ⟨k, n, s⟩ ≠ 0 then rightV ⟨k, n, s⟩ else if k = 1 ∧ n < 0 then 1 else 0) else 1)) ∧ Below w.heap.size w w' := by
  have hT : takesD 0 = 0 := rfl
  have HTk := Lib.hid (fun w => (dTakes_any 0 w).mono fun _ _ h => And.intro h.1 h.2.symm)
  rw [hT] at HTk
  have q : ∀ w, (Op.equalIn 10000 47 (.agg #[.int .i64 0, .int .i64 k, .int .i64 n, .string s, .string m]) (.agg #[.int .i64 0, .int .i64 k, .int .i64 n, .string s, .string ⟨#[]⟩])).run Tryz.prog w = .ok b w := fun w => by rw [eq_inT, hb]
  have HRt := Lib.hid (vRight_any ⟨k, n, s⟩)
  generalize rightV ⟨k, n, s⟩ = z at *
  have hbl := box_below w #[.int .i64 0, .int .i64 k, .int .i64 n, .string s, .string m] 47
  have HB := Lib.hid (hbl.alloc hbl.size (.cells #[.int .i64 0, .int .i64 k, .int .i64 n, .string s, .string ⟨#[]⟩] 47))
  clear hT hbl hb
  cases b
  · go_enter Tryz.func83, Tryz.ntmps83
    go_wp2_with (go_at_call 84; refine (HTk.out _).mono ?_; rintro r w' ⟨rfl, rfl⟩)
    go_ret
    exact ⟨rfl, HB.out⟩
  · obtain ⟨bz, hbz⟩ : ∃ b : Bool, (z == 0) = b := ⟨_, rfl⟩
    obtain ⟨bk, hbk⟩ : ∃ b : Bool, (k == 1) = b := ⟨_, rfl⟩
    obtain ⟨bn, hbn⟩ : ∃ b : Bool, decide (n < 0) = b := ⟨_, rfl⟩
    obtain ⟨y, hy⟩ : ∃ y : Int, (if true = true then (if z ≠ 0 then z else if k = 1 ∧ n < 0 then 1 else 0) else 1) = y := ⟨_, rfl⟩
    rw [hy]
    have HY : (y = 1 ∧ bz = true ∧ bk = true ∧ bn = true) ∨ (y = z ∧ ((bz = true ∧ bk = true ∧ bn = false) ∨ (bz = true ∧ bk = false) ∨ bz = false)) := by
      rw [if_pos rfl] at hy
      by_cases h0 : z = 0
      · rw [if_neg (by simpa using h0)] at hy
        have : bz = true := by rw [← hbz, h0]; rfl
        by_cases h1 : k = 1
        · have h1b : bk = true := by rw [← hbk, h1]; rfl
          by_cases h2 : n < 0
          · rw [if_pos ⟨h1, h2⟩] at hy
            exact .inl ⟨hy.symm, this, h1b, by rw [← hbn]; simpa using h2⟩
          · rw [if_neg fun h => h2 h.2] at hy
            exact .inr ⟨by rw [← hy, h0], .inl ⟨this, h1b, by rw [← hbn]; simpa using h2⟩⟩
        · rw [if_neg fun h => h1 h.1] at hy
          exact .inr ⟨by rw [← hy, h0], .inr (.inl ⟨this, by rw [← hbk]; simpa using h1⟩)⟩
      · rw [if_pos h0] at hy
        exact .inr ⟨hy.symm, .inr (.inr (by rw [← hbz]; simpa using h0))⟩
    clear hy
    rcases HY with ⟨rfl, rfl, rfl, rfl⟩ | ⟨rfl, ⟨rfl, rfl, rfl⟩ | ⟨rfl, rfl⟩ | rfl⟩
    all_goals
      go_enter Tryz.func83, Tryz.ntmps83
      go_wp2_with (go_at_call 84; refine (HTk.out _).mono ?_; rintro r w' ⟨rfl, rfl⟩)
      refine (HRt.out _).mono ?_
      rintro r w1 ⟨rfl, hb1⟩
      have c0 := (hb1.cell (p := ⟨w.heap.size, 0, none⟩) (by simp; omega)).trans (show _ = some (Value.int .i64 0) by simp [go_sem])
      have c1 := (hb1.cell (p := ⟨w.heap.size, 1, none⟩) (by simp; omega)).trans (show _ = some (Value.int .i64 k) by simp [go_sem])
      have c2 := (hb1.cell (p := ⟨w.heap.size, 2, none⟩) (by simp; omega)).trans (show _ = some (Value.int .i64 n) by simp [go_sem])
      have HB1 := Lib.hid (HB.out.trans (hb1.mono HB.out.size))
      clear hb1
      go_wp2
      go_ret
      exact ⟨rfl, HB1.out⟩

set_option maxRecDepth 100000 in
set_option maxHeartbeats 4000000 in
/-- A name. -/
theorem dRight_name (op k n : Int) (s m : ByteArray) (hop : op = 1 ∨ op = 2) (hm : m.size ≤ 5000) (b : Bool) (hb : eqT ⟨op, ⟨k, n, s⟩, m⟩ ⟨op, ⟨0, 0, ⟨#[]⟩⟩, m⟩ = b) (w : World) :
    Calls Tryz.prog 83 #[.agg #[.int .i64 op, .int .i64 k, .int .i64 n, .string s, .string m]] w fun r w' => r = .returned (.int .i64 (if b = true then (if nm.nameOk m = false ∨ reservedB m = true then 30 else 0) else 1)) ∧ Below w.heap.size w w' := by
  have hT : takesD op = 0 := by rcases hop with rfl | rfl <;> rfl
  have HTk := Lib.hid (fun w => (dTakes_any op w).mono fun _ _ h => And.intro h.1 h.2.symm)
  rw [hT] at HTk
  have q : ∀ w, (Op.equalIn 10000 47 (.agg #[.int .i64 op, .int .i64 k, .int .i64 n, .string s, .string m]) (.agg #[.int .i64 op, .int .i64 0, .int .i64 0, .string ⟨#[]⟩, .string m])).run Tryz.prog w = .ok b w := fun w => by rw [eq_inT, hb]
  have HNm := Lib.hid (fun w => nm.name_any m w hm)
  have HKp := Lib.hid (fun w => (dKept_any m w).mono fun _ _ h => And.intro h.1 h.2.symm)
  have hbl := box_below w #[.int .i64 op, .int .i64 k, .int .i64 n, .string s, .string m] 47
  have HB := Lib.hid (hbl.alloc hbl.size (.cells #[.int .i64 op, .int .i64 0, .int .i64 0, .string ⟨#[]⟩, .string m] 47))
  clear hT hbl hb
  generalize nm.nameOk m = b1 at *
  generalize reservedB m = b2 at *
  rcases hop with rfl | rfl
  all_goals
    cases b
    · go_enter Tryz.func83, Tryz.ntmps83
      go_wp2_with (go_at_call 84; refine (HTk.out _).mono ?_; rintro r w' ⟨rfl, rfl⟩)
      go_ret
      exact ⟨rfl, HB.out⟩
    · cases b1
      · go_enter Tryz.func83, Tryz.ntmps83
        go_wp2_with (first | (go_at_call 84; refine (HTk.out _).mono ?_; rintro r w' ⟨rfl, rfl⟩) | (go_at_call 114; refine (HNm.out _).mono ?_; rintro r w' ⟨rfl, rfl⟩))
        go_ret
        exact ⟨rfl, HB.out⟩
      · cases b2
        all_goals
          go_enter Tryz.func83, Tryz.ntmps83
          go_wp2_with (first | (go_at_call 84; refine (HTk.out _).mono ?_; rintro r w' ⟨rfl, rfl⟩) | (go_at_call 114; refine (HNm.out _).mono ?_; rintro r w' ⟨rfl, rfl⟩) | (go_at_call 115; refine (HKp.out _).mono ?_; rintro r w' ⟨rfl, rfl⟩))
          go_ret
          exact ⟨rfl, HB.out⟩

theorem ownT_one {op : Int} {v : V} {m : ByteArray} (h : op < 0 ∨ 18 < op ∨ (op ≠ 0 ∧ v ≠ V0) ∨ (op ≠ 1 ∧ op ≠ 2 ∧ m ≠ mtS)) : ownT ⟨op, v, m⟩ = 1 := if_pos h
theorem ownT_no {op : Int} {v : V} {m : ByteArray} (h : ¬ (op < 0 ∨ 18 < op ∨ (op ≠ 0 ∧ v ≠ V0) ∨ (op ≠ 1 ∧ op ≠ 2 ∧ m ≠ mtS))) :
    ownT ⟨op, v, m⟩ = if op = 0 then (if rightV v ≠ 0 then rightV v else if v.k = 1 ∧ v.n < 0 then 1 else 0) else if op = 1 ∨ op = 2 then (if nm.nameOk m = false ∨ reservedB m = true then 30 else 0) else 0 := if_neg h

/-- right of any term. -/
theorem dRight_any (x : TM) (hm : x.nm.size ≤ 5000) (w : World) :
    Calls Tryz.prog 83 #[termVal x] w fun r w' => r = .returned (.int .i64 (ownT x)) ∧ Below w.heap.size w w' := by
  obtain ⟨op, ⟨k, n, s⟩, m⟩ := x
  simp only at hm
  by_cases hr : op < 0 ∨ 18 < op
  · have e : ownT ⟨op, ⟨k, n, s⟩, m⟩ = 1 := by unfold ownT; rw [if_pos (by rcases hr with h | h; exact .inl h; exact .inr (.inl h))]
    rw [e]
    exact dRight_out op k n s m hr w
  by_cases h0 : op = 0
  · subst h0
    have h := dRight_val k n s m _ rfl w
    rw [eqT_name] at h
    have e : (if decide (m = mtS) = true then (if rightV ⟨k, n, s⟩ ≠ 0 then rightV ⟨k, n, s⟩ else if k = 1 ∧ n < 0 then 1 else 0) else 1) = ownT ⟨0, ⟨k, n, s⟩, m⟩ := by
      by_cases hmt : m = mtS
      · rw [if_pos (by simpa using hmt), ownT_no (by rintro (h | h | h | h) <;> simp_all), if_pos rfl]
      · rw [if_neg (by simpa using hmt), ownT_one (.inr (.inr (.inr ⟨by simp, by simp, hmt⟩)))]
    rw [← e]
    exact h
  by_cases h1 : op = 1 ∨ op = 2
  · have h := dRight_name op k n s m h1 hm _ rfl w
    rw [eqT_val] at h
    have e : (if decide ((⟨k, n, s⟩ : V) = V0) = true then (if nm.nameOk m = false ∨ reservedB m = true then (30 : Int) else 0) else 1) = ownT ⟨op, ⟨k, n, s⟩, m⟩ := by
      by_cases hv : (⟨k, n, s⟩ : V) = V0
      · have hno : ¬ (op < 0 ∨ 18 < op ∨ (op ≠ 0 ∧ (⟨k, n, s⟩ : V) ≠ V0) ∨ (op ≠ 1 ∧ op ≠ 2 ∧ m ≠ mtS)) := by
          rintro (h | h | h | h)
          · omega
          · omega
          · exact h.2 hv
          · omega
        rw [if_pos (by simpa using hv), ownT_no hno, if_neg h0, if_pos h1]
      · rw [if_neg (by simpa using hv), ownT_one (.inr (.inr (.inl ⟨h0, hv⟩)))]
    rw [← e]
    exact h
  · have h := dRight_op op k n s m _ (by omega) rfl w
    rw [eqT_both] at h
    have e : (if decide ((⟨k, n, s⟩ : V) = V0 ∧ m = mtS) = true then (0 : Int) else 1) = ownT ⟨op, ⟨k, n, s⟩, m⟩ := by
      by_cases hv : (⟨k, n, s⟩ : V) = V0
      · by_cases hmt : m = mtS
        · have hno : ¬ (op < 0 ∨ 18 < op ∨ (op ≠ 0 ∧ (⟨k, n, s⟩ : V) ≠ V0) ∨ (op ≠ 1 ∧ op ≠ 2 ∧ m ≠ mtS)) := by
            rintro (h | h | h | h)
            · omega
            · omega
            · exact h.2 hv
            · exact h.2.2 hmt
          rw [if_pos (by simpa using And.intro hv hmt), ownT_no hno, if_neg h0, if_neg h1]
        · rw [if_neg (by simpa using fun _ => hmt), ownT_one (.inr (.inr (.inr ⟨fun e => h1 (.inl e), fun e => h1 (.inr e), hmt⟩)))]
      · rw [if_neg (by simpa using fun h => absurd h hv), ownT_one (.inr (.inr (.inl ⟨h0, hv⟩)))]
    rw [← e]
    exact h
end Go.Proofs.YtidomoibhjgkjaaGreatDoor
