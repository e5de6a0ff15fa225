import Derived.Test.YtfpjepeikjfkpaaGreatDoorZBlanks13
import Derived.Test.YtfpjepeikjfkpaaGreatDoorZBlanks25
import Derived.Test.YtfpjepeikjfkpaaGreatDoorZBlanks15
import Derived.Test.YtfpjepeikjfkpaaGreatDoorZBlanks36
/-
  Package expr: how long a word is; the token of a word.
-/
namespace Go.Proofs.YtfpjepeikjfkpaaGreatDoor
open Go.RowKit

set_option maxHeartbeats 4000000 in
theorem wordSize_any (s : ByteArray) (hn : s.size ≤ 1000000) (w : World) :
    Calls Tryz.prog 61 #[.string s] w fun r w' => r = .returned (.int .i64 ((wordOf s.data.toList).length : Int)) ∧ w = w' := by
  have HL := Lib.hid dLetter_any
  have HD := Lib.hid dDigit_any
  go_enter Tryz.func61, Tryz.ntmps61
  go_wp2
  go_loopg [3] s.size (fun q i wr => ∃ j : Nat, j + q = s.size ∧ i = .int .i64 (j : Int) ∧ (wordOf s.data.toList).length = j + (wordOf (s.data.toList.drop j)).length ∧ wr = w)
  case atStart => exact ⟨0, by omega, rfl, by simp, rfl⟩
  case round =>
    obtain ⟨j, hk, rfl, hs, rfl⟩ := hrel
    have HS := Lib.hid hs
    have HK := Lib.hid hk
    clear hs hk
    by_cases hj : j < s.size
    · have d1 : decide ((j : Int) < (s.size : Int)) = true := by rw [decide_eq_true_iff]; omega
      have d2 : decide (j < s.size) = true := by simpa using hj
      have hjl : j < s.data.toList.length := hj
      have hdrop : s.data.toList.drop j = s[j] :: s.data.toList.drop (j + 1) := List.drop_eq_getElem_cons hjl
      have hstep : (wordOf (s.data.toList.drop j)).length = if wordB s[j] = true then (wordOf (s.data.toList.drop (j + 1))).length + 1 else 0 := by
        rw [hdrop]
        unfold wordOf
        rw [List.takeWhile_cons]
        split <;> simp
      have hwb : wordB s[j] = (letD s[j] || numD s[j] || s[j] == 45) := rfl
      generalize hc : s[j] = c at *
      have HLc := Lib.hid (HL.out c)
      have HDc := Lib.hid (HD.out c)
      clear hdrop
      by_cases hw : wordB c = true
      · rw [if_pos hw] at hstep
        have HS2 := Lib.hid (show (wordOf s.data.toList).length = (j + 1) + (wordOf (s.data.toList.drop (j + 1))).length by rw [HS.out, hstep]; omega)
        clear hstep
        have key : letD c = true ∨ (letD c = false ∧ numD c = true) ∨ (letD c = false ∧ numD c = false ∧ ((c.toNat : Int) == 45) = true) := by
          rw [hw] at hwb
          cases h1 : letD c
          · cases h2 : numD c
            · rw [h1, h2] at hwb
              have h45 : c = 45 := by simpa using hwb.symm
              exact .inr (.inr ⟨rfl, rfl, by rw [h45]; rfl⟩)
            · exact .inr (.inl ⟨rfl, rfl⟩)
          · exact .inl rfl
        clear hw hwb
        rcases key with h1 | ⟨h1, h2⟩ | ⟨h1, h2, h3⟩
        · rw [h1] at HLc
          clear h1
          go_wp2_with (first | (go_at_call 59; refine (HLc.out _).mono ?_; rintro r w' ⟨rfl, rfl⟩) | (go_at_call 57; refine (HDc.out _).mono ?_; rintro r w' ⟨rfl, rfl⟩))
          go_roundg (gk - 1)
          case measure => have := HK.out; omega
          case rel => exact ⟨j + 1, by have := HK.out; omega, by go_num, HS2.out, rfl⟩
        · rw [h1] at HLc
          rw [h2] at HDc
          clear h1 h2
          go_wp2_with (first | (go_at_call 59; refine (HLc.out _).mono ?_; rintro r w' ⟨rfl, rfl⟩) | (go_at_call 57; refine (HDc.out _).mono ?_; rintro r w' ⟨rfl, rfl⟩))
          go_roundg (gk - 1)
          case measure => have := HK.out; omega
          case rel => exact ⟨j + 1, by have := HK.out; omega, by go_num, HS2.out, rfl⟩
        · rw [h1] at HLc
          rw [h2] at HDc
          clear h1 h2
          go_wp2_with (first | (go_at_call 59; refine (HLc.out _).mono ?_; rintro r w' ⟨rfl, rfl⟩) | (go_at_call 57; refine (HDc.out _).mono ?_; rintro r w' ⟨rfl, rfl⟩))
          go_roundg (gk - 1)
          case measure => have := HK.out; omega
          case rel => exact ⟨j + 1, by have := HK.out; omega, by go_num, HS2.out, rfl⟩
      · rw [if_neg hw] at hstep
        have HS2 := Lib.hid (show (wordOf s.data.toList).length = j by rw [HS.out, hstep]; omega)
        clear hstep
        have hwf : wordB c = false := by simpa using hw
        rw [hwf] at hwb
        have h1 : letD c = false := by cases h : letD c; rfl; rw [h] at hwb; simp at hwb
        have h2 : numD c = false := by cases h : numD c; rfl; rw [h] at hwb; simp at hwb
        have h3 : ((c.toNat : Int) == 45) = false := v8_ne (n := 45) (by omega) (fun h => by
          have h' : c = 45 := h
          rw [h'] at hwb
          simp at hwb)
        rw [h1] at HLc
        rw [h2] at HDc
        clear hw hwb hwf h1 h2
        go_wp2_with (first | (go_at_call 59; refine (HLc.out _).mono ?_; rintro r w' ⟨rfl, rfl⟩) | (go_at_call 57; refine (HDc.out _).mono ?_; rintro r w' ⟨rfl, rfl⟩))
        go_ret
        rw [HS2.out]
        exact ⟨rfl, rfl⟩
    · have d1 : decide ((j : Int) < (s.size : Int)) = false := by rw [decide_eq_false_iff_not]; omega
      have d2 : decide (j < s.size) = false := by simpa using hj
      have HS2 := Lib.hid (show (wordOf s.data.toList).length = j by
        rw [HS.out, List.drop_of_length_le (by show s.size ≤ j; omega)]
        simp [wordOf])
      go_wp2
      go_ret
      rw [HS2.out]
      exact ⟨rfl, rfl⟩

/-! ### the token of a word -/
def tokVal (k a z : Int) (tx : ByteArray) (v : V) : Value := .agg #[.int .i64 k, .int .i64 a, .int .i64 z, .string tx, .int .i64 v.k, .int .i64 v.n, .string v.s]
/-- What word makes of a word: its kind, text, value, and what is wrong. -/
def wordK (m : ByteArray) : Int × ByteArray × V × Int :=
  if m = wTrue then (1, mtS, ⟨2, 1, mtS⟩, 0) else if m = wFalse then (1, mtS, ⟨2, 0, mtS⟩, 0) else if m = wHas ∨ m = wLen then (0, m, V0, 0) else if nm.nameOk m = true then (2, m, V0, 0) else (0, mtS, V0, 30)
theorem toList_ne {m n : ByteArray} (h : m ≠ n) : (m.toList == n.toList) = false := by
  rw [beq_eq_false_iff_ne, ByteArray.toList_eq, ByteArray.toList_eq]
  exact fun e => h (ba_list e)
theorem toList_ne' {m n : ByteArray} (h : m ≠ n) : ¬ m.toList = n.toList := by
  rw [ByteArray.toList_eq, ByteArray.toList_eq]
  exact fun e => h (ba_list e)
theorem dKept_any (m : ByteArray) (w : World) : Calls Tryz.prog 45 #[.string m] w fun r w' => r = .returned (.bool (reservedB m)) ∧ w' = w := by
  by_cases h1 : m = wTrue
  · subst h1
    unfold wTrue
    go_enter Tryz.func45, Tryz.ntmps45
    go_wp2
    go_ret
    exact ⟨rfl, rfl⟩
  by_cases h2 : m = wFalse
  · subst h2
    unfold wFalse
    go_enter Tryz.func45, Tryz.ntmps45
    go_wp2
    go_ret
    exact ⟨rfl, rfl⟩
  by_cases h3 : m = wHas
  · subst h3
    unfold wHas
    go_enter Tryz.func45, Tryz.ntmps45
    go_wp2
    go_ret
    exact ⟨rfl, rfl⟩
  by_cases h4 : m = wLen
  · subst h4
    unfold wLen
    go_enter Tryz.func45, Tryz.ntmps45
    go_wp2
    go_ret
    exact ⟨rfl, rfl⟩
  rw [reserved_not h1 h2 h3 h4]
  have q : ∀ t : ByteArray, m ≠ t → ¬ m.toList = t.data.toList := fun t h e => by
    rw [ByteArray.toList_eq] at e
    exact h (ba_list e)
  have b1 : ¬ m.toList = [116, 114, 117, 101] := q _ h1
  have b2 : ¬ m.toList = [102, 97, 108, 115, 101] := q _ h2
  have b3 : ¬ m.toList = [104, 97, 115] := q _ h3
  have b4 : ¬ m.toList = [108, 101, 110] := q _ h4
  have f1 : (m.toList == [116, 114, 117, 101]) = false := by rw [beq_eq_false_iff_ne]; exact b1
  have f2 : (m.toList == [102, 97, 108, 115, 101]) = false := by rw [beq_eq_false_iff_ne]; exact b2
  have f3 : (m.toList == [104, 97, 115]) = false := by rw [beq_eq_false_iff_ne]; exact b3
  have f4 : (m.toList == [108, 101, 110]) = false := by rw [beq_eq_false_iff_ne]; exact b4
  clear q
  clear h1 h2 h3 h4
  go_enter Tryz.func45, Tryz.ntmps45
  go_wp2
  go_ret
  refine ⟨?_, rfl⟩
  simp [go_sem, f1, f2, f3, f4]

theorem cellAt {w : World} {b o : Nat} {vs : Array Value} {t : TypeId} {v : Value} (h : w.heap[b]? = some (.cells vs t (0, 0))) (hv : vs[o]? = some v) : w.cell? ⟨b, o, none⟩ = some v := by simp [World.cell?, h, hv]
theorem frozenAt {w : World} {b o : Nat} {vs : Array Value} {t : TypeId} (h : w.heap[b]? = some (.cells vs t (0, 0))) : w.frozen? ⟨b, o, none⟩ = false := by simp [World.frozen?, h]
theorem bool_raw (b : Bool) (w : World) : Calls Tryz.prog 79 #[.bool b] w fun r w' => r = .returned (.agg #[.int .i64 2, .int .i64 (if b = true then 1 else 0), .string ⟨#[]⟩]) ∧ w.alloc (.cells #[.int .i64 2, .int .i64 (if b = true then 1 else 0), .string ⟨#[]⟩] 42) = w' := by
  cases b
  all_goals
    go_enter Tryz.func79, Tryz.ntmps79
    go_wp2
    exact bodyPost_ret (v := .agg #[.int .i64 2, _, .string ⟨#[]⟩]) (by simp [results, Tryz.results79, go_sem]) rfl ⟨rfl, rfl⟩
set_option maxRecDepth 100000 in
set_option maxHeartbeats 4000000 in
theorem dWord_any (m : ByteArray) (p : Nat) (hm : m.size ≤ 5000) (hp : p ≤ 1000000) (w : World) :
    Calls Tryz.prog 60 #[.string m, .agg #[.int .i64 0, .int .i64 p, .int .i64 p, .string ⟨#[]⟩, .int .i64 0, .int .i64 0, .string ⟨#[]⟩]] w fun r w' => r = .returned (.tuple #[tokVal (wordK m).1 p ((p : Int) + m.size) (wordK m).2.1 (wordK m).2.2.1, .int .i64 (wordK m).2.2.2]) ∧ Below w.heap.size w w' := by
  have HNm := Lib.hid (fun w => nm.name_any m w hm)
  have hbel : ∀ (c1 c2 : Array Value) (t1 t2 : TypeId), Below w.heap.size w ((w.alloc (.cells c1 t1)).alloc (.cells c2 t2)) := fun _ _ _ _ => ((Below.refl _ w).alloc (Nat.le_refl _) _).alloc (by simp) _
  unfold tokVal
  have HB := Lib.hid hbel
  clear hbel
  by_cases h1 : m = wTrue
  · subst h1
    rw [show wordK wTrue = (1, mtS, ⟨2, 1, mtS⟩, 0) from rfl]
    unfold wTrue
    clear hm HNm
    go_enter Tryz.func60, Tryz.ntmps60
    go_wp2_with (go_at_call 79; refine (bool_raw true _).mono ?_; rintro r w1 ⟨rfl, rfl⟩)
    exact bodyPost_ret (v := .tuple #[.agg #[.int .i64 1, .int .i64 p, .int .i64 ((p : Int) + 4), .string ⟨#[]⟩, .int .i64 2, .int .i64 1, .string ⟨#[]⟩], .int .i64 0]) (by simp [results, Tryz.results60, go_sem]) rfl ⟨rfl, (HB.out _ _ _ _).alloc (by simp; omega) _⟩
  by_cases h2 : m = wFalse
  · subst h2
    rw [show wordK wFalse = (1, mtS, ⟨2, 0, mtS⟩, 0) from rfl]
    unfold wFalse
    clear hm HNm h1
    go_enter Tryz.func60, Tryz.ntmps60
    go_wp2_with (go_at_call 79; refine (bool_raw false _).mono ?_; rintro r w1 ⟨rfl, rfl⟩)
    exact bodyPost_ret (v := .tuple #[.agg #[.int .i64 1, .int .i64 p, .int .i64 ((p : Int) + 5), .string ⟨#[]⟩, .int .i64 2, .int .i64 0, .string ⟨#[]⟩], .int .i64 0]) (by simp [results, Tryz.results60, go_sem]) rfl ⟨rfl, (HB.out _ _ _ _).alloc (by simp; omega) _⟩
  by_cases h3 : m = wHas
  · subst h3
    rw [show wordK wHas = (0, wHas, V0, 0) from rfl]
    unfold wHas
    clear hm HNm h1 h2
    go_enter Tryz.func60, Tryz.ntmps60
    go_wp2_with (fail)
    exact bodyPost_ret (v := .tuple #[.agg #[.int .i64 0, .int .i64 p, .int .i64 ((p : Int) + 3), .string ⟨#[104, 97, 115]⟩, .int .i64 0, .int .i64 0, .string ⟨#[]⟩], .int .i64 0]) (by simp [results, Tryz.results60, go_sem]) rfl ⟨rfl, HB.out _ _ _ _⟩
  by_cases h4 : m = wLen
  · subst h4
    rw [show wordK wLen = (0, wLen, V0, 0) from rfl]
    unfold wLen
    clear hm HNm h1 h2 h3
    go_enter Tryz.func60, Tryz.ntmps60
    go_wp2_with (fail)
    exact bodyPost_ret (v := .tuple #[.agg #[.int .i64 0, .int .i64 p, .int .i64 ((p : Int) + 3), .string ⟨#[108, 101, 110]⟩, .int .i64 0, .int .i64 0, .string ⟨#[]⟩], .int .i64 0]) (by simp [results, Tryz.results60, go_sem]) rfl ⟨rfl, HB.out _ _ _ _⟩
  have q : ∀ t : ByteArray, m ≠ t → ¬ m.toList = t.data.toList := fun t h e => by
    rw [ByteArray.toList_eq] at e
    exact h (ba_list e)
  have b1 : ¬ m.toList = [116, 114, 117, 101] := q _ h1
  have b2 : ¬ m.toList = [102, 97, 108, 115, 101] := q _ h2
  have b3 : ¬ m.toList = [104, 97, 115] := q _ h3
  have b4 : ¬ m.toList = [108, 101, 110] := q _ h4
  have f1 : (m.toList == [116, 114, 117, 101]) = false := by rw [beq_eq_false_iff_ne]; exact b1
  have f2 : (m.toList == [102, 97, 108, 115, 101]) = false := by rw [beq_eq_false_iff_ne]; exact b2
  have f3 : (m.toList == [104, 97, 115]) = false := by rw [beq_eq_false_iff_ne]; exact b3
  have f4 : (m.toList == [108, 101, 110]) = false := by rw [beq_eq_false_iff_ne]; exact b4
  have HW : wordK m = if nm.nameOk m = true then (2, m, V0, 0) else (0, mtS, V0, 30) := by
    unfold wordK
    rw [if_neg h1, if_neg h2, if_neg (fun h => by rcases h with h | h; exact h3 h; exact h4 h)]
  clear q h1 h2 h3 h4
  rw [HW]
  clear HW
  cases hN : nm.nameOk m
  · rw [hN] at HNm
    rw [if_neg (by simp)]
    clear hN
    go_enter Tryz.func60, Tryz.ntmps60
    go_wp2_with (go_at_call 44; refine (HNm.out _).mono ?_; rintro r w1 ⟨rfl, rfl⟩)
    exact bodyPost_ret (v := .tuple #[.agg #[.int .i64 0, .int .i64 p, .int .i64 ((p : Int) + m.size), .string ⟨#[]⟩, .int .i64 0, .int .i64 0, .string ⟨#[]⟩], .int .i64 30]) (by simp [results, Tryz.results60, go_sem]) rfl ⟨rfl, HB.out _ _ _ _⟩
  · rw [hN] at HNm
    rw [if_pos rfl]
    clear hN
    go_enter Tryz.func60, Tryz.ntmps60
    go_wp2_with (go_at_call 44; refine (HNm.out _).mono ?_; rintro r w1 ⟨rfl, rfl⟩)
    exact bodyPost_ret (v := .tuple #[.agg #[.int .i64 2, .int .i64 p, .int .i64 ((p : Int) + m.size), .string m, .int .i64 0, .int .i64 0, .string ⟨#[]⟩], .int .i64 0]) (by simp [results, Tryz.results60, go_sem]) rfl ⟨rfl, HB.out _ _ _ _⟩
end Go.Proofs.YtfpjepeikjfkpaaGreatDoor
