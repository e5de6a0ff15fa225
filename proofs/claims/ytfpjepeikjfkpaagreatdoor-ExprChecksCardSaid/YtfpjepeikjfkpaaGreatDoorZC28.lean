import Derived.Test.YtfpjepeikjfkpaaGreatDoorZC11
import Derived.Test.YtfpjepeikjfkpaaGreatDoorZC19
import Derived.Test.YtfpjepeikjfkpaaGreatDoorZC12
import Derived.Test.YtfpjepeikjfkpaaGreatDoorZC27
import Derived.Test.YtfpjepeikjfkpaaGreatDoorZC26
/-
  Package expr: how long a word is; the token of a word.
-/
namespace Go.Proofs.YtfpjepeikjfkpaaGreatDoor
open Go.RowKit

set_option maxHeartbeats 4000000 in
theorem wordSize_any (s : ByteArray) (hn : s.size ≤ 1000000) (w : World) :
    Calls Tryz.prog 61 #[.string s] w fun r w' => r = .returned (.int .i64 ((wordOf s.data.toList).length : Int)) ∧ w = w' := by
  have HL := Lib.hid dLetter_any
  have HD := Lib.hid dDigit_any
  go_enter Tryz.func61, Tryz.ntmps61
  go_wp2
  go_loopg [3] s.size (fun q i wr => ∃ j : Nat, j + q = s.size ∧ i = .int .i64 (j : Int) ∧ (wordOf s.data.toList).length = j + (wordOf (s.data.toList.drop j)).length ∧ wr = w)
  case atStart => exact ⟨0, by omega, rfl, by simp, rfl⟩
  case round =>
    obtain ⟨j, hk, rfl, hs, rfl⟩ := hrel
    have HS := Lib.hid hs
    have HK := Lib.hid hk
    clear hs hk
    by_cases hj : j < s.size
    · have d1 : decide ((j : Int) < (s.size : Int)) = true := by rw [decide_eq_true_iff]; omega
      have d2 : decide (j < s.size) = true := by simpa using hj
      have hjl : j < s.data.toList.length := hj
      have hdrop : s.data.toList.drop j = s[j] :: s.data.toList.drop (j + 1) := List.drop_eq_getElem_cons hjl
      have hstep : (wordOf (s.data.toList.drop j)).length = if wordB s[j] = true then (wordOf (s.data.toList.drop (j + 1))).length + 1 else 0 := by
        rw [hdrop]
        unfold wordOf
        rw [List.takeWhile_cons]
        split <;> simp
      have hwb : wordB s[j] = (letD s[j] || numD s[j] || s[j] == 45) := rfl
      generalize hc : s[j] = c at *
      have HLc := Lib.hid (HL.out c)
      have HDc := Lib.hid (HD.out c)
      clear hdrop
      by_cases hw : wordB c = true
      · rw [if_pos hw] at hstep
        have HS2 := Lib.hid (show (wordOf s.data.toList).length = (j + 1) + (wordOf (s.data.toList.drop (j + 1))).length by rw [HS.out, hstep]; omega)
        clear hstep
        have key : letD c = true ∨ (letD c = false ∧ numD c = true) ∨ (letD c = false ∧ numD c = false ∧ ((c.toNat : Int) == 45) = true) := by
          rw [hw] at hwb
          cases h1 : letD c
          · cases h2 : numD c
            · rw [h1, h2] at hwb
              have h45 : c = 45 := by simpa using hwb.symm
              exact .inr (.inr ⟨rfl, rfl, by rw [h45]; rfl⟩)
            · exact .inr (.inl ⟨rfl, rfl⟩)
          · exact .inl rfl
        clear hw hwb
        rcases key with h1 | ⟨h1, h2⟩ | ⟨h1, h2, h3⟩
        · rw [h1] at HLc
          clear h1
          go_wp2_with (first | (go_at_call 59; refine (HLc.out _).mono ?_; rintro r w' ⟨rfl, rfl⟩) | (go_at_call 57; refine (HDc.out _).mono ?_; rintro r w' ⟨rfl, rfl⟩))
          go_roundg (gk - 1)
          case measure => have := HK.out; omega
          case rel => exact ⟨j + 1, by have := HK.out; omega, by go_num, HS2.out, rfl⟩
        · rw [h1] at HLc
          rw [h2] at HDc
          clear h1 h2
          go_wp2_with (first | (go_at_call 59; refine (HLc.out _).mono ?_; rintro r w' ⟨rfl, rfl⟩) | (go_at_call 57; refine (HDc.out _).mono ?_; rintro r w' ⟨rfl, rfl⟩))
          go_roundg (gk - 1)
          case measure => have := HK.out; omega
          case rel => exact ⟨j + 1, by have := HK.out; omega, by go_num, HS2.out, rfl⟩
        · rw [h1] at HLc
          rw [h2] at HDc
          clear h1 h2
          go_wp2_with (first | (go_at_call 59; refine (HLc.out _).mono ?_; rintro r w' ⟨rfl, rfl⟩) | (go_at_call 57; refine (HDc.out _).mono ?_; rintro r w' ⟨rfl, rfl⟩))
          go_roundg (gk - 1)
          case measure => have := HK.out; omega
          case rel => exact ⟨j + 1, by have := HK.out; omega, by go_num, HS2.out, rfl⟩
      · rw [if_neg hw] at hstep
        have HS2 := Lib.hid (show (wordOf s.data.toList).length = j by rw [HS.out, hstep]; omega)
        clear hstep
        have hwf : wordB c = false := by simpa using hw
        rw [hwf] at hwb
        have h1 : letD c = false := by cases h : letD c; rfl; rw [h] at hwb; simp at hwb
        have h2 : numD c = false := by cases h : numD c; rfl; rw [h] at hwb; simp at hwb
        have h3 : ((c.toNat : Int) == 45) = false := v8_ne (n := 45) (by omega) (fun h => by
          have h' : c = 45 := h
          rw [h'] at hwb
          simp at hwb)
        rw [h1] at HLc
        rw [h2] at HDc
        clear hw hwb hwf h1 h2
        go_wp2_with (first | (go_at_call 59; refine (HLc.out _).mono ?_; rintro r w' ⟨rfl, rfl⟩) | (go_at_call 57; refine (HDc.out _).mono ?_; rintro r w' ⟨rfl, rfl⟩))
        go_ret
        rw [HS2.out]
        exact ⟨rfl, rfl⟩
    · have d1 : decide ((j : Int) < (s.size : Int)) = false := by rw [decide_eq_false_iff_not]; omega
      have d2 : decide (j < s.size) = false := by simpa using hj
      have HS2 := Lib.hid (show (wordOf s.data.toList).length = j by
        rw [HS.out, List.drop_of_length_le (by show s.size ≤ j; omega)]
        simp [wordOf])
      go_wp2
      go_ret
      rw [HS2.out]
      exact ⟨rfl, rfl⟩

/-! ### the token of a word -/
def tokVal (k a z : Int) (tx : ByteArray) (v : V) : Value := .agg #[.int .i64 k, .int .i64 a, .int .i64 z, .string tx, .int .i64 v.k, .int .i64 v.n, .string v.s]
/-- What word makes of a word: its kind, text, value, and what is wrong. -/
def wordK (m : ByteArray) : Int × ByteArray × V × Int :=
  if m = wTrue then (1, mtS, ⟨2, 1, mtS⟩, 0) else if m = wFalse then (1, mtS, ⟨2, 0, mtS⟩, 0) else if m = wHas ∨ m = wLen then (0, m, V0, 0) else if nm.nameOk m = true then (2, m, V0, 0) else (0, mtS, V0, 30)
theorem toList_ne {m n : ByteArray} (h : m ≠ n) : (m.toList == n.toList) = false := by
  rw [beq_eq_false_iff_ne, ByteArray.toList_eq, ByteArray.toList_eq]
  exact fun e => h (ba_list e)
theorem toList_ne' {m n : ByteArray} (h : m ≠ n) : ¬ m.toList = n.toList := by
  rw [ByteArray.toList_eq, ByteArray.toList_eq]
  exact fun e => h (ba_list e)
theorem dKept_any (m : ByteArray) (w : World) : Calls Tryz.prog 45 #[.string m] w fun r w' => r = .returned (.bool (reservedB m)) ∧ w' = w := by
  by_cases h1 : m = wTrue
  · subst h1
    unfold wTrue
    go_enter Tryz.func45, Tryz.ntmps45
    go_wp2
    go_ret
    exact ⟨rfl, rfl⟩
  by_cases h2 : m = wFalse
  · subst h2
    unfold wFalse
    go_enter Tryz.func45, Tryz.ntmps45
    go_wp2
    go_ret
    exact ⟨rfl, rfl⟩
  by_cases h3 : m = wHas
  · subst h3
    unfold wHas
    go_enter Tryz.func45, Tryz.ntmps45
    go_wp2
    go_ret
    exact ⟨rfl, rfl⟩
  by_cases h4 : m = wLen
  · subst h4
    unfold wLen
    go_enter Tryz.func45, Tryz.ntmps45
    go_wp2
    go_ret
    exact ⟨rfl, rfl⟩
  rw [reserved_not h1 h2 h3 h4]
  have q : ∀ t : ByteArray, m ≠ t → ¬ m.toList = t.data.toList := fun t h e => by
    rw [ByteArray.toList_eq] at e
    exact h (ba_list e)
  have b1 : ¬ m.toList = [116, 114, 117, 101] := q _ h1
  have b2 : ¬ m.toList = [102, 97, 108, 115, 101] := q _ h2
  have b3 : ¬ m.toList = [104, 97, 115] := q _ h3
  have b4 : ¬ m.toList = [108, 101, 110] := q _ h4
  have f1 : (m.toList == [116, 114, 117, 101]) = false := by rw [beq_eq_false_iff_ne]; exact b1
  have f2 : (m.toList == [102, 97, 108, 115, 101]) = false := by rw [beq_eq_false_iff_ne]; exact b2
  have f3 : (m.toList == [104, 97, 115]) = false := by rw [beq_eq_false_iff_ne]; exact b3
  have f4 : (m.toList == [108, 101, 110]) = false := by rw [beq_eq_false_iff_ne]; exact b4
  clear q
  clear h1 h2 h3 h4
  go_enter Tryz.func45, Tryz.ntmps45
  go_wp2
  go_ret
  refine ⟨?_, rfl⟩
  simp [go_sem, f1, f2, f3, f4]

theorem cellAt {w : World} {b o : Nat} {vs : Array Value} {t : TypeId} {v : Value} (h : w.heap[b]? = some (.cells vs t (0, 0))) (hv : vs[o]? = some v) : w.cell? ⟨b, o, none⟩ = some v := by simp [World.cell?, h, hv]
theorem frozenAt {w : World} {b o : Nat} {vs : Array Value} {t : TypeId} (h : w.heap[b]? = some (.cells vs t (0, 0))) : w.frozen? ⟨b, o, none⟩ = false := by simp [World.frozen?, h]
theorem bool_raw (b : Bool) (w : World) : Calls Tryz.prog 79 #[.bool b] w fun r w' => r = .returned (.agg #[.int .i64 2, .int .i64 (if b = true then 1 else 0), .string ⟨#[]⟩]) ∧ w.alloc (.cells #[.int .i64 2, .int .i64 (if b = true then 1 else 0), .string ⟨#[]⟩] 42) = w' := by
  cases b
  all_goals
    go_enter Tryz.func79, Tryz.ntmps79
    go_wp2
    exact bodyPost_ret (v := .agg #[.int .i64 2, _, .string ⟨#[]⟩]) (by simp [results, Tryz.results79, go_sem]) rfl ⟨rfl, rfl⟩
set_option maxRecDepth 100000 in
set_option maxHeartbeats 4000000 in
theorem dWord_any (m : ByteArray) (p : Nat) (hm : m.size ≤ 5000) (hp : p ≤ 1000000) (w : World) :
    Calls Tryz.prog 60 #[.string m, .agg #[.int .i64 0, .int .i64 p, .int .i64 p, .string ⟨#[]⟩, .int .i64 0, .int .i64 0, .string ⟨#[]⟩]] w fun r w' => r = .returned (.tuple #[tokVal (wordK m).1 p ((p : Int) + m.size) (wordK m).2.1 (wordK m).2.2.1, .int .i64 (wordK m).2.2.2]) ∧ Below w.heap.size w w' := by
  have HNm := Lib.hid (fun w => nm.name_any m w hm)
  have hbel : ∀ (c1 c2 : Array Value) (t1 t2 : TypeId), Below w.heap.size w ((w.alloc (.cells c1 t1)).alloc (.cells c2 t2)) := fun _ _ _ _ => ((Below.refl _ w).alloc (Nat.le_refl _) _).alloc (by simp) _
  unfold tokVal
  have HB := Lib.hid hbel
  clear hbel
  by_cases h1 : m = wTrue
  · subst h1
    rw [show wordK wTrue = (1, mtS, ⟨2, 1, mtS⟩, 0) from rfl]
    unfold wTrue
    clear hm HNm
    go_enter Tryz.func60, Tryz.ntmps60
    go_wp2_with (go_at_call 79; refine (bool_raw true _).mono ?_; rintro r w1 ⟨rfl, rfl⟩)
    exact bodyPost_ret (v := .tuple #[.agg #[.int .i64 1, .int .i64 p, .int .i64 ((p : Int) + 4), .string ⟨#[]⟩, .int .i64 2, .int .i64 1, .string ⟨#[]⟩], .int .i64 0]) (by simp [results, Tryz.results60, go_sem]) rfl ⟨rfl, (HB.out _ _ _ _).alloc (by simp; omega) _⟩
  by_cases h2 : m = wFalse
  · subst h2
    rw [show wordK wFalse = (1, mtS, ⟨2, 0, mtS⟩, 0) from rfl]
    unfold wFalse
    clear hm HNm h1
    go_enter Tryz.func60, Tryz.ntmps60
    go_wp2_with (go_at_call 79; refine (bool_raw false _).mono ?_; rintro r w1 ⟨rfl, rfl⟩)
    exact bodyPost_ret (v := .tuple #[.agg #[.int .i64 1, .int .i64 p, .int .i64 ((p : Int) + 5), .string ⟨#[]⟩, .int .i64 2, .int .i64 0, .string ⟨#[]⟩], .int .i64 0]) (by simp [results, Tryz.results60, go_sem]) rfl ⟨rfl, (HB.out _ _ _ _).alloc (by simp; omega) _⟩
  by_cases h3 : m = wHas
  · subst h3
    rw [show wordK wHas = (0, wHas, V0, 0) from rfl]
    unfold wHas
    clear hm HNm h1 h2
    go_enter Tryz.func60, Tryz.ntmps60
    go_wp2_with (fail)
    exact bodyPost_ret (v := .tuple #[.agg #[.int .i64 0, .int .i64 p, .int .i64 ((p : Int) + 3), .string ⟨#[104, 97, 115]⟩, .int .i64 0, .int .i64 0, .string ⟨#[]⟩], .int .i64 0]) (by simp [results, Tryz.results60, go_sem]) rfl ⟨rfl, HB.out _ _ _ _⟩
  by_cases h4 : m = wLen
  · subst h4
    rw [show wordK wLen = (0, wLen, V0, 0) from rfl]
    unfold wLen
    clear hm HNm h1 h2 h3
    go_enter Tryz.func60, Tryz.ntmps60
    go_wp2_with (fail)
    exact bodyPost_ret (v := .tuple #[.agg #[.int .i64 0, .int .i64 p, .int .i64 ((p : Int) + 3), .string ⟨#[108, 101, 110]⟩, .int .i64 0, .int .i64 0, .string ⟨#[]⟩], .int .i64 0]) (by simp [results, Tryz.results60, go_sem]) rfl ⟨rfl, HB.out _ _ _ _⟩
  have q : ∀ t : ByteArray, m ≠ t → ¬ m.toList = t.data.toList := fun t h e => by
    rw [ByteArray.toList_eq] at e
    exact h (ba_list e)
  have b1 : ¬ m.toList = [116, 114, 117, 101] := q _ h1
  have b2 : ¬ m.toList = [102, 97, 108, 115, 101] := q _ h2
  have b3 : ¬ m.toList = [104, 97, 115] := q _ h3
  have b4 : ¬ m.toList = [108, 101, 110] := q _ h4
  have f1 : (m.toList == [116, 114, 117, 101]) = false := by rw [beq_eq_false_iff_ne]; exact b1
  have f2 : (m.toList == [102, 97, 108, 115, 101]) = false := by rw [beq_eq_false_iff_ne]; exact b2
  have f3 : (m.toList == [104, 97, 115]) = false := by rw [beq_eq_false_iff_ne]; exact b3
  have f4 : (m.toList == [108, 101, 110]) = false := by rw [beq_eq_false_iff_ne]; exact b4
  have HW : wordK m = if nm.nameOk m = true then (2, m, V0, 0) else (0, mtS, V0, 30) := by
    unfold wordK
    rw [if_neg h1, if_neg h2, if_neg (fun h => by rcases h with h | h; exact h3 h; exact h4 h)]
  clear q h1 h2 h3 h4
  rw [HW]
  clear HW
  cases hN : nm.nameOk m
  · rw [hN] at HNm
    rw [if_neg (by simp)]
    clear hN
    go_enter Tryz.func60, Tryz.ntmps60
    go_wp2_with (go_at_call 44; refine (HNm.out _).mono ?_; rintro r w1 ⟨rfl, rfl⟩)
    exact bodyPost_ret (v := .tuple #[.agg #[.int .i64 0, .int .i64 p, .int .i64 ((p : Int) + m.size), .string ⟨#[]⟩, .int .i64 0, .int .i64 0, .string ⟨#[]⟩], .int .i64 30]) (by simp [results, Tryz.results60, go_sem]) rfl ⟨rfl, HB.out _ _ _ _⟩
  · rw [hN] at HNm
    rw [if_pos rfl]
    clear hN
    go_enter Tryz.func60, Tryz.ntmps60
    go_wp2_with (go_at_call 44; refine (HNm.out _).mono ?_; rintro r w1 ⟨rfl, rfl⟩)
    exact bodyPost_ret (v := .tuple #[.agg #[.int .i64 2, .int .i64 p, .int .i64 ((p : Int) + m.size), .string m, .int .i64 0, .int .i64 0, .string ⟨#[]⟩], .int .i64 0]) (by simp [results, Tryz.results60, go_sem]) rfl ⟨rfl, HB.out _ _ _ _⟩
end Go.Proofs.YtfpjepeikjfkpaaGreatDoor

/-
  Expressions in plain words: the longest sign at the front; what a token is told by.
-/
namespace Go.Proofs.YtfpjepeikjfkpaaGreatDoor

theorem isPre0 (l : List UInt8) : isPre [] l = true := by simp [isPre]
set_option maxHeartbeats 4000000 in
theorem sz_cons (c : UInt8) (r : List UInt8) : szL (c :: r) 19 = match signAt (c :: r) with | some (_, n) => n | none => 0 := by
  have hs : ∀ j : Nat, szL (c :: r) (j + 1) = if isPre (signL j) (c :: r) = true then max (szL (c :: r) j) (signL j).length else szL (c :: r) j := fun _ => rfl
  have z0 : szL (c :: r) 0 = if isPre [40] (c :: r) = true ∨ isPre [41] (c :: r) = true then 1 else 0 := rfl
  have a0 := hs 0
  rw [show signL ((0 : Nat) : Int) = [] from rfl] at a0
  have a1 := hs 1
  rw [show signL ((1 : Nat) : Int) = [] from rfl] at a1
  have a2 := hs 2
  rw [show signL ((2 : Nat) : Int) = [] from rfl] at a2
  have a3 := hs 3
  rw [show signL ((3 : Nat) : Int) = [45] from rfl] at a3
  have a4 := hs 4
  rw [show signL ((4 : Nat) : Int) = [33] from rfl] at a4
  have a5 := hs 5
  rw [show signL ((5 : Nat) : Int) = [] from rfl] at a5
  have a6 := hs 6
  rw [show signL ((6 : Nat) : Int) = [42] from rfl] at a6
  have a7 := hs 7
  rw [show signL ((7 : Nat) : Int) = [47] from rfl] at a7
  have a8 := hs 8
  rw [show signL ((8 : Nat) : Int) = [37] from rfl] at a8
  have a9 := hs 9
  rw [show signL ((9 : Nat) : Int) = [43] from rfl] at a9
  have a10 := hs 10
  rw [show signL ((10 : Nat) : Int) = [45] from rfl] at a10
  have a11 := hs 11
  rw [show signL ((11 : Nat) : Int) = [60] from rfl] at a11
  have a12 := hs 12
  rw [show signL ((12 : Nat) : Int) = [60, 61] from rfl] at a12
  have a13 := hs 13
  rw [show signL ((13 : Nat) : Int) = [62] from rfl] at a13
  have a14 := hs 14
  rw [show signL ((14 : Nat) : Int) = [62, 61] from rfl] at a14
  have a15 := hs 15
  rw [show signL ((15 : Nat) : Int) = [61, 61] from rfl] at a15
  have a16 := hs 16
  rw [show signL ((16 : Nat) : Int) = [33, 61] from rfl] at a16
  have a17 := hs 17
  rw [show signL ((17 : Nat) : Int) = [38, 38] from rfl] at a17
  have a18 := hs 18
  rw [show signL ((18 : Nat) : Int) = [124, 124] from rfl] at a18
  clear hs
  simp only [isPre0, isPre1, isPre2, if_true, List.length_nil, List.length_cons, Nat.max_zero, Nat.zero_add, Bool.and_eq_true, decide_eq_true_eq] at z0 a0 a1 a2 a3 a4 a5 a6 a7 a8 a9 a10 a11 a12 a13 a14 a15 a16 a17 a18
  generalize szL (c :: r) = z at *
  unfold signAt
  by_cases h124 : c = 124
  · subst h124
    by_cases h : r.head? = some 124
    all_goals
      simp [h] at z0 a0 a1 a2 a3 a4 a5 a6 a7 a8 a9 a10 a11 a12 a13 a14 a15 a16 a17 a18
      simp [h]
      omega
  by_cases h38 : c = 38
  · subst h38
    by_cases h : r.head? = some 38
    all_goals
      simp [h] at z0 a0 a1 a2 a3 a4 a5 a6 a7 a8 a9 a10 a11 a12 a13 a14 a15 a16 a17 a18
      simp [h]
      omega
  by_cases h61 : c = 61
  · subst h61
    by_cases h : r.head? = some 61
    all_goals
      simp [h] at z0 a0 a1 a2 a3 a4 a5 a6 a7 a8 a9 a10 a11 a12 a13 a14 a15 a16 a17 a18
      simp [h]
      omega
  by_cases h33 : c = 33
  · subst h33
    by_cases h : r.head? = some 61
    all_goals
      simp [h] at z0 a0 a1 a2 a3 a4 a5 a6 a7 a8 a9 a10 a11 a12 a13 a14 a15 a16 a17 a18
      simp [h]
      omega
  by_cases h60 : c = 60
  · subst h60
    by_cases h : r.head? = some 61
    all_goals
      simp [h] at z0 a0 a1 a2 a3 a4 a5 a6 a7 a8 a9 a10 a11 a12 a13 a14 a15 a16 a17 a18
      simp [h]
      omega
  by_cases h62 : c = 62
  · subst h62
    by_cases h : r.head? = some 61
    all_goals
      simp [h] at z0 a0 a1 a2 a3 a4 a5 a6 a7 a8 a9 a10 a11 a12 a13 a14 a15 a16 a17 a18
      simp [h]
      omega
  by_cases h43 : c = 43
  · subst h43
    simp at z0 a0 a1 a2 a3 a4 a5 a6 a7 a8 a9 a10 a11 a12 a13 a14 a15 a16 a17 a18
    simp
    omega
  by_cases h45 : c = 45
  · subst h45
    simp at z0 a0 a1 a2 a3 a4 a5 a6 a7 a8 a9 a10 a11 a12 a13 a14 a15 a16 a17 a18
    simp
    omega
  by_cases h42 : c = 42
  · subst h42
    simp at z0 a0 a1 a2 a3 a4 a5 a6 a7 a8 a9 a10 a11 a12 a13 a14 a15 a16 a17 a18
    simp
    omega
  by_cases h47 : c = 47
  · subst h47
    simp at z0 a0 a1 a2 a3 a4 a5 a6 a7 a8 a9 a10 a11 a12 a13 a14 a15 a16 a17 a18
    simp
    omega
  by_cases h37 : c = 37
  · subst h37
    simp at z0 a0 a1 a2 a3 a4 a5 a6 a7 a8 a9 a10 a11 a12 a13 a14 a15 a16 a17 a18
    simp
    omega
  by_cases h40 : c = 40
  · subst h40
    simp at z0 a0 a1 a2 a3 a4 a5 a6 a7 a8 a9 a10 a11 a12 a13 a14 a15 a16 a17 a18
    simp
    omega
  by_cases h41 : c = 41
  · subst h41
    simp at z0 a0 a1 a2 a3 a4 a5 a6 a7 a8 a9 a10 a11 a12 a13 a14 a15 a16 a17 a18
    simp
    omega
  simp [h124, h38, h61, h33, h60, h62, h43, h45, h42, h47, h37, h40, h41] at z0 a0 a1 a2 a3 a4 a5 a6 a7 a8 a9 a10 a11 a12 a13 a14 a15 a16 a17 a18
  simp [h124, h38, h61, h33, h60, h62, h43, h45, h42, h47, h37, h40, h41]
  omega

/-- How the program tells a token: by its kind, its text and its value. -/
def TokIs (t : Tok) (k : Int) (tx : ByteArray) (v : V) : Prop :=
  match t with
  | .lit x => k = 1 ∧ tx = mtS ∧ v = x
  | .word m => tx = m ∧ v = V0 ∧ m ≠ wTrue ∧ m ≠ wFalse ∧ (if m = hasW ∨ m = lenW then k = 0 else k = 2) ∧ ∃ c r, m.data.toList = c :: r ∧ letB c = true
  | .sg c => k = 0 ∧ tx = ⟨(signT c).toArray⟩ ∧ v = V0 ∧ isSg c
theorem ba_list_eq {m : ByteArray} {l : List UInt8} : m = ⟨l.toArray⟩ ↔ m.data.toList = l := by
  constructor
  · rintro rfl; simp
  · intro h; apply ba_list; simpa using h
/-- A word's token. -/
theorem word_tok {c : UInt8} {r : List UInt8} (hc : letB c = true) :
    (∃ t, tokAt (c :: r) = .inl (t, (wordOf (c :: r)).length) ∧ TokIs t (wordK ⟨(wordOf (c :: r)).toArray⟩).1 (wordK ⟨(wordOf (c :: r)).toArray⟩).2.1 (wordK ⟨(wordOf (c :: r)).toArray⟩).2.2.1 ∧ (wordK ⟨(wordOf (c :: r)).toArray⟩).2.2.2 = 0) ∨
    (tokAt (c :: r) = .inr 30 ∧ (wordK ⟨(wordOf (c :: r)).toArray⟩).2.2.2 = 30) := by
  obtain ⟨_, n34, nn, _⟩ := let_ne hc
  have hwb : wordB c = true := by unfold wordB; rw [hc]; rfl
  have hcons : wordOf (c :: r) = c :: r.takeWhile wordB := by unfold wordOf; rw [List.takeWhile_cons, if_pos hwb]
  have htok : tokAt (c :: r) = if wordOf (c :: r) = trueL then .inl (.lit ⟨2, 1, mtS⟩, 4) else if wordOf (c :: r) = falseL then .inl (.lit ⟨2, 0, mtS⟩, 5) else if 16 < (wordOf (c :: r)).length then .inr 30 else .inl (.word ⟨(wordOf (c :: r)).toArray⟩, (wordOf (c :: r)).length) := by
    unfold tokAt
    simp only
    rw [if_neg (by simp [nn, n34]), if_pos hc]
  have hall : ∀ x ∈ wordOf (c :: r), wordB x = true := fun x hx => mem_takeWhile wordB _ x hx
  rw [htok]
  clear htok
  generalize hw : wordOf (c :: r) = l at *
  by_cases h1 : l = trueL
  · left
    subst h1
    refine ⟨.lit ⟨2, 1, mtS⟩, by rw [if_pos rfl]; rfl, ?_, ?_⟩
    · rw [show wordK ⟨trueL.toArray⟩ = (1, mtS, ⟨2, 1, mtS⟩, 0) from rfl]
      exact ⟨rfl, rfl, rfl⟩
    · rfl
  by_cases h2 : l = falseL
  · left
    subst h2
    refine ⟨.lit ⟨2, 0, mtS⟩, by rw [if_neg h1, if_pos rfl]; rfl, ?_, ?_⟩
    · rw [show wordK ⟨falseL.toArray⟩ = (1, mtS, ⟨2, 0, mtS⟩, 0) from rfl]
      exact ⟨rfl, rfl, rfl⟩
    · rfl
  have m1 : (⟨l.toArray⟩ : ByteArray) ≠ wTrue := fun e => h1 (by have h := congrArg (fun b : ByteArray => b.data.toList) e; exact h)
  have m2 : (⟨l.toArray⟩ : ByteArray) ≠ wFalse := fun e => h2 (by have h := congrArg (fun b : ByteArray => b.data.toList) e; exact h)
  rw [if_neg h1, if_neg h2]
  have hl : (⟨l.toArray⟩ : ByteArray).data.toList = l := by simp
  have hsz : (⟨l.toArray⟩ : ByteArray).size = l.length := by simp [ByteArray.size]
  by_cases h16 : 16 < l.length
  · right
    rw [if_pos h16]
    refine ⟨rfl, ?_⟩
    have m3 : ¬ ((⟨l.toArray⟩ : ByteArray) = wHas ∨ (⟨l.toArray⟩ : ByteArray) = wLen) := by
      rintro (e | e)
      · rw [e] at hsz
        have : wHas.size = 3 := rfl
        omega
      · rw [e] at hsz
        have : wLen.size = 3 := rfl
        omega
    have m4 : ¬ nm.nameOk ⟨l.toArray⟩ = true := fun h => by
      obtain ⟨_, _, _, _, _, h⟩ := (name_iff _).1 h
      omega
    unfold wordK
    rw [if_neg m1, if_neg m2, if_neg m3, if_neg m4]
  · left
    rw [if_neg h16]
    refine ⟨_, rfl, ?_⟩
    by_cases m3 : (⟨l.toArray⟩ : ByteArray) = wHas ∨ (⟨l.toArray⟩ : ByteArray) = wLen
    · have hk : wordK ⟨l.toArray⟩ = (0, ⟨l.toArray⟩, V0, 0) := by
        unfold wordK
        rw [if_neg m1, if_neg m2, if_pos m3]
      rw [hk]
      refine ⟨⟨rfl, rfl, m1, m2, ?_, c, _, by rw [hl]; exact hcons, hc⟩, rfl⟩
      rw [if_pos (show (⟨l.toArray⟩ : ByteArray) = hasW ∨ (⟨l.toArray⟩ : ByteArray) = lenW from m3)]
    · have m4 : nm.nameOk ⟨l.toArray⟩ = true := by
        refine (name_iff _).2 ⟨c, _, by rw [hl]; exact hcons, hc, ?_, by omega⟩
        rw [← hcons]
        exact hall
      have hk : wordK ⟨l.toArray⟩ = (2, ⟨l.toArray⟩, V0, 0) := by
        unfold wordK
        rw [if_neg m1, if_neg m2, if_neg m3, if_pos m4]
      rw [hk]
      refine ⟨⟨rfl, rfl, m1, m2, ?_, c, _, by rw [hl]; exact hcons, hc⟩, rfl⟩
      rw [if_neg (show ¬ ((⟨l.toArray⟩ : ByteArray) = hasW ∨ (⟨l.toArray⟩ : ByteArray) = lenW) from m3)]
end Go.Proofs.YtfpjepeikjfkpaaGreatDoor

/-
  Package expr: a token is added.
-/
namespace Go.Proofs.YtfpjepeikjfkpaaGreatDoor
open Go.RowKit

/-- What a reader's call tells, and leaves. -/
def AddRet (b lo : Nat) (w : World) (x : ST ⊕ Int) (r : Ending) (w' : World) : Prop :=
  match x with
  | .inl s' => r = .returned (.int .i64 0) ∧ RdM w' b lo s' ∧ Foot b lo w w'
  | .inr e => r = .returned (.int .i64 e) ∧ Foot b lo w w'
theorem AddRet.front {b lo : Nat} {w w1 : World} {x : ST ⊕ Int} {r : Ending} {w' : World} (hf : Foot b lo w w1) (h : AddRet b lo w1 x r w') : AddRet b lo w x r w' := by
  cases x with
  | inl s' => exact ⟨h.1, h.2.1, hf.trans h.2.2⟩
  | inr e => exact ⟨h.1, hf.trans h.2⟩
theorem ba_text {m : ByteArray} {l : List UInt8} : m.data.toList = l ↔ m.toList = l := by rw [ByteArray.toList_eq]
theorem totals_popTwo : ∀ (S o : List TM), (popTwo S o).1.length + (popTwo S o).2.length = S.length + o.length
  | [], o => rfl
  | t :: S, o => by
    rw [popTwo]
    split
    · rw [totals_popTwo S (o ++ [t])]; simp; omega
    · rfl

theorem putM_len (x : TM) (o : List TM) : (putM x o).length ≤ o.length + 1 := by
  unfold putM
  split
  · omega
  · simp
set_option maxRecDepth 100000 in
set_option maxHeartbeats 4000000 in
theorem closeBr_no (b lo : Nat) (s : ST) (k a z : Int) (tx : ByteArray) (v : V) (w : World) (hM : RdM w b lo s) (htx : tx.data.toList ≠ [41]) :
    Calls Tryz.prog 68 #[.pointer (some ⟨b, 0, none⟩), tokVal k a z tx v] w fun r w' => r = .returned (.int .i64 8) ∧ Foot b lo w w' := by
  have b1 : ¬ tx.toList = [41] := fun h => htx (ba_text.2 h)
  have f1 : (tx.toList == [41]) = false := by rw [beq_eq_false_iff_ne]; exact b1
  have h6 := hM.lo2
  unfold tokVal
  clear htx
  go_enter Tryz.func68, Tryz.ntmps68
  go_wp2
  go_ret
  exact ⟨rfl, (Foot.refl b lo w).alloc h6 _⟩
set_option maxRecDepth 100000 in
set_option maxHeartbeats 4000000 in
theorem closeBr_yes (b lo : Nat) (s : ST) (k a z : Int) (tx : ByteArray) (v : V) (w : World) (hM : RdM w b lo s) (htx : tx.data.toList = [41]) (hs : s.st.length + s.out.length ≤ 99000) :
    Calls Tryz.prog 68 #[.pointer (some ⟨b, 0, none⟩), tokVal k a z tx v] w (AddRet b lo w (closeM s)) := by
  obtain rfl : tx = ⟨#[41]⟩ := by apply ba_list; rw [htx]
  have h6 := hM.lo2
  have hA : ∀ (c : Array Value) (t : TypeId), RdM (w.alloc (.cells c t)) b lo s := fun c t => hM.below ((Below.refl w.heap.size w).alloc (Nat.le_refl _) _)
  have hFA : ∀ (c : Array Value) (t : TypeId), Foot b lo w (w.alloc (.cells c t)) := fun c t => (Foot.refl b lo w).alloc h6 _
  have HA := Lib.hid hA
  have HFA := Lib.hid hFA
  have HC := Lib.hid (fun wx (h : RdM wx b lo s) => closeSigns_any b lo s wx h (by omega))
  have htot := totals_popTwo s.st s.out
  have hclose : closeM s = match popTwo s.st s.out with | ([], _) => .inr 8 | (x :: S, o) => .inl (wholeM s.call S (putM x o)) := rfl
  unfold tokVal
  clear hM hA hFA htx
  generalize hpt : popTwo s.st s.out = pt at *
  obtain ⟨S, o⟩ := pt
  simp only at HC htot
  cases S with
  | nil =>
    rw [hclose]
    clear hclose hpt
    go_enter Tryz.func68, Tryz.ntmps68
    go_wp2_with (go_at_call 104; refine (HC.out _ (HA.out _ _)).mono ?_; rintro r w1 ⟨rfl, hm1, hf1⟩; obtain ⟨⟨A1, c1, A2, c2, g1, g2, g3, g4⟩, g5, g6⟩ := hm1; have k2 := g1.c2; have HF1 := Lib.hid hf1; clear g1 g2 g3 g4 hf1)
    go_ret
    exact ⟨rfl, (HFA.out _ _).trans HF1.out⟩
  | cons x S =>
    rw [hclose]
    clear hclose hpt
    rw [List.length_cons] at htot
    go_enter Tryz.func68, Tryz.ntmps68
    go_wp2_with (first | (go_at_call 104; refine (HC.out _ (HA.out _ _)).mono ?_; rintro r w1 ⟨rfl, hm1, hf1⟩; have HM1 := Lib.hid hm1; obtain ⟨⟨A1, c1, A2, c2, g1, g2, g3, g4⟩, g5, g6⟩ := hm1; have k2 := g1.c2; rw [List.length_cons] at k2; have q1 : (((S.length + 1 : Nat) : Int) == 0) = false := (by rw [beq_eq_false_iff_ne]; omega); have HF1 := Lib.hid hf1; clear g1 g2 g3 g4 hf1) | (go_at_call 109; refine (close_any b lo s.wants s.call x S o _ HM1.out (by omega) (by omega)).mono ?_; rintro r w2 ⟨rfl, hm2, hf2⟩) | (go_at_call 106; refine (whole_none b lo _ _ hm2 (by have := putM_len x o; simp only; omega)).mono ?_; rintro r w3 ⟨rfl, hm3, hf3⟩))
    go_ret
    exact ⟨rfl, hm3, (((HFA.out _ _).trans HF1.out).trans hf2).trans hf3⟩

set_option maxHeartbeats 4000000 in
theorem dEnd_any (b lo : Nat) (s : ST) (w : World) (hM : RdM w b lo s) (hs : s.st.length + s.out.length ≤ 99000) :
    Calls Tryz.prog 63 #[.pointer (some ⟨b, 0, none⟩)] w fun r w' => Foot b lo w w' ∧ match endM s with
      | .inl o => r = .returned (.int .i64 0) ∧ ∃ s', s'.out = o ∧ RdM w' b lo s'
      | .inr e => r = .returned (.int .i64 e) := by
  obtain ⟨wants, call, S0, o0⟩ := s
  have HC := Lib.hid (closeSigns_any b lo _ w hM (by omega))
  obtain ⟨⟨A1, c1, A2, c2, h1, h2, h3, h4⟩, h5, h6⟩ := hM
  have k0 := h1.c0
  simp only at *
  clear h1 h2 h3 h4
  unfold endM
  simp only
  by_cases hw : wants = 1
  · subst hw
    rw [if_neg (by simp)]
    have htot := totals_popTwo S0 o0
    generalize popTwo S0 o0 = pt at *
    obtain ⟨S, o⟩ := pt
    simp only at HC htot
    cases S with
    | nil =>
      go_enter Tryz.func63, Tryz.ntmps63
      go_wp2_with (go_at_call 104; refine HC.out.mono ?_; rintro r w1 ⟨rfl, hm1, hf1⟩; have HM1 := Lib.hid hm1; obtain ⟨⟨A1, c1, A2, c2, g1, g2, g3, g4⟩, g5, g6⟩ := hm1; have k2 := g1.c2; have HF1 := Lib.hid hf1; clear g1 g2 g3 g4 hf1)
      go_ret
      exact ⟨HF1.out, rfl, _, rfl, HM1.out⟩
    | cons x S =>
      go_enter Tryz.func63, Tryz.ntmps63
      go_wp2_with (go_at_call 104; refine HC.out.mono ?_; rintro r w1 ⟨rfl, hm1, hf1⟩; obtain ⟨⟨A1, c1, A2, c2, g1, g2, g3, g4⟩, g5, g6⟩ := hm1; have k2 := g1.c2; rw [List.length_cons] at k2; have q1 : decide ((0 : Int) < ((S.length + 1 : Nat) : Int)) = true := (by rw [decide_eq_true_iff]; omega); have HF1 := Lib.hid hf1; clear g1 g2 g3 g4 hf1)
      go_ret
      exact ⟨HF1.out, rfl⟩
  · rw [if_pos hw]
    have d1 : (wants != 1) = true := by rw [bne, show (wants == 1) = false from by rw [beq_eq_false_iff_ne]; exact hw]; rfl
    clear hw
    go_enter Tryz.func63, Tryz.ntmps63
    go_wp2
    go_ret
    exact ⟨Foot.refl b lo w, rfl⟩
end Go.Proofs.YtfpjepeikjfkpaaGreatDoor
