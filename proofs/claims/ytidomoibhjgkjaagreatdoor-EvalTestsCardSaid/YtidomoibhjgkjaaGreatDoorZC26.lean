import Derived.Test.YtidomoibhjgkjaaGreatDoorZC25
/-
  Values of any text in plain words: which value a text begins with, or what is wrong with it.
-/
namespace Go.Proofs.YtidomoibhjgkjaaGreatDoor

def hexVal (c : UInt8) : Option Nat := if 48 ≤ c.toNat ∧ c.toNat ≤ 57 then some (c.toNat - 48) else if 97 ≤ c.toNat ∧ c.toNat ≤ 102 then some (c.toNat - 87) else none
theorem hexVal_lt {c : UInt8} {x : Nat} (h : hexVal c = some x) : x < 16 := by
  unfold hexVal at h
  split at h
  · injection h; omega
  · split at h
    · injection h; omega
    · cases h
theorem hexVal_dig : ∀ d : Fin 16, hexVal (digB d.val) = some d.val := by decide
/-- The text that a quote begins, behind it. -/
def textGo : List UInt8 → List UInt8 → Nat → V × Nat × Int
  | [], _, _ => (V0, 0, 6)
  | c :: r, acc, p =>
    if c = 34 then (if 64 < acc.length then (V0, 0, 3) else (⟨3, 0, ⟨acc.toArray⟩⟩, p + 1, 0))
    else if c = 92 then match r with
      | [] => (V0, 0, 6)
      | d :: r2 => if d = 34 ∨ d = 92 then textGo r2 (acc ++ [d]) (p + 2) else match r2 with
        | [] => (V0, 0, 8)
        | e :: r3 => match hexVal d, hexVal e with
          | some x, some y => if plainB (UInt8.ofNat (16 * x + y)) = true then (V0, 0, 8) else textGo r3 (acc ++ [UInt8.ofNat (16 * x + y)]) (p + 3)
          | _, _ => (V0, 0, 8)
    else if plainB c = true then textGo r (acc ++ [c]) (p + 1) else (V0, 0, 8)
theorem textGo_cons (c : UInt8) (r acc : List UInt8) (p : Nat) : textGo (c :: r) acc p =
    if c = 34 then (if 64 < acc.length then (V0, 0, 3) else (⟨3, 0, ⟨acc.toArray⟩⟩, p + 1, 0))
    else if c = 92 then match r with
      | [] => (V0, 0, 6)
      | d :: r2 => if d = 34 ∨ d = 92 then textGo r2 (acc ++ [d]) (p + 2) else match r2 with
        | [] => (V0, 0, 8)
        | e :: r3 => match hexVal d, hexVal e with
          | some x, some y => if plainB (UInt8.ofNat (16 * x + y)) = true then (V0, 0, 8) else textGo r3 (acc ++ [UInt8.ofNat (16 * x + y)]) (p + 3)
          | _, _ => (V0, 0, 8)
    else if plainB c = true then textGo r (acc ++ [c]) (p + 1) else (V0, 0, 8) := by rw [textGo.eq_def]
def digitsN (l : List UInt8) : Nat := (l.takeWhile isNum).length
def frontN (l : List UInt8) : Nat := if l.head? = some 45 then 1 else 0
def sizeN (l : List UInt8) : Nat := frontN l + digitsN (l.drop (frontN l))
def numV (l : List UInt8) : V × Nat × Int :=
  if l[frontN l]? = some 48 ∧ 1 < sizeN l then (V0, 0, 8)
  else match Lib.parseIntB 64 (l.take (sizeN l)) with
    | .ok n => (⟨1, n, ⟨#[]⟩⟩, sizeN l, 0)
    | _ => (V0, 0, 9)
def isPre (p l : List UInt8) : Bool := decide (l.take p.length = p)
def trueL : List UInt8 := [116, 114, 117, 101]
def falseL : List UInt8 := [102, 97, 108, 115, 101]
def wordV (l : List UInt8) : V × Nat × Int :=
  if isPre trueL l = true ∧ moreOk 2 (l.drop 4) = true then (⟨2, 1, ⟨#[]⟩⟩, 4, 0)
  else if isPre falseL l = true ∧ moreOk 2 (l.drop 5) = true then (⟨2, 0, ⟨#[]⟩⟩, 5, 0)
  else (V0, 0, 8)
def numFront (l : List UInt8) : Bool := match l.drop (frontN l) with
  | [] => false
  | c :: _ => isNum c
def parseV (l : List UInt8) : V × Nat × Int := if numFront l = true then numV l else if l.head? = some 34 then textGo (l.drop 1) [] 1 else wordV l

/-! ### what was printed -/
theorem textGo_print (acc tl more : List UInt8) (p : Nat) (h : acc.length + tl.length ≤ 64) : textGo (escL tl ++ 34 :: more) acc p = (⟨3, 0, ⟨(acc ++ tl).toArray⟩⟩, p + (escL tl).length + 1, 0) := by
  induction tl generalizing acc p with
  | nil =>
    show textGo (34 :: more) acc p = _
    rw [textGo_cons, if_pos rfl, if_neg (by simp at h; omega)]
    simp [escL]
  | cons c tl ih =>
    have e : escL (c :: tl) = escB c ++ escL tl := by simp [escL]
    rw [List.length_cons] at h
    have hk := ih (acc ++ [c])
    rw [e, List.append_assoc]
    by_cases hq : c = 34 ∨ c = 92
    · have hB : escB c = [92, c] := if_pos hq
      rw [hB]
      show textGo (92 :: c :: (escL tl ++ 34 :: more)) acc p = _
      rw [textGo_cons, if_neg (by decide), if_pos rfl]
      simp only
      rw [if_pos hq, hk (p + 2) (by simp; omega)]
      simp
      omega
    · by_cases hp : 32 ≤ c.toNat ∧ c.toNat ≤ 126
      · have hB : escB c = [c] := by unfold escB; rw [if_neg hq, if_pos hp]
        rw [hB]
        show textGo (c :: (escL tl ++ 34 :: more)) acc p = _
        rw [textGo_cons, if_neg (fun h => hq (.inl h)), if_neg (fun h => hq (.inr h)), if_pos (by simp [plainB, hp.1, hp.2]), hk (p + 1) (by simp; omega)]
        simp
        omega
      · have hB : escB c = [92, digB (c.toNat / 16), digB (c.toNat % 16)] := by unfold escB; rw [if_neg hq, if_neg hp]
        have hcl := c.toNat_lt
        have n1 := digB_ne ⟨c.toNat / 16, by omega⟩
        have v1 := hexVal_dig ⟨c.toNat / 16, by omega⟩
        have v2 := hexVal_dig ⟨c.toNat % 16, by omega⟩
        have hc : UInt8.ofNat (16 * (c.toNat / 16) + c.toNat % 16) = c := by
          rw [show 16 * (c.toNat / 16) + c.toNat % 16 = c.toNat by omega]
          simp
        have hpl : plainB c = false := by
          cases hx : plainB c
          · rfl
          · exact absurd (by simpa [plainB] using hx) hp
        rw [hB]
        show textGo (92 :: digB (c.toNat / 16) :: digB (c.toNat % 16) :: (escL tl ++ 34 :: more)) acc p = _
        rw [textGo_cons, if_neg (by decide), if_pos rfl]
        simp only
        rw [if_neg (by rintro (h | h); exact n1.1 h; exact n1.2 h)]
        simp only [v1, v2]
        rw [hc, if_neg (by simp [hpl]), hk (p + 3) (by simp; omega)]
        simp
        omega
theorem takeWhile_nums (a more : List UInt8) (ha : ∀ c ∈ a, isNum c = true) (hm : moreOk 1 more = true) : (a ++ more).takeWhile isNum = a := by
  induction a with
  | nil =>
    cases more with
    | nil => rfl
    | cons c t =>
      have : isNum c = false := by simpa [moreOk] using hm
      simp [this]
  | cons c a ih =>
    have hc := ha c (List.mem_cons_self ..)
    rw [List.cons_append, List.takeWhile_cons, if_pos hc, ih (fun x hx => ha x (List.mem_cons_of_mem _ hx))]
theorem parseV_num (n : Int) (h0 : -9223372036854775808 ≤ n) (h1 : n ≤ 9223372036854775807) (more : List UInt8) (hm : moreOk 1 more = true) : parseV (intL n ++ more) = (⟨1, n, ⟨#[]⟩⟩, (intL n).length, 0) := by
  obtain ⟨c, r, hcut, hnums, hzero⟩ := intL_cut n
  have hc := num_tri (hnums c (List.mem_cons_self ..))
  have hne : c ≠ 45 := fun e => by rw [e] at hc; exact absurd hc (by decide)
  have hfront : frontN (intL n ++ more) = if n < 0 then 1 else 0 := by
    unfold frontN
    rw [hcut]
    by_cases hn : n < 0
    · simp [hn]
    · simp [hn, hne]
  have hdrop : (intL n ++ more).drop (frontN (intL n ++ more)) = (c :: r) ++ more := by
    rw [hfront, hcut]
    by_cases hn : n < 0
    · simp [hn]
    · simp [hn]
  have hsize : sizeN (intL n ++ more) = (intL n).length := by
    unfold sizeN digitsN
    rw [hdrop, takeWhile_nums _ _ hnums hm, hfront, hcut]
    by_cases hn : n < 0
    · simp [hn]; omega
    · simp [hn]
  have hnf : numFront (intL n ++ more) = true := by
    unfold numFront
    rw [hdrop]
    exact hnums c (List.mem_cons_self ..)
  have hat : (intL n ++ more)[frontN (intL n ++ more)]? = some c := by
    have := congrArg List.head? hdrop
    rw [List.head?_drop] at this
    rw [this]
    rfl
  unfold parseV
  rw [if_pos hnf]
  unfold numV
  rw [hsize, hat, if_neg]
  · rw [List.take_left, parse_int n h0 h1]
  · rintro ⟨e1, e2⟩
    injection e1 with e1
    obtain ⟨z1, z2⟩ := hzero e1
    rw [hcut, z2, z1] at e2
    simp at e2
theorem parseV_text (tl more : List UInt8) (h : tl.length ≤ 64) : parseV (34 :: (escL tl ++ 34 :: more)) = (⟨3, 0, ⟨tl.toArray⟩⟩, (escL tl).length + 2, 0) := by
  unfold parseV
  rw [if_neg (by simp [numFront, frontN, isNum]), if_pos (by simp)]
  show textGo (escL tl ++ 34 :: more) [] 1 = _
  rw [textGo_print [] tl more 1 (by simpa using h)]
  simp
  omega
theorem parseV_true (more : List UInt8) (hm : moreOk 2 more = true) : parseV (trueL ++ more) = (⟨2, 1, ⟨#[]⟩⟩, 4, 0) := by
  unfold parseV
  rw [if_neg (by simp [numFront, frontN, isNum, trueL]), if_neg (by simp [trueL])]
  unfold wordV
  rw [if_pos ⟨by simp [isPre, trueL], by simpa [trueL] using hm⟩]
theorem parseV_false (more : List UInt8) (hm : moreOk 2 more = true) : parseV (falseL ++ more) = (⟨2, 0, ⟨#[]⟩⟩, 5, 0) := by
  unfold parseV
  rw [if_neg (by simp [numFront, frontN, isNum, falseL]), if_neg (by simp [falseL])]
  unfold wordV
  rw [if_neg (by simp [isPre, trueL, falseL]), if_pos ⟨by simp [isPre, falseL], by simpa [falseL] using hm⟩]
theorem parseV_print (v : V) (more : List UInt8) (hr : rightV v = 0) (h0 : -9223372036854775808 ≤ v.n) (h1 : v.n ≤ 9223372036854775807) (hm : moreOk v.k more = true) : parseV (printV v ++ more) = (v, (printV v).length, 0) := by
  obtain ⟨k, n, s⟩ := v
  simp only at h0 h1 hm
  rcases right_kind hr with hk | hk | hk
  · simp only at hk
    subst hk
    have hs := ba_empty (right_empty hr (by simp))
    simp only at hs
    subst hs
    exact parseV_num n h0 h1 more hm
  · simp only at hk
    subst hk
    have hs := ba_empty (right_empty hr (by simp))
    simp only at hs
    subst hs
    rcases right_truth hr with rfl | rfl
    · exact parseV_false more hm
    · exact parseV_true more hm
  · simp only at hk
    subst hk
    obtain ⟨hs, hn⟩ := right_text hr rfl
    simp only at hs hn
    subst hn
    have h64 : s.data.toList.length ≤ 64 := hs
    have e : printV ⟨3, 0, s⟩ ++ more = 34 :: (escL s.data.toList ++ 34 :: more) := by
      show (34 :: (escL s.data.toList ++ [34])) ++ more = _
      simp
    have e2 : (printV ⟨3, 0, s⟩).length = (escL s.data.toList).length + 2 := by
      show (34 :: (escL s.data.toList ++ [34])).length = _
      simp
    rw [e, e2]
    exact parseV_text s.data.toList more h64

/-! ### what was parsed -/
theorem textGo_right (k : Nat) : ∀ (l acc : List UInt8) (p : Nat) (v : V) (n : Nat), l.length ≤ k → textGo l acc p = (v, n, 0) → rightV v = 0 ∧ v.k = 3 ∧ p < n ∧ n ≤ p + l.length := by
  induction k with
  | zero =>
    intro l acc p v n hk h
    have : l = [] := List.eq_nil_of_length_eq_zero (by omega)
    subst this
    simp [textGo] at h
  | succ k ih =>
    intro l acc p v n hk h
    cases l with
    | nil => simp [textGo] at h
    | cons c r =>
      rw [List.length_cons] at hk
      rw [textGo_cons] at h
      split at h
      · split at h
        · simp at h
        · next hl =>
          simp only [Prod.mk.injEq, and_true] at h
          obtain ⟨rfl, rfl⟩ := h
          refine ⟨?_, rfl, by omega, by simp⟩
          have : ¬ 64 < (⟨acc.toArray⟩ : ByteArray).size := by simpa [ByteArray.size] using hl
          simp [rightV, this]
      · split at h
        · cases r with
          | nil => simp at h
          | cons d r2 =>
            rw [List.length_cons] at hk
            simp only at h
            split at h
            · have := ih r2 _ _ _ _ (by omega) h
              simp only [List.length_cons]
              omega
            · cases r2 with
              | nil => simp at h
              | cons e r3 =>
                rw [List.length_cons] at hk
                simp only at h
                split at h
                · split at h
                  · simp at h
                  · have := ih r3 _ _ _ _ (by omega) h
                    simp only [List.length_cons]
                    omega
                · simp at h
        · split at h
          · have := ih r _ _ _ _ (by omega) h
            simp only [List.length_cons]
            omega
          · simp at h
theorem takeWhile_le (p : UInt8 → Bool) (l : List UInt8) : (l.takeWhile p).length ≤ l.length := by
  induction l with
  | nil => simp
  | cons c l ih =>
    rw [List.takeWhile_cons]
    split
    · simp only [List.length_cons]; omega
    · simp
theorem frontN_le (l : List UInt8) : frontN l ≤ 1 ∧ frontN l ≤ l.length := by
  unfold frontN
  split
  · next h =>
    cases l with
    | nil => cases h
    | cons c r => simp
  · exact ⟨Nat.zero_le _, Nat.zero_le _⟩
theorem numV_right {l : List UInt8} {v : V} {n : Nat} (hf : numFront l = true) (h : numV l = (v, n, 0)) : rightV v = 0 ∧ 0 < n ∧ n ≤ l.length ∧ (l.head? ≠ some 45 → 0 ≤ v.n) := by
  have hfl := frontN_le l
  have hpos : 0 < digitsN (l.drop (frontN l)) := by
    unfold numFront at hf
    unfold digitsN
    split at hf
    · cases hf
    · next c r e =>
      rw [e, List.takeWhile_cons, if_pos hf]
      simp
  have hle : sizeN l ≤ l.length := by
    have := takeWhile_le isNum (l.drop (frontN l))
    rw [List.length_drop] at this
    unfold sizeN digitsN
    omega
  unfold numV at h
  split at h
  · simp at h
  · split at h
    · next m hm =>
      simp only [Prod.mk.injEq, and_true] at h
      obtain ⟨rfl, rfl⟩ := h
      refine ⟨right_int m, by unfold sizeN; omega, hle, fun hh => ?_⟩
      show 0 ≤ m
      -- without a hyphen no number is below 0
      have h0 : frontN l = 0 := if_neg hh
      cases l with
      | nil => simp [numFront, frontN] at hf
      | cons c r =>
        have hc : isNum c = true := by
          unfold numFront at hf
          rw [h0] at hf
          exact hf
        have ht := num_tri hc
        have hs : 0 < sizeN (c :: r) := by unfold sizeN; omega
        obtain ⟨q, hq⟩ : ∃ q, sizeN (c :: r) = q + 1 := ⟨sizeN (c :: r) - 1, by omega⟩
        rw [hq, List.take_succ_cons, Lib.parseIntB_plain 64 c _ (by omega) (by omega)] at hm
        unfold Lib.signlessC at hm
        split at hm
        · cases hm
        · cases hm
        · split at hm
          · cases hm
          · injection hm with hm
            omega
    · simp at h
theorem parseV_right {l : List UInt8} {v : V} {n : Nat} (h : parseV l = (v, n, 0)) : rightV v = 0 ∧ 0 < n ∧ n ≤ l.length ∧ (l.head? ≠ some 45 → ¬ (v.k = 1 ∧ v.n < 0)) := by
  unfold parseV at h
  split at h
  · next hf =>
    obtain ⟨h1, h2, h3, h4⟩ := numV_right hf h
    exact ⟨h1, h2, h3, fun hh => by have := h4 hh; omega⟩
  · split at h
    · next h34 =>
      cases l with
      | nil => cases h34
      | cons c r =>
        obtain ⟨h1, h2, h3, h4⟩ := textGo_right _ _ _ _ _ _ (Nat.le_refl _) h
        have e : ((c :: r).drop 1).length = r.length := rfl
        rw [e] at h4
        exact ⟨h1, by omega, by rw [List.length_cons]; omega, fun _ => by omega⟩
    · unfold wordV at h
      split at h
      · next h1 =>
        simp only [Prod.mk.injEq, and_true] at h
        obtain ⟨rfl, rfl⟩ := h
        refine ⟨by decide, by omega, ?_, fun _ => by simp⟩
        have h2 : l.take 4 = trueL := by simpa [isPre, trueL] using h1.1
        have := congrArg List.length h2
        simp [trueL] at this
        omega
      · split at h
        · next h1 =>
          simp only [Prod.mk.injEq, and_true] at h
          obtain ⟨rfl, rfl⟩ := h
          refine ⟨by decide, by omega, ?_, fun _ => by simp⟩
          have h2 : l.take 5 = falseL := by simpa [isPre, falseL] using h1.1
          have := congrArg List.length h2
          simp [falseL] at this
          omega
        · simp at h
end Go.Proofs.YtidomoibhjgkjaaGreatDoor
