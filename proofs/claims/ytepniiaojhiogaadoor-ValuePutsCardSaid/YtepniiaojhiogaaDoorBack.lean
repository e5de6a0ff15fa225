/-
  There and back, one form, and cut off, for numbers with a sign and for texts, as a Reader tells them.
-/
import Derived.Test.YtepniiaojhiogaaDoorRead
import Derived.Test.YtepniiaojhiogaaDoorPlain2
namespace Go.Proofs.YtepniiaojhiogaaDoor

theorem zag_zig (n : Int) : zag (zig n) = n := by unfold zag zig; split <;> split <;> omega
theorem zig_zag (m : Nat) : zig (zag m) = m := by unfold zag zig; split <;> split <;> omega
theorem zig_lt (n : Int) (h0 : -9223372036854775808 ≤ n) (h1 : n ≤ 9223372036854775807) : zig n < 18446744073709551616 := by unfold zig; split <;> omega

/-- A number that was written, whatever follows. -/
theorem uintOf_back (n most : Nat) (r : List UInt8) (h : n < 18446744073709551616) (hm : n ≤ most) : uintOf (un n ++ r) 0 most = (n, r, 0) := by
  simp [uintOf, numOf_un n most r h hm]

/-- A text that was written, whatever follows. -/
theorem textOf_back (s r : List UInt8) (h : s.length < 18446744073709551616) : textOf (unText s ++ r) s.length = (s, (unText s).length, 0) := by
  have hq : numOf (unText s ++ r) (s.length : Int).toNat = (s.length, (un s.length).length, 0) := by
    rw [Int.toNat_natCast, unText, List.append_assoc]; exact numOf_un _ _ _ h (Nat.le_refl _)
  unfold textOf
  simp only [hq]
  rw [if_neg (by omega), if_neg (by omega), if_neg (by simp only [unText, List.length_append]; omega)]
  simp [unText]

theorem textOfR_back (s r : List UInt8) (h : s.length < 18446744073709551616) : textOfR (unText s ++ r) 0 s.length = (s, r, 0) := by
  simp [textOfR, textOf_back s r h]

/-- Cut off, it is not read. -/
theorem textOf_cut (s : List UInt8) (k : Nat) (h : s.length < 18446744073709551616) (hk : k < (unText s).length) : textOf ((unText s).take k) s.length = ([], 0, 6) := by
  unfold textOf
  rw [Int.toNat_natCast]
  rcases Nat.lt_or_ge k (un s.length).length with h1 | h1
  · have e : (unText s).take k = (un s.length).take k := by rw [unText, List.take_append_of_le_length (by omega)]
    simp only [e, numOf_cut s.length s.length k h h1]
    rw [if_pos (by omega)]
  · have e : (unText s).take k = un s.length ++ s.take (k - (un s.length).length) := by
      rw [unText, List.take_append, List.take_of_length_le h1]
    have hk2 : k - (un s.length).length < s.length := by simp only [unText, List.length_append] at hk; omega
    simp only [e, numOf_un s.length s.length _ h (Nat.le_refl _)]
    rw [if_neg (by omega), if_neg (by omega), if_pos (by simp only [List.length_append, List.length_take]; omega)]

/-- A number and a text, cut off: reading both ends with what is missing. -/
theorem both_cut (n : Nat) (s : List UInt8) (k : Nat) (hn : n < 18446744073709551616) (h : s.length < 18446744073709551616) (hk : k < (un n ++ unText s).length) :
    (textOfR (uintOf ((un n ++ unText s).take k) 0 n).2.1 (uintOf ((un n ++ unText s).take k) 0 n).2.2 s.length).2.2 = 6 := by
  rcases Nat.lt_or_ge k (un n).length with h1 | h1
  · have e : (un n ++ unText s).take k = (un n).take k := by rw [List.take_append_of_le_length (by omega)]
    rw [e]
    simp [uintOf, numOf_cut n n k hn h1, textOfR]
  · have e : (un n ++ unText s).take k = un n ++ (unText s).take (k - (un n).length) := by rw [List.take_append, List.take_of_length_le h1]
    have hk2 : k - (un n).length < (unText s).length := by simp only [List.length_append] at hk; omega
    rw [e, uintOf_back n n _ hn (Nat.le_refl _)]
    simp [textOfR, textOf_cut s _ h hk2]

/-- What is read as a text is written so. -/
theorem textOf_form (l m : List UInt8) (most : Int) (t : Nat) (h : textOf l most = (m, t, 0)) : unText m = l.take t ∧ 0 < t ∧ t ≤ l.length := by
  obtain ⟨n, s, e, hq, hbad, hok⟩ := numOf_nat l most.toNat
  unfold textOf at h
  simp only [hq] at h
  split at h
  · simp only [Prod.mk.injEq] at h; omega
  · next he =>
    have he0 : e = 0 := by omega
    subst he0
    obtain ⟨b1, b2, b3⟩ := hok rfl
    split at h
    · simp at h
    · split at h
      · simp at h
      · next hl =>
        simp only [Prod.mk.injEq, and_true] at h
        obtain ⟨h1, h2⟩ := h
        have hlen : m.length = n := by rw [← h1, List.length_take, List.length_drop]; omega
        refine ⟨?_, by omega, by omega⟩
        rw [unText, hlen, numOf_form l most.toNat n s hq, ← h1, ← h2, List.take_add]

end Go.Proofs.YtepniiaojhiogaaDoor
