/-
  The bytes of values in plain words, and there and back.
-/
import Derived.Test.YtepniiaojhiogaaDoorVPlain
import Derived.Test.YtepniiaojhiogaaDoorBack
namespace Go.Proofs.YtepniiaojhiogaaDoor

/-- A value's bytes. -/
def putV (v : V) : List UInt8 := if rightV v ≠ 0 then [] else if v.k = 3 then 3 :: unText v.s.data.toList else UInt8.ofNat v.k.toNat :: unInt v.n
/-- The value that bytes begin with, how many they are, and the error. -/
def endV (v : V) (e : Nat) (n : Nat) : V × Nat × Int := if e ≠ 0 then (V0, 0, (e : Int)) else if rightV v ≠ 0 then (V0, 0, 1) else (v, n, 0)
def takeNum (c : UInt8) (t : List UInt8) : V × Nat × Int := endV ⟨c.toNat, zag (uintOf t 0 maxU).1, ⟨#[]⟩⟩ (uintOf t 0 maxU).2.2 (t.length + 1 - (uintOf t 0 maxU).2.1.length)
def takeText (t : List UInt8) : V × Nat × Int := endV ⟨3, 0, ⟨(textOfR t 0 64).1.toArray⟩⟩ (textOfR t 0 64).2.2 (t.length + 1 - (textOfR t 0 64).2.1.length)
def takeV : List UInt8 → V × Nat × Int
  | [] => (V0, 0, 6)
  | c :: t => if c = 1 ∨ c = 2 then takeNum c t else if c = 3 then takeText t else (V0, 0, 40)

theorem takeV_cons (c : UInt8) (t : List UInt8) : takeV (c :: t) = if c = 1 ∨ c = 2 then takeNum c t else if c = 3 then takeText t else (V0, 0, 40) := rfl

theorem right_kind {v : V} (h : rightV v = 0) : v.k = 1 ∨ v.k = 2 ∨ v.k = 3 := by
  unfold rightV at h
  split at h
  · cases h
  · omega
theorem right_text {v : V} (h : rightV v = 0) (hk : v.k = 3) : v.s.size ≤ 64 ∧ v.n = 0 := by
  unfold rightV at h
  split at h
  · cases h
  · split at h
    · cases h
    · split at h
      · cases h
      · omega
theorem right_empty {v : V} (h : rightV v = 0) (hk : v.k ≠ 3) : v.s.size = 0 := by
  unfold rightV at h
  split at h
  · cases h
  · split at h
    · cases h
    · split at h
      · cases h
      · omega
theorem ba_empty {s : ByteArray} (h : s.size = 0) : s = ⟨#[]⟩ := ba_list (List.eq_nil_of_length_eq_zero h)
theorem put_right {v : V} (h : rightV v = 0) : putV v = if v.k = 3 then 3 :: unText v.s.data.toList else UInt8.ofNat v.k.toNat :: unInt v.n := by
  unfold putV
  rw [if_neg (by simp [h])]
theorem put_wrong {v : V} (h : rightV v ≠ 0) : putV v = [] := if_pos h

theorem textOf_most {s r : List UInt8} (h : s.length ≤ 64) : textOfR (unText s ++ r) 0 64 = (s, r, 0) := by
  have hq : numOf (unText s ++ r) (64 : Int).toNat = (s.length, (un s.length).length, 0) := by
    rw [unText, List.append_assoc]; exact numOf_un _ _ _ (by omega) h
  have e : textOf (unText s ++ r) 64 = (s, (unText s).length, 0) := by
    unfold textOf
    simp only [hq]
    rw [if_neg (by omega), if_neg (by omega), if_neg (by simp only [unText, List.length_append]; omega)]
    simp [unText]
  simp [textOfR, e]

theorem take_put {v : V} (h : rightV v = 0) (h0 : -9223372036854775808 ≤ v.n) (h1 : v.n ≤ 9223372036854775807) (more : List UInt8) : takeV (putV v ++ more) = (v, (putV v).length, 0) := by
  rw [put_right h]
  by_cases hk : v.k = 3
  · rw [if_pos hk]
    obtain ⟨hs, hn⟩ := right_text h hk
    have ht : textOfR (unText v.s.data.toList ++ more) 0 64 = (v.s.data.toList, more, 0) := textOf_most hs
    show takeText (unText v.s.data.toList ++ more) = _
    unfold takeText endV
    rw [ht]
    have e : (⟨3, 0, ⟨v.s.data.toList.toArray⟩⟩ : V) = v := by
      obtain ⟨k, n, s⟩ := v
      simp only at hk hn
      subst hk hn
      rfl
    rw [if_neg (by simp), e, if_neg (by simp [h])]
    simp
    omega
  · rw [if_neg hk]
    have hs := ba_empty (right_empty h hk)
    have hk2 : v.k = 1 ∨ v.k = 2 := by rcases right_kind h with e | e | e <;> omega
    have hu : uintOf (unInt v.n ++ more) 0 maxU = (zig v.n, more, 0) := uintOf_back _ _ _ (zig_lt _ h0 h1) (by have := zig_lt _ h0 h1; unfold maxU; omega)
    have hc : UInt8.ofNat v.k.toNat = 1 ∨ UInt8.ofNat v.k.toNat = 2 := by rcases hk2 with e | e <;> simp [e]
    have hcn : ((UInt8.ofNat v.k.toNat).toNat : Int) = v.k := by rcases hk2 with e | e <;> simp [e]
    rw [List.cons_append, takeV_cons, if_pos hc]
    unfold takeNum endV
    rw [hu, zag_zig, hcn]
    have e : (⟨v.k, v.n, ⟨#[]⟩⟩ : V) = v := by rw [← hs]
    rw [if_neg (by simp), e, if_neg (by simp [h])]
    simp
    omega

theorem endV_ok {v x : V} {e n m : Nat} (h : endV v e n = (x, m, 0)) : e = 0 ∧ rightV v = 0 ∧ x = v ∧ m = n := by
  unfold endV at h
  split at h
  · simp only [Prod.mk.injEq] at h; omega
  · next h1 =>
    split at h
    · simp at h
    · next h2 =>
      simp only [Prod.mk.injEq, and_true] at h
      exact ⟨by omega, by simpa using h2, h.1.symm, h.2.symm⟩
theorem take_form {b : List UInt8} {x : V} {n : Nat} (h : takeV b = (x, n, 0)) : rightV x = 0 ∧ n ≤ b.length ∧ putV x = b.take n := by
  cases b with
  | nil => simp [takeV] at h
  | cons c t =>
    rw [takeV_cons] at h
    split at h
    · next hc =>
      obtain ⟨he, hr, rfl, rfl⟩ := endV_ok h
      obtain ⟨m, s, e, hq, hbad, hok⟩ := numOf_nat t maxU
      have hu : uintOf t 0 maxU = (m, t.drop s, e) := by simp [uintOf, hq]
      rw [hu] at he hr ⊢
      simp only at he hr ⊢
      subst he
      obtain ⟨b1, b2, b3⟩ := hok rfl
      have hl : t.length + 1 - (t.drop s).length = s + 1 := by rw [List.length_drop]; omega
      refine ⟨hr, by rw [hl, List.length_cons]; omega, ?_⟩
      rw [put_right hr, hl, List.take_succ_cons]
      have hk : ¬ ((c.toNat : Int) = 3) := by rcases hc with rfl | rfl <;> decide
      simp only [if_neg hk]
      rw [unInt, zig_zag, numOf_form t maxU m s hq]
      simp
    · split at h
      · next hc3 =>
        subst hc3
        obtain ⟨he, hr, rfl, rfl⟩ := endV_ok h
        obtain ⟨m, s, e, hq⟩ : ∃ m s e, textOf t 64 = (m, s, e) := ⟨_, _, _, rfl⟩
        have hu : textOfR t 0 64 = (m, t.drop s, e) := by simp [textOfR, hq]
        rw [hu] at he hr ⊢
        simp only at he hr ⊢
        subst he
        obtain ⟨b1, b2, b3⟩ := textOf_form t m 64 s hq
        have hl : t.length + 1 - (t.drop s).length = s + 1 := by rw [List.length_drop]; omega
        refine ⟨hr, by rw [hl, List.length_cons]; omega, ?_⟩
        rw [put_right hr, hl, List.take_succ_cons]
        simp only [if_true]
        rw [b1]
      · simp at h
end Go.Proofs.YtepniiaojhiogaaDoor
