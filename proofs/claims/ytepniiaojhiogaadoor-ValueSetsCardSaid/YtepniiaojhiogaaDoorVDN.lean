/-
  Numerals in plain words, printed and parsed; the shelf's contracts on numbers, at this program.
-/
import Derived.Test.YtepniiaojhiogaaDoorVDR
import Derived.Test.YtepniiaojhiogaaDoorVShelf
import Derived.Test.YtepniiaojhiogaaDoorWrite
import Derived.Lib.LaidTab
import Derived.Lib.ParseIntBCases
import Derived.Deep.LoopGhost
import Derived.StillTailTactics
namespace Go.Proofs.YtepniiaojhiogaaDoor
open Go.RowKit

/-! ### numerals -/
theorem natL_dec (n : Nat) : Lib.decDigits n = natL n := by
  induction n using Nat.strongRecOn with
  | _ n ih =>
    rw [Lib.decDigits]
    by_cases h : n < 10
    · rw [dif_pos h, natL_small h]
    · rw [dif_neg h, natL_big (by omega), ih (n / 10) (by omega)]
theorem intL_itoa (n : Int) : Lib.itoa n = intL n := by
  unfold Lib.itoa intL
  split
  · next h => rw [natL_dec, show n.natAbs = (-n).toNat by omega]
  · rw [natL_dec]
theorem dig_nat {d : Nat} (h : d < 10) : (UInt8.ofNat (48 + d)).toNat = 48 + d := by simp; omega
theorem natL_head (n : Nat) : ∃ c r, natL n = c :: r ∧ isNum c = true ∧ (c = 48 → n = 0 ∧ r = []) := by
  induction n using Nat.strongRecOn with
  | _ n ih =>
    by_cases h : n < 10
    · refine ⟨_, [], natL_small h, ?_, fun e => ?_⟩
      · have := dig_nat h
        unfold isNum
        rw [this]
        simp; omega
      · have := dig_nat h
        rw [e] at this
        exact ⟨by have h48 : (48 : UInt8).toNat = 48 := rfl; omega, rfl⟩
    · obtain ⟨c, r, e, h1, h2⟩ := ih (n / 10) (by omega)
      refine ⟨c, r ++ [UInt8.ofNat (48 + n % 10)], by rw [natL_big (by omega), e]; rfl, h1, fun e => ?_⟩
      have := (h2 e).1
      omega
theorem natL_nums (n : Nat) : ∀ c ∈ natL n, isNum c = true := by
  induction n using Nat.strongRecOn with
  | _ n ih =>
    by_cases h : n < 10
    · rw [natL_small h]
      intro c hc
      rw [List.mem_singleton] at hc
      subst hc
      unfold isNum
      rw [dig_nat h]
      simp; omega
    · rw [natL_big (by omega)]
      intro c hc
      rcases List.mem_append.1 hc with hc | hc
      · exact ih (n / 10) (by omega) c hc
      · rw [List.mem_singleton] at hc
        subst hc
        unfold isNum
        rw [dig_nat (by omega)]
        simp; omega
theorem parse_append (M : Nat) : ∀ (l r : List UInt8) (acc a : Nat), Lib.parseUintM M acc l = .ok a → Lib.parseUintM M acc (l ++ r) = Lib.parseUintM M a r
  | [], r, acc, a, h => by
    simp only [Lib.parseUintM] at h
    injection h with h
    rw [h]; rfl
  | c :: l, r, acc, a, h => by
    simp only [Lib.parseUintM] at h
    rw [List.cons_append, Lib.parseUintM]
    split at h
    · next h1 =>
      rw [if_pos h1]
      split at h
      · cases h
      · next h2 =>
        rw [if_neg h2]
        split at h
        · cases h
        · next h3 =>
          rw [if_neg h3]
          exact parse_append M l r _ a h
    · cases h
theorem parse_nat (n : Nat) (hn : n ≤ 18446744073709551615) : Lib.parseUintM 18446744073709551615 0 (natL n) = .ok n := by
  induction n using Nat.strongRecOn with
  | _ n ih =>
    have step : ∀ (acc d : Nat), d < 10 → acc < 1844674407370955162 → acc * 10 + d ≤ 18446744073709551615 → Lib.parseUintM 18446744073709551615 acc [UInt8.ofNat (48 + d)] = .ok (acc * 10 + d) := fun acc d hd h1 h2 => by
      simp only [Lib.parseUintM]
      rw [dig_nat hd, if_pos (by omega), if_neg (by omega), if_neg (by omega)]
      congr 2
      omega
    by_cases h : n < 10
    · rw [natL_small h]
      have := step 0 n h (by omega) (by omega)
      rw [this]
      congr 1
      omega
    · rw [natL_big (by omega), parse_append _ _ _ _ _ (ih (n / 10) (by omega) (by omega)), step (n / 10) (n % 10) (by omega) (by omega) (by omega)]
      congr 1
      omega
theorem parseU_nat (n : Nat) (hn : n ≤ 18446744073709551615) : Lib.parseUintB 64 (natL n) = .ok n := by
  obtain ⟨c, r, e, _⟩ := natL_head n
  unfold Lib.parseUintB
  rw [if_neg (by rw [e]; simp)]
  exact parse_nat n hn
theorem num_tri {c : UInt8} (h : isNum c = true) : 48 ≤ c.toNat ∧ c.toNat ≤ 57 := by simpa [isNum] using h
theorem parse_int (n : Int) (h0 : -9223372036854775808 ≤ n) (h1 : n ≤ 9223372036854775807) : Lib.parseIntB 64 (intL n) = .ok n := by
  have e63 : (2 : Nat) ^ (64 - 1) = 9223372036854775808 := by decide
  unfold intL
  split
  · rw [Lib.parseIntB_minus, parseU_nat _ (by omega), Lib.signedC, e63, if_neg (by omega)]
    congr 1
    omega
  · obtain ⟨c, r, e, hc, _⟩ := natL_head n.toNat
    have ht := num_tri hc
    rw [e, Lib.parseIntB_plain 64 c r (by omega) (by omega), ← e, parseU_nat _ (by omega), Lib.signlessC, e63, if_neg (by omega)]
    congr 1
    omega

/-! ### the shelf's contracts -/
theorem tab_of' {P : Program} {w : World} {name : String} {k : IntKind} {zs : List Int} {g : Nat} {t : TypeId} {fz : Nat × Nat} (hg : P.globalNamed name = some g)
    (h : w.heap[g]? = some (.cells (zs.map fun z => Value.int k z).toArray t fz)) : Lib.TabIs P w name k zs := by
  unfold Lib.TabIs World.var?
  rw [hg, Option.bind_some, h]
theorem format_any (n : Int) (h0 : -9223372036854775808 ≤ n) (h1 : n ≤ 9223372036854775807) (w : World) (hG : TabW w) :
    Calls Tryd.prog 44 #[.int .i64 n, .int .i64 10] w fun e w' => e = .returned (.string ⟨(intL n).toArray⟩) ∧ Below w.heap.size w w' := by
  obtain ⟨t, fz, ht⟩ := hG
  refine (Any.strconv_FormatInt_10 Tryd.laysM173 n h0 h1 w (tab_of' (by kernel_rfl) ht)).mono ?_
  rintro e w' ⟨he, k, os, rfl⟩
  rw [← intL_itoa]
  exact ⟨he, rfl, rfl, rfl, by simp, fun j hj => Sort.heap_grow_old _ _ hj⟩
theorem parseInt_any (n : Int) (h0 : -9223372036854775808 ≤ n) (h1 : n ≤ 9223372036854775807) (s : ByteArray) (hs : s.data.toList = intL n) (w : World) :
    Calls Tryd.prog 70 #[.string s, .int .i64 10, .int .i64 64] w fun e w' => e = .returned (.tuple #[.int .i64 n, .nilIface]) ∧ Below w.heap.size w w' := by
  have hlen : s.size ≤ 1000 := by
    have e : s.size = (intL n).length := by rw [← hs]; rfl
    have := print_len (v := ⟨1, n, ⟨#[]⟩⟩) (right_int n) h0 h1
    have e2 : printV ⟨1, n, ⟨#[]⟩⟩ = intL n := rfl
    rw [e2] at this
    omega
  refine (Any.strconv_ParseInt_10_at64_ok Tryd.laysC174 s (by omega) n (by rw [hs]; exact parse_int n h0 h1) w).mono ?_
  rintro e w' ⟨he, hw⟩
  refine ⟨he, ?_⟩
  rcases hw with rfl | ⟨t, rfl⟩
  · exact Below.refl _ _
  · exact Lib.bytesWorld_below _ _ _
theorem indexByte_any (s : ByteArray) (c : Int) (w : World) : Calls Tryd.prog 89 #[.string s, .int .u8 c] w fun e w' => e = .returned (.int .i64 (Lib.indexByte s.data.toList c.toNat.toUInt8)) ∧ w' = w := Any.strings_IndexByte Tryd.lays137 s c w
end Go.Proofs.YtepniiaojhiogaaDoor
