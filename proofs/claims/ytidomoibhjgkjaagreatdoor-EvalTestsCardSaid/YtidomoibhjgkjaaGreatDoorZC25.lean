import Derived.Test.YtidomoibhjgkjaaGreatDoorZC10
import Derived.Shelf.Lay
import Derived.Shelf.LaySoft
import Derived.Shelf.Small.Strs
import Derived.Shelf.LaysM
import Derived.Shelf.LaysC
import Derived.Shelf.Strings.Search1
import Derived.Shelf.Strconv.Itoa4
import Derived.Shelf.Strconv.ParseIntPublic10
import Derived.Lib.Bytealg
import Derived.Test.YtidomoibhjgkjaaGreatDoorProg
import Derived.Test.YtidomoibhjgkjaaGreatDoorZC02
import Derived.Lib.LaidTab
import Derived.Lib.ParseIntBCases
import Derived.Deep.LoopGhost
import Derived.StillTailTactics
import Derived.IntWalk
import Derived.Deep.RegionHeld3
import Derived.Deep.AppendLies
/-
  Package value: Right.
-/
namespace Go.Proofs.YtidomoibhjgkjaaGreatDoor
open Go.RowKit

theorem wp_region_class' {P : Program} {C : World → Prop} {id : Nat} {Q : Exit → Act → World → Prop} {a : Act} {w : World} {l : List Oper} (hm : P.follows .mixedOrders = true) (hB : Region.lexB .any l.toArray = true) (hC : C w.drew)
    (h : wpQuiet P l.toArray C (fun a' => ∀ w', C w' → Q .normal a' w') l a) : (Code.region id l.toArray true).wp P Q a w :=
  wp_region_quiet (C := C) hm hB hC (by simpa using h)

/-- The value of a truth, of a number, of a text: which of them a value is. -/
theorem right_end {k n : Int} {s : ByteArray} (b1 b2 b3 : Bool) (h1 : eqV ⟨k, n, s⟩ ⟨3, 0, s⟩ = !b1) (h2 : eqV ⟨k, n, s⟩ ⟨1, n, ⟨#[]⟩⟩ = !b2) (h3 : eqV ⟨k, n, s⟩ ⟨2, if (n == 1) = true then 1 else 0, ⟨#[]⟩⟩ = !b3)
    (hk : k = 1 ∨ k = 2 ∨ k = 3) (hs : k = 3 → s.size ≤ 64) : rightV ⟨k, n, s⟩ = if (b1 && b2 && b3) = true then 1 else 0 := by
  have he : s.size = 0 ↔ s = ⟨#[]⟩ := ⟨ba_empty, fun h => by rw [h]; rfl⟩
  have g : ∀ (a b : V) (x : Bool), eqV a b = !x → (x = true ↔ ¬ a = b) := fun a b x h => by
    rw [← eqV_iff, h]; cases x <;> simp
  have g1 := g _ _ _ h1
  have g2 := g _ _ _ h2
  have g3 := g _ _ _ h3
  simp only [V.mk.injEq] at g1 g2 g3
  unfold rightV
  simp only [Bool.and_eq_true, g1, g2, g3]
  rcases hk with rfl | rfl | rfl
  · by_cases h0 : s.size = 0
    · simp [he.1 h0, ByteArray.size]
    · simp [h0, mt he.2 h0]
  · by_cases h0 : s.size = 0
    · by_cases n0 : n = 0
      · simp [n0, he.1 h0, ByteArray.size]
      · by_cases n1 : n = 1
        · simp [n1, he.1 h0, ByteArray.size]
        · simp [n0, n1, he.1 h0, ByteArray.size]
    · simp [h0, mt he.2 h0]
  · have := hs rfl
    by_cases n0 : n = 0
    · simp [n0, show ¬ 64 < s.size by omega]
    · simp [n0, show ¬ 64 < s.size by omega]

set_option maxRecDepth 100000 in
set_option maxHeartbeats 2000000 in
theorem vRight_in (k n : Int) (s : ByteArray) (b1 b2 b3 : Bool) (h1 : eqV ⟨k, n, s⟩ ⟨3, 0, s⟩ = !b1) (h2 : eqV ⟨k, n, s⟩ ⟨1, n, ⟨#[]⟩⟩ = !b2) (h3 : eqV ⟨k, n, s⟩ ⟨2, if (n == 1) = true then 1 else 0, ⟨#[]⟩⟩ = !b3)
    (hbb : (k = 1 ∧ b1 = true ∧ b3 = true) ∨ (k = 2 ∧ b1 = true ∧ b2 = true) ∨ (k = 3 ∧ b2 = true ∧ b3 = true)) (hs : k = 3 → s.size ≤ 64) (w : World) : Calls Tryz.prog 113 #[.agg #[.int .i64 k, .int .i64 n, .string s]] w fun r w' => r = .returned (.int .i64 (rightV ⟨k, n, s⟩)) ∧ Below w.heap.size w w' := by
  have hk : k = 1 ∨ k = 2 ∨ k = 3 := by rcases hbb with h | h | h <;> omega
  have HV := Lib.hid (right_end b1 b2 b3 h1 h2 h3 hk hs)
  generalize rightV ⟨k, n, s⟩ = z at *
  have q1 : ∀ w, (Op.equalIn 10000 27 (.agg #[.int .i64 k, .int .i64 n, .string s]) (.agg #[.int .i64 3, .int .i64 0, .string s])).run Tryz.prog w = .ok (!b1) w := fun w => by rw [eq_in, h1]
  have q2 : ∀ w, (Op.equalIn 10000 27 (.agg #[.int .i64 k, .int .i64 n, .string s]) (.agg #[.int .i64 1, .int .i64 n, .string ⟨#[]⟩])).run Tryz.prog w = .ok (!b2) w := fun w => by rw [eq_in, h2]
  have q3 : ∀ w, (Op.equalIn 10000 27 (.agg #[.int .i64 k, .int .i64 n, .string s]) (.agg #[.int .i64 2, .int .i64 (if (n == 1) = true then 1 else 0), .string ⟨#[]⟩])).run Tryz.prog w = .ok (!b3) w := fun w => by rw [eq_in, h3]
  have HBX := Lib.hid (Boxed.new w k n s)
  have HB := Lib.hid (box_below w #[.int .i64 k, .int .i64 n, .string s] 27)
  have HT := Lib.hid (fun (W wx : World) (hb : Below W.heap.size W wx) => call_from hb (vText_any s wx))
  have HI := Lib.hid (fun (W wx : World) (hb : Below W.heap.size W wx) => call_from hb (vInt_all n wx))
  have HBo := Lib.hid (fun (W wx : World) (hb : Below W.heap.size W wx) => call_from hb (vBool_any (n == 1) wx))
  generalize (if (n == 1) = true then (1 : Int) else 0) = t at q3 HBo
  clear h1 h2 h3
  obtain ⟨w1, hw1⟩ : ∃ wy, w.alloc (.cells #[.int .i64 k, .int .i64 n, .string s] 27) = wy := ⟨_, rfl⟩
  rw [hw1] at HBX HB
  have HX := Lib.hid (fun (w' : World) (hb : Below w1.heap.size w1 w') => (HBX.out.below hb).cells)
  have HW := Lib.hid hw1
  clear hw1 HBX
  have hb : (k = 1 ∧ b1 = true ∧ b3 = true) ∨ (k = 2 ∧ b1 = true ∧ b2 = true) ∨ (k = 3 ∧ b2 = true ∧ b3 = true) := hbb
  clear hk hbb
  rcases hb with ⟨rfl, rfl, rfl⟩ | ⟨rfl, rfl, rfl⟩ | ⟨rfl, rfl, rfl⟩
  all_goals
    (try (have hs6 := hs rfl; have b6 : decide (64 < (s.size : Int)) = false := by rw [decide_eq_false_iff_not]; omega))
    clear hs
    go_enter Tryz.func113, Tryz.ntmps113
    go_upto_region 7 with fail
    rw [HW.out]
    refine wp_region_class' (C := fun w' => Below w1.heap.size w1 w') (by kernel_rfl) (by kernel_rfl) (Below.refl _ _).drew ?_
    first | cases b1 | cases b2 | cases b3
    all_goals
      repeat (quiet_step (first
        | (intro hw; with_reducible exact HT.out w1 _ hw)
        | (intro hw; with_reducible exact HI.out w1 _ hw)
        | (intro hw; with_reducible exact HBo.out w1 _ hw)
        | (intro _; with_reducible rfl)
        | (intro hw; obtain ⟨c0, c1, c2⟩ := HX.out _ hw; go_simp; with_reducible exact ⟨rfl, rfl⟩)
        | (intro hw; obtain ⟨c0, c1, c2⟩ := HX.out _ hw; go_simp; with_reducible rfl)))
      refine wpQuiet_nil ?_
      intro w8 hb6
      go_wp2_with fail
      go_ret
      exact ⟨by rw [HV.out]; rfl, HB.out.trans (hb6.mono HB.out.size)⟩

theorem eqB (a b : V) : ∃ x : Bool, eqV a b = !x := ⟨!eqV a b, by cases eqV a b <;> rfl⟩
theorem eq_k {k n k' n' : Int} {s s' : ByteArray} (h : k ≠ k') : eqV ⟨k, n, s⟩ ⟨k', n', s'⟩ = !true := by
  rw [Bool.not_true, Bool.eq_false_iff]
  intro e
  have := eqV_iff.1 e
  injection this with e1 _ _
  exact h e1

set_option maxHeartbeats 1000000 in
theorem vRight_any : RightC := by
  intro v w
  obtain ⟨k, n, s⟩ := v
  show Calls Tryz.prog 113 #[.agg #[.int .i64 k, .int .i64 n, .string s]] w _
  by_cases hk : k = 1 ∨ k = 2 ∨ k = 3
  · by_cases h6 : k = 3 ∧ 64 < s.size
    · obtain ⟨rfl, h6⟩ := h6
      have b6 : decide (64 < (s.size : Int)) = true := by rw [decide_eq_true_iff]; omega
      have HV := Lib.hid (show rightV ⟨3, n, s⟩ = 3 by simp [rightV, h6])
      clear h6 hk
      go_enter Tryz.func113, Tryz.ntmps113
      go_wp2
      go_ret
      rw [HV.out]
      exact ⟨rfl, box_below _ _ _⟩
    · obtain ⟨b1, h1⟩ := eqB ⟨k, n, s⟩ ⟨3, 0, s⟩
      obtain ⟨b2, h2⟩ := eqB ⟨k, n, s⟩ ⟨1, n, ⟨#[]⟩⟩
      obtain ⟨b3, h3⟩ := eqB ⟨k, n, s⟩ ⟨2, if (n == 1) = true then 1 else 0, ⟨#[]⟩⟩
      refine vRight_in k n s b1 b2 b3 h1 h2 h3 ?_ (fun h => by omega) w
      rcases hk with rfl | rfl | rfl
      · rw [eq_k (by decide)] at h1 h3
        simp at h1 h3
        exact .inl ⟨rfl, h1, h3⟩
      · rw [eq_k (by decide)] at h1 h2
        simp at h1 h2
        exact .inr (.inl ⟨rfl, h1, h2⟩)
      · rw [eq_k (by decide)] at h2 h3
        simp at h2 h3
        exact .inr (.inr ⟨rfl, h2, h3⟩)
  · have j1 : (k == 1) = false := by rw [beq_eq_false_iff_ne]; omega
    have j2 : (k == 2) = false := by rw [beq_eq_false_iff_ne]; omega
    have j3 : (k == 3) = false := by rw [beq_eq_false_iff_ne]; omega
    have HV := Lib.hid (show rightV ⟨k, n, s⟩ = 40 from if_pos (show k < 1 ∨ 3 < k by omega))
    clear hk
    go_enter Tryz.func113, Tryz.ntmps113
    go_wp2
    go_ret
    rw [HV.out]
    exact ⟨rfl, box_below _ _ _⟩
end Go.Proofs.YtidomoibhjgkjaaGreatDoor

/-
  Nothing off the shelf is wanted at this program.
-/
namespace Go.Proofs.YtidomoibhjgkjaaGreatDoor
end Go.Proofs.YtidomoibhjgkjaaGreatDoor

/-
  Numerals in plain words, printed and parsed; the shelf's contracts on numbers, at this program.
-/
namespace Go.Proofs.YtidomoibhjgkjaaGreatDoor
open Go.RowKit

/-! ### numerals -/
theorem natL_dec (n : Nat) : Lib.decDigits n = natL n := by
  induction n using Nat.strongRecOn with
  | _ n ih =>
    rw [Lib.decDigits]
    by_cases h : n < 10
    · rw [dif_pos h, natL_small h]
    · rw [dif_neg h, natL_big (by omega), ih (n / 10) (by omega)]
theorem intL_itoa (n : Int) : Lib.itoa n = intL n := by
  unfold Lib.itoa intL
  split
  · next h => rw [natL_dec, show n.natAbs = (-n).toNat by omega]
  · rw [natL_dec]
theorem dig_nat {d : Nat} (h : d < 10) : (UInt8.ofNat (48 + d)).toNat = 48 + d := by simp; omega
theorem natL_head (n : Nat) : ∃ c r, natL n = c :: r ∧ isNum c = true ∧ (c = 48 → n = 0 ∧ r = []) := by
  induction n using Nat.strongRecOn with
  | _ n ih =>
    by_cases h : n < 10
    · refine ⟨_, [], natL_small h, ?_, fun e => ?_⟩
      · have := dig_nat h
        unfold isNum
        rw [this]
        simp; omega
      · have := dig_nat h
        rw [e] at this
        exact ⟨by have h48 : (48 : UInt8).toNat = 48 := rfl; omega, rfl⟩
    · obtain ⟨c, r, e, h1, h2⟩ := ih (n / 10) (by omega)
      refine ⟨c, r ++ [UInt8.ofNat (48 + n % 10)], by rw [natL_big (by omega), e]; rfl, h1, fun e => ?_⟩
      have := (h2 e).1
      omega
theorem natL_nums (n : Nat) : ∀ c ∈ natL n, isNum c = true := by
  induction n using Nat.strongRecOn with
  | _ n ih =>
    by_cases h : n < 10
    · rw [natL_small h]
      intro c hc
      rw [List.mem_singleton] at hc
      subst hc
      unfold isNum
      rw [dig_nat h]
      simp; omega
    · rw [natL_big (by omega)]
      intro c hc
      rcases List.mem_append.1 hc with hc | hc
      · exact ih (n / 10) (by omega) c hc
      · rw [List.mem_singleton] at hc
        subst hc
        unfold isNum
        rw [dig_nat (by omega)]
        simp; omega
theorem parse_append (M : Nat) : ∀ (l r : List UInt8) (acc a : Nat), Lib.parseUintM M acc l = .ok a → Lib.parseUintM M acc (l ++ r) = Lib.parseUintM M a r
  | [], r, acc, a, h => by
    simp only [Lib.parseUintM] at h
    injection h with h
    rw [h]; rfl
  | c :: l, r, acc, a, h => by
    simp only [Lib.parseUintM] at h
    rw [List.cons_append, Lib.parseUintM]
    split at h
    · next h1 =>
      rw [if_pos h1]
      split at h
      · cases h
      · next h2 =>
        rw [if_neg h2]
        split at h
        · cases h
        · next h3 =>
          rw [if_neg h3]
          exact parse_append M l r _ a h
    · cases h
theorem parse_nat (n : Nat) (hn : n ≤ 18446744073709551615) : Lib.parseUintM 18446744073709551615 0 (natL n) = .ok n := by
  induction n using Nat.strongRecOn with
  | _ n ih =>
    have step : ∀ (acc d : Nat), d < 10 → acc < 1844674407370955162 → acc * 10 + d ≤ 18446744073709551615 → Lib.parseUintM 18446744073709551615 acc [UInt8.ofNat (48 + d)] = .ok (acc * 10 + d) := fun acc d hd h1 h2 => by
      simp only [Lib.parseUintM]
      rw [dig_nat hd, if_pos (by omega), if_neg (by omega), if_neg (by omega)]
      congr 2
      omega
    by_cases h : n < 10
    · rw [natL_small h]
      have := step 0 n h (by omega) (by omega)
      rw [this]
      congr 1
      omega
    · rw [natL_big (by omega), parse_append _ _ _ _ _ (ih (n / 10) (by omega) (by omega)), step (n / 10) (n % 10) (by omega) (by omega) (by omega)]
      congr 1
      omega
theorem parseU_nat (n : Nat) (hn : n ≤ 18446744073709551615) : Lib.parseUintB 64 (natL n) = .ok n := by
  obtain ⟨c, r, e, _⟩ := natL_head n
  unfold Lib.parseUintB
  rw [if_neg (by rw [e]; simp)]
  exact parse_nat n hn
theorem num_tri {c : UInt8} (h : isNum c = true) : 48 ≤ c.toNat ∧ c.toNat ≤ 57 := by simpa [isNum] using h
theorem parse_int (n : Int) (h0 : -9223372036854775808 ≤ n) (h1 : n ≤ 9223372036854775807) : Lib.parseIntB 64 (intL n) = .ok n := by
  have e63 : (2 : Nat) ^ (64 - 1) = 9223372036854775808 := by decide
  unfold intL
  split
  · rw [Lib.parseIntB_minus, parseU_nat _ (by omega), Lib.signedC, e63, if_neg (by omega)]
    congr 1
    omega
  · obtain ⟨c, r, e, hc, _⟩ := natL_head n.toNat
    have ht := num_tri hc
    rw [e, Lib.parseIntB_plain 64 c r (by omega) (by omega), ← e, parseU_nat _ (by omega), Lib.signlessC, e63, if_neg (by omega)]
    congr 1
    omega

/-! ### the shelf's contracts -/
theorem tab_of' {P : Program} {w : World} {name : String} {k : IntKind} {zs : List Int} {g : Nat} {t : TypeId} {fz : Nat × Nat} (hg : P.globalNamed name = some g)
    (h : w.heap[g]? = some (.cells (zs.map fun z => Value.int k z).toArray t fz)) : Lib.TabIs P w name k zs := by
  unfold Lib.TabIs World.var?
  rw [hg, Option.bind_some, h]
end Go.Proofs.YtidomoibhjgkjaaGreatDoor

/-
  Package value: Print.
-/
namespace Go.Proofs.YtidomoibhjgkjaaGreatDoor
open Go.RowKit

def plainB (c : UInt8) : Bool := decide (32 ≤ c.toNat) && decide (c.toNat ≤ 126)
theorem look8_0 (w : World) : (Instr.index 9 (.string ⟨#[48, 49, 50, 51, 52, 53, 54, 55, 56, 57, 97, 98, 99, 100, 101, 102]⟩) (.int .u8 0)).run Tryz.prog w = .ok (.int .u8 48) w := by kernel_rfl
theorem look8_1 (w : World) : (Instr.index 9 (.string ⟨#[48, 49, 50, 51, 52, 53, 54, 55, 56, 57, 97, 98, 99, 100, 101, 102]⟩) (.int .u8 1)).run Tryz.prog w = .ok (.int .u8 49) w := by kernel_rfl
theorem look8_2 (w : World) : (Instr.index 9 (.string ⟨#[48, 49, 50, 51, 52, 53, 54, 55, 56, 57, 97, 98, 99, 100, 101, 102]⟩) (.int .u8 2)).run Tryz.prog w = .ok (.int .u8 50) w := by kernel_rfl
theorem look8_3 (w : World) : (Instr.index 9 (.string ⟨#[48, 49, 50, 51, 52, 53, 54, 55, 56, 57, 97, 98, 99, 100, 101, 102]⟩) (.int .u8 3)).run Tryz.prog w = .ok (.int .u8 51) w := by kernel_rfl
theorem look8_4 (w : World) : (Instr.index 9 (.string ⟨#[48, 49, 50, 51, 52, 53, 54, 55, 56, 57, 97, 98, 99, 100, 101, 102]⟩) (.int .u8 4)).run Tryz.prog w = .ok (.int .u8 52) w := by kernel_rfl
theorem look8_5 (w : World) : (Instr.index 9 (.string ⟨#[48, 49, 50, 51, 52, 53, 54, 55, 56, 57, 97, 98, 99, 100, 101, 102]⟩) (.int .u8 5)).run Tryz.prog w = .ok (.int .u8 53) w := by kernel_rfl
theorem look8_6 (w : World) : (Instr.index 9 (.string ⟨#[48, 49, 50, 51, 52, 53, 54, 55, 56, 57, 97, 98, 99, 100, 101, 102]⟩) (.int .u8 6)).run Tryz.prog w = .ok (.int .u8 54) w := by kernel_rfl
theorem look8_7 (w : World) : (Instr.index 9 (.string ⟨#[48, 49, 50, 51, 52, 53, 54, 55, 56, 57, 97, 98, 99, 100, 101, 102]⟩) (.int .u8 7)).run Tryz.prog w = .ok (.int .u8 55) w := by kernel_rfl
theorem look8_8 (w : World) : (Instr.index 9 (.string ⟨#[48, 49, 50, 51, 52, 53, 54, 55, 56, 57, 97, 98, 99, 100, 101, 102]⟩) (.int .u8 8)).run Tryz.prog w = .ok (.int .u8 56) w := by kernel_rfl
theorem look8_9 (w : World) : (Instr.index 9 (.string ⟨#[48, 49, 50, 51, 52, 53, 54, 55, 56, 57, 97, 98, 99, 100, 101, 102]⟩) (.int .u8 9)).run Tryz.prog w = .ok (.int .u8 57) w := by kernel_rfl
theorem look8_10 (w : World) : (Instr.index 9 (.string ⟨#[48, 49, 50, 51, 52, 53, 54, 55, 56, 57, 97, 98, 99, 100, 101, 102]⟩) (.int .u8 10)).run Tryz.prog w = .ok (.int .u8 97) w := by kernel_rfl
theorem look8_11 (w : World) : (Instr.index 9 (.string ⟨#[48, 49, 50, 51, 52, 53, 54, 55, 56, 57, 97, 98, 99, 100, 101, 102]⟩) (.int .u8 11)).run Tryz.prog w = .ok (.int .u8 98) w := by kernel_rfl
theorem look8_12 (w : World) : (Instr.index 9 (.string ⟨#[48, 49, 50, 51, 52, 53, 54, 55, 56, 57, 97, 98, 99, 100, 101, 102]⟩) (.int .u8 12)).run Tryz.prog w = .ok (.int .u8 99) w := by kernel_rfl
theorem look8_13 (w : World) : (Instr.index 9 (.string ⟨#[48, 49, 50, 51, 52, 53, 54, 55, 56, 57, 97, 98, 99, 100, 101, 102]⟩) (.int .u8 13)).run Tryz.prog w = .ok (.int .u8 100) w := by kernel_rfl
theorem look8_14 (w : World) : (Instr.index 9 (.string ⟨#[48, 49, 50, 51, 52, 53, 54, 55, 56, 57, 97, 98, 99, 100, 101, 102]⟩) (.int .u8 14)).run Tryz.prog w = .ok (.int .u8 101) w := by kernel_rfl
theorem look8_15 (w : World) : (Instr.index 9 (.string ⟨#[48, 49, 50, 51, 52, 53, 54, 55, 56, 57, 97, 98, 99, 100, 101, 102]⟩) (.int .u8 15)).run Tryz.prog w = .ok (.int .u8 102) w := by kernel_rfl
theorem look8 (w : World) : ∀ (d : Nat), d < 16 → (Instr.index 9 (.string ⟨#[48, 49, 50, 51, 52, 53, 54, 55, 56, 57, 97, 98, 99, 100, 101, 102]⟩) (.int .u8 (d : Int))).run Tryz.prog w = .ok (.int .u8 ((digB d).toNat : Int)) w
  | 0, _ => look8_0 w
  | 1, _ => look8_1 w
  | 2, _ => look8_2 w
  | 3, _ => look8_3 w
  | 4, _ => look8_4 w
  | 5, _ => look8_5 w
  | 6, _ => look8_6 w
  | 7, _ => look8_7 w
  | 8, _ => look8_8 w
  | 9, _ => look8_9 w
  | 10, _ => look8_10 w
  | 11, _ => look8_11 w
  | 12, _ => look8_12 w
  | 13, _ => look8_13 w
  | 14, _ => look8_14 w
  | 15, _ => look8_15 w
  | n + 16, h => absurd h (by omega)

/-- A new block of some bytes. -/
theorem Rd.lits (w : World) (e : TypeId) (l : List UInt8) : Rd (w.alloc (.cells (bvs l).toArray e)) w.heap.size (w.heap.size + 1) (some ⟨w.heap.size, 0, none⟩) l := fun _ => by
  refine ⟨w.heap.size, 0, rfl, Nat.le_refl _, by omega, fun j hj => ?_⟩
  rw [cell_of_row _ w.heap.size _ _ e (0, 0) (heap_alloc_new w _)]
  simp [bvs, hj]
theorem news_lits (w : World) (e : TypeId) (l : List UInt8) : ∀ j u, (bvs l)[j]? = some u → (w.alloc (.cells (bvs l).toArray e)).cell? ((⟨w.heap.size, 0, none⟩ : Addr).add j) = some u := fun j u hu => by
  rw [addr_add, Nat.zero_add, cell_of_row _ w.heap.size _ _ e (0, 0) (heap_alloc_new w _)]
  simpa using hu
theorem escL_take (s : ByteArray) (j : Nat) (h : j < s.size) : escL (s.data.toList.take (j + 1)) = escL (s.data.toList.take j) ++ escB s[j] := by
  have hj : j < s.data.toList.length := h
  rw [List.take_succ_eq_append_getElem hj]
  simp [escL]
  rfl
theorem escL_take_len (s : ByteArray) (j : Nat) : (escL (s.data.toList.take j)).length ≤ 3 * s.size := by
  have h1 := escL_len (s.data.toList.take j)
  have h2 : (s.data.toList.take j).length ≤ s.size := by rw [List.length_take]; exact Nat.min_le_right _ _
  omega

end Go.Proofs.YtidomoibhjgkjaaGreatDoor

/-
  Package value: Print; and what Parse asks of texts.
-/
namespace Go.Proofs.YtidomoibhjgkjaaGreatDoor
open Go.RowKit

theorem right_truth {n : Int} {s : ByteArray} (h : rightV ⟨2, n, s⟩ = 0) : n = 0 ∨ n = 1 := by
  unfold rightV at h
  rw [if_neg (by simp), if_neg (by simp)] at h
  split at h
  · cases h
  · next h1 =>
    simp at h1
    omega

/-! ### texts -/
theorem ext_drop (s : ByteArray) (k : Nat) : s.extract k s.size = ⟨(s.data.toList.drop k).toArray⟩ := by
  apply ByteArray.ext
  rw [ByteArray.data_extract]
  apply Array.toList_inj.1
  rw [Array.toList_extract]
  show List.extract _ _ _ = _
  unfold List.extract
  have : s.data.size = s.data.toList.length := (Array.length_toList).symm
  rw [show s.size = s.data.toList.length from rfl, List.take_of_length_le (by rw [List.length_drop]; omega)]
theorem ext_take (s : ByteArray) (k : Nat) : s.extract 0 k = ⟨(s.data.toList.take k).toArray⟩ := by
  apply ByteArray.ext
  rw [ByteArray.data_extract]
  apply Array.toList_inj.1
  rw [Array.toList_extract]
  show List.extract _ _ _ = _
  unfold List.extract
  simp

end Go.Proofs.YtidomoibhjgkjaaGreatDoor

/-
  Package value: what Parse asks: words, what stands behind a backslash.
-/
namespace Go.Proofs.YtidomoibhjgkjaaGreatDoor
open Go.RowKit

theorem same_from' {P : Program} {f : FuncId} {args : Array Value} {v : Value} {W wx : World} (hb : Below W.heap.size W wx) (h : Calls P f args wx fun r w' => r = .returned v ∧ w' = wx) :
    Calls P f args wx fun r w' => r = .returned v ∧ Below W.heap.size W w' := h.mono fun _ _ ⟨a, b⟩ => ⟨a, by rw [b]; exact hb⟩
theorem ba_eqb {s t : ByteArray} (h : s.data.toList ≠ t.data.toList) : (s.toList == t.toList) = false := by
  rw [beq_eq_false_iff_ne, ByteArray.toList_eq, ByteArray.toList_eq]; exact h
theorem at_list (s : ByteArray) (l : List UInt8) (hs : s.data.toList = l) (j : Nat) (h : j < s.size) : s[j] = l[j]'(by rw [← hs]; exact h) := by
  subst hs
  rfl
theorem digB_ne : ∀ d : Fin 16, digB d.val ≠ 34 ∧ digB d.val ≠ 92 := by decide
theorem hex_at : ∀ d : Fin 16, Lib.indexByte [48, 49, 50, 51, 52, 53, 54, 55, 56, 57, 97, 98, 99, 100, 101, 102] (digB d.val) = (d.val : Int) := by decide

end Go.Proofs.YtidomoibhjgkjaaGreatDoor

/-
  Package value: numbers that Parse reads.
-/
namespace Go.Proofs.YtidomoibhjgkjaaGreatDoor
open Go.RowKit

theorem intL_len (n : Int) (h0 : -9223372036854775808 ≤ n) (h1 : n ≤ 9223372036854775807) : (intL n).length ≤ 1000 := by
  have := print_len (v := ⟨1, n, ⟨#[]⟩⟩) (right_int n) h0 h1
  have e2 : printV ⟨1, n, ⟨#[]⟩⟩ = intL n := rfl
  rwa [e2] at this
/-- How far a number's digits stand from its front. -/
def firstOf (n : Int) : Nat := if n < 0 then 1 else 0
theorem intL_cut (n : Int) : ∃ c r, intL n = (if n < 0 then [45] else []) ++ c :: r ∧ (∀ x ∈ c :: r, isNum x = true) ∧ (c = 48 → n = 0 ∧ r = []) := by
  unfold intL
  split
  · next h =>
    obtain ⟨c, r, e, h1, h2⟩ := natL_head (-n).toNat
    exact ⟨c, r, by rw [e]; rfl, by rw [← e]; exact natL_nums _, fun hc => by have := (h2 hc).1; omega⟩
  · next h =>
    obtain ⟨c, r, e, h1, h2⟩ := natL_head n.toNat
    exact ⟨c, r, by rw [e]; rfl, by rw [← e]; exact natL_nums _, fun hc => by have := h2 hc; exact ⟨by omega, this.2⟩⟩

end Go.Proofs.YtidomoibhjgkjaaGreatDoor

/-
  Package value: texts that Parse reads.
-/
namespace Go.Proofs.YtidomoibhjgkjaaGreatDoor
open Go.RowKit

theorem own_below {w w' : World} {base : Nat} {e : TypeId} {v : Value} {n : Nat} {xs : List Value} (h : w.ownsRow base e 1 v n xs) (hb : Below w.heap.size w w') : w'.ownsRow base e 1 v n xs := by
  refine ⟨h.1, ?_⟩
  rcases h.2 with h | ⟨g, cap, cur, hv, hg, hh, hr⟩
  · exact .inl h
  · exact .inr ⟨g, cap, cur, hv, hg, (hb.block g (Array.getElem?_eq_some_iff.1 hh).1).trans hh, hr⟩
theorem escL_append (a b : List UInt8) : escL (a ++ b) = escL a ++ escL b := by simp [escL]
theorem escL_at (tl : List UInt8) (j : Nat) (h : j < tl.length) : escL tl = escL (tl.take j) ++ (escB (tl[j]'h) ++ escL (tl.drop (j + 1))) := by
  have e : tl.drop j = tl[j]'h :: tl.drop (j + 1) := List.drop_eq_getElem_cons h
  have e2 : escL (tl.drop j) = escB (tl[j]'h) ++ escL (tl.drop (j + 1)) := by rw [e]; exact List.flatMap_cons
  rw [← e2, ← escL_append, List.take_append_drop]
theorem escB_pos (c : UInt8) : 0 < (escB c).length := by
  unfold escB
  split
  · simp
  · split <;> simp
theorem escB_len (c : UInt8) : (escB c).length ≤ 3 := by
  unfold escB
  split
  · simp
  · split <;> simp
theorem escL_take_at (tl : List UInt8) (j : Nat) (h : j < tl.length) : escL (tl.take (j + 1)) = escL (tl.take j) ++ escB (tl[j]'h) := by
  rw [List.take_succ_eq_append_getElem h, escL_append]
  simp [escL]
theorem bvs_take_at (tl : List UInt8) (j : Nat) (h : j < tl.length) : bvs (tl.take j ++ [tl[j]'h]) = bvs (tl.take (j + 1)) := by
  rw [List.take_succ_eq_append_getElem h]

end Go.Proofs.YtidomoibhjgkjaaGreatDoor
