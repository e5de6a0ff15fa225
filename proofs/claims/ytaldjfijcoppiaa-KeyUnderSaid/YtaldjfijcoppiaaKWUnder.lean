/-
  The walk of KeyUnder, from the contracts of package key.
-/
import Derived.Test.YtaldjfijcoppiaaKCon
namespace Go.Proofs.Ytaldjfijcoppiaa.keyUnder
open Go.RowKit

theorem map_prefix (a b : List ByteArray) : a.map (·.data.toList) <+: b.map (·.data.toList) ↔ a <+: b := by
  rw [List.prefix_iff_eq_take, List.prefix_iff_eq_take, List.length_map, ← List.map_take]
  constructor
  · intro h
    apply List.map_inj_right (f := fun p : ByteArray => p.data.toList) (by intro x y h; exact ByteArray.ext (Array.toList_inj.1 h)) |>.1
    exact h
  · intro h
    exact congrArg _ h
theorem key_prefix (kind : UInt8) (a b : List ByteArray) : keyB kind a <+: keyB kind b ↔ a <+: b := by
  unfold keyB
  rw [List.cons_prefix_cons, enc_prefix, map_prefix]
  simp

theorem tests_ok {lo k : List UInt8} {lt emp below bg : Bool} (h1 : Op.bytesLess k lo = lt) (h2 : (afterL lo).isEmpty = emp) (h3 : Op.bytesLess k (afterL lo) = below) (h4 : bg = true ↔ lo <+: k) : ((!lt) && (emp || below)) = bg := by
  have h := after_iff lo k
  have hx : ((!lt) && (emp || below)) = true ↔ (blt k lo = false ∧ (afterL lo = [] ∨ blt k (afterL lo) = true)) := by
    rw [Bool.and_eq_true, Bool.or_eq_true, ← h1, ← h2, ← h3, List.isEmpty_iff]
    simp
  rw [Bool.eq_iff_iff, hx, h4]
  exact h

set_option maxRecDepth 100000 in
set_option maxHeartbeats 2000000 in
theorem walk_few (K : KeyC) (kind : UInt8) (A1 : Option Addr) (c1 : Nat) (l1 : List ByteArray) (A2 : Option Addr) (c2 : Nat) (l2 : List ByteArray) (w : World) (hs1 : ∀ p ∈ l1, p.size ≤ maxLen) (hs2 : ∀ p ∈ l2, p.size ≤ maxLen) (hr1 : RowS w 0 w.heap.size A1 l1) (hr2 : RowS w 0 w.heap.size A2 l2) (hf1 : fewK l1 = true) (hf2 : fewK l2 = true)
    (hc1 : l1.length ≤ c1) (hc2 : l2.length ≤ c2) (hz1 : A1 = none → c1 = 0) (hz2 : A2 = none → c2 = 0) :
    Calls Try.prog 7 #[.int .u8 kind.toNat, .slice A1 l1.length c1, .slice A2 l2.length c2] w fun e w' => e = .returned (.bool true) ∧ Below w.heap.size w w' := by
  have HK := Lib.hid K
  have h20 := (fewK_yes hf1).2
  have h20' := (fewK_yes hf2).2
  have HS1 := Lib.hid hs1
  have HS2 := Lib.hid hs2
  have HR1 := Lib.hid hr1
  have HR2 := Lib.hid hr2
  have HF1 := Lib.hid hf1
  have HF2 := Lib.hid hf2
  have HU := Lib.hid (fun w' (hb : Below w.heap.size w w') => HK.out.under kind A1 l1.length c1 l1 0 w.heap.size w' rfl h20 (fewK_yes hf1).1 (hr1.below hb (Nat.le_refl _)) hb.size hz1 hc1)
  have HM := Lib.hid (fun w' (hb : Below w.heap.size w w') => HK.out.make kind A2 l2.length c2 l2 0 w.heap.size w' rfl (by omega) (fun p hp => Nat.le_trans ((fewK_yes hf2).1 p hp) (by omega)) (hr2.below hb (Nat.le_refl _)) hb.size hz2 hc2)
  have HBG := Lib.hid (fun w' (hb : Below w.heap.size w w') => begins_any A2 A1 l2.length l1.length c2 c1 0 w.heap.size 0 w.heap.size l2 l1 w' rfl rfl (hr2.below hb (Nat.le_refl _)) (hr1.below hb (Nat.le_refl _)) (by omega) hc2)
  obtain ⟨lt, emp, below, bg, t1, t2, t3, t4⟩ : ∃ lt emp below bg, Op.bytesLess (keyB kind l2) (keyB kind l1) = lt ∧ (afterL (keyB kind l1)).isEmpty = emp ∧ Op.bytesLess (keyB kind l2) (afterL (keyB kind l1)) = below ∧ decide (l1 <+: l2) = bg := ⟨_, _, _, _, rfl, rfl, rfl, rfl⟩
  have ok := tests_ok t1 t2 t3 (bg := bg) (by rw [← t4, decide_eq_true_iff, key_prefix])
  rw [t4] at HBG
  clear K hs1 hs2 hr1 hr2 hf1 hf2 hz1 hz2 t4
  generalize afterL (keyB kind l1) = hi at *
  generalize keyB kind l1 = lo at *
  generalize keyB kind l2 = kk at *
  cases lt <;> cases emp <;> cases below <;> cases bg <;> first | (exfalso; revert ok; decide) | skip
  all_goals
    clear ok
    go_enter Try.func7, Try.ntmps7
    go_wp2_with fail
    refine (liveK_any HK.out _).mono ?_
    rintro r w1 ⟨rfl, hb⟩
    have B1 := Lib.hid hb
    clear hb
    go_wp2_with fail
    refine (fewK_any A1 _ c1 l1 0 w.heap.size w1 rfl (by unfold maxLen; omega) HS1.out (HR1.out.below B1.out (Nat.le_refl _))).mono ?_
    rw [HF1.out]
    rintro r w9 ⟨rfl, rfl⟩
    go_wp2_with fail
    refine (fewK_any A2 _ c2 l2 0 w.heap.size w1 rfl (by unfold maxLen; omega) HS2.out (HR2.out.below B1.out (Nat.le_refl _))).mono ?_
    rw [HF2.out]
    rintro r w9 ⟨rfl, rfl⟩
    go_wp2_with fail
    refine (HU.out w1 B1.out).mono ?_
    rintro r w2 ⟨rfl, hb⟩
    have B2 := Lib.hid (B1.out.trans (hb.mono B1.out.size))
    clear hb B1
    go_wp2_with fail
    refine (HM.out w2 B2.out).mono ?_
    rintro r w3 ⟨rfl, hb⟩
    have B3 := Lib.hid (B2.out.trans (hb.mono B2.out.size))
    clear hb B2
    go_wp2_with fail
    refine (HBG.out w3 B3.out).mono ?_
    rintro r w4 ⟨rfl, hb⟩
    have B4 := Lib.hid (B3.out.trans (hb.mono B3.out.size))
    clear hb B3
    go_wp2
    go_ret
    exact ⟨rfl, B4.out⟩

set_option maxRecDepth 100000 in
set_option maxHeartbeats 2000000 in
theorem walk (K : KeyC) (kind : UInt8) (A1 : Option Addr) (c1 : Nat) (l1 : List ByteArray) (A2 : Option Addr) (c2 : Nat) (l2 : List ByteArray) (w : World) (hm1 : l1.length ≤ maxLen) (hm2 : l2.length ≤ maxLen) (hs1 : ∀ p ∈ l1, p.size ≤ maxLen) (hs2 : ∀ p ∈ l2, p.size ≤ maxLen) (hr1 : RowS w 0 w.heap.size A1 l1) (hr2 : RowS w 0 w.heap.size A2 l2)
    (hc1 : l1.length ≤ c1) (hc2 : l2.length ≤ c2) (hz1 : A1 = none → c1 = 0) (hz2 : A2 = none → c2 = 0) :
    Calls Try.prog 7 #[.int .u8 kind.toNat, .slice A1 l1.length c1, .slice A2 l2.length c2] w fun e w' => e = .returned (.bool true) ∧ Below w.heap.size w w' := by
  have HK := Lib.hid K
  have HS1 := Lib.hid hs1
  have HS2 := Lib.hid hs2
  have HR1 := Lib.hid hr1
  have HR2 := Lib.hid hr2
  have HL1 := Lib.hid hm1
  have HL2 := Lib.hid hm2
  by_cases hf1 : fewK l1 = true
  case neg =>
    have hf1 : fewK l1 = false := by simpa using hf1
    have HF1 := Lib.hid hf1
    clear K hs1 hs2 hr1 hr2 hm1 hm2 hf1 hc1 hc2 hz1 hz2
    go_enter Try.func7, Try.ntmps7
    go_wp2_with fail
    refine (liveK_any HK.out _).mono ?_
    rintro r w1 ⟨rfl, hb⟩
    have B1 := Lib.hid hb
    clear hb
    go_wp2_with fail
    refine (fewK_any A1 _ c1 l1 0 w.heap.size w1 rfl HL1.out HS1.out (HR1.out.below B1.out (Nat.le_refl _))).mono ?_
    rw [HF1.out]
    rintro r w9 ⟨rfl, rfl⟩
    go_wp2_with fail
    refine (liveK_any HK.out _).mono ?_
    rintro r w2 ⟨rfl, hb⟩
    have B2 := Lib.hid (B1.out.trans (hb.mono B1.out.size))
    clear hb
    go_wp2
    go_ret
    exact ⟨rfl, B2.out⟩

  by_cases hf2 : fewK l2 = true
  case neg =>
    have hf2 : fewK l2 = false := by simpa using hf2
    have HF1 := Lib.hid hf1
    have HF2 := Lib.hid hf2
    clear K hs1 hs2 hr1 hr2 hm1 hm2 hf1 hf2 hc1 hc2 hz1 hz2
    go_enter Try.func7, Try.ntmps7
    go_wp2_with fail
    refine (liveK_any HK.out _).mono ?_
    rintro r w1 ⟨rfl, hb⟩
    have B1 := Lib.hid hb
    clear hb
    go_wp2_with fail
    refine (fewK_any A1 _ c1 l1 0 w.heap.size w1 rfl HL1.out HS1.out (HR1.out.below B1.out (Nat.le_refl _))).mono ?_
    rw [HF1.out]
    rintro r w9 ⟨rfl, rfl⟩
    go_wp2_with fail
    refine (fewK_any A2 _ c2 l2 0 w.heap.size w1 rfl HL2.out HS2.out (HR2.out.below B1.out (Nat.le_refl _))).mono ?_
    rw [HF2.out]
    rintro r w9 ⟨rfl, rfl⟩
    go_wp2_with fail
    refine (liveK_any HK.out _).mono ?_
    rintro r w2 ⟨rfl, hb⟩
    have B2 := Lib.hid (B1.out.trans (hb.mono B1.out.size))
    clear hb
    go_wp2
    go_ret
    exact ⟨rfl, B2.out⟩

  exact walk_few K kind A1 c1 l1 A2 c2 l2 w hs1 hs2 hr1 hr2 hf1 hf2 hc1 hc2 hz1 hz2
end Go.Proofs.Ytaldjfijcoppiaa.keyUnder
