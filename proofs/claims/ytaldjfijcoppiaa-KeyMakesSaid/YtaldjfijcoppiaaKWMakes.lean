/-
  The walk of KeyMakes, from the contracts of package key.
-/
import Derived.Test.YtaldjfijcoppiaaKWBack
import Derived.Test.YtaldjfijcoppiaaKWAfter
namespace Go.Proofs.Ytaldjfijcoppiaa.keyMakes
open Go.RowKit

theorem parse_len (L : List UInt8) : (parseL L).2.1.length ≤ L.length := by
  rcases keyBack.parse_cases L with h | ⟨c, ps, h1, h2⟩
  · rw [h]; exact Nat.zero_le _
  · rw [h2, h1]
    have := (keyBack.enc_all ps).1
    rw [List.length_cons]
    show ps.length ≤ _
    omega
def RetP (a : Int) (ps : List (List UInt8)) (e : Int) (w : World) (r : Ending) (w' : World) : Prop :=
  ∃ A c, r = .returned (.tuple #[.int .u8 a, .slice A ps.length c, .int .i64 e]) ∧ RowS w' w.heap.size w'.heap.size A (ps.map toBA) ∧ Below w.heap.size w w'
theorem ret_gen {L : List UInt8} {a : Int} {ps : List (List UInt8)} {e : Int} {w w' : World} {r : Ending} (h : parseL L = (a, ps, e)) (hr : RetParse L w r w') : RetP a ps e w r w' := by
  obtain ⟨A, c, rfl, _, _, hr, hb⟩ := hr
  rw [h] at *
  exact ⟨A, c, rfl, hr, hb⟩

set_option maxRecDepth 100000 in
set_option maxHeartbeats 2000000 in
theorem walk (K : KeyC) (kind : UInt8) (A1 : Option Addr) (c1 : Nat) (l1 : List ByteArray) (k : ByteArray) (w : World) (hm1 : l1.length ≤ maxLen) (hs1 : ∀ p ∈ l1, p.size ≤ maxLen) (hs : k.size ≤ reachBytes) (hr1 : RowS w 0 w.heap.size A1 l1)
    (hc1 : l1.length ≤ c1) (hz1 : A1 = none → c1 = 0) :
    Calls Try.prog 3 #[.int .u8 kind.toNat, .slice A1 l1.length c1, .string k] w fun e w' => e = .returned (.bool true) ∧ Below w.heap.size w w' := by
  have HK := Lib.hid K
  have HS1 := Lib.hid hs1
  have HR1 := Lib.hid hr1
  have HL1 := Lib.hid hm1
  unfold reachBytes at hs
  by_cases hf1 : fewK l1 = true
  case neg =>
    have hf1 : fewK l1 = false := by simpa using hf1
    have HF1 := Lib.hid hf1
    clear K hs1 hr1 hm1 hf1 hc1 hz1
    go_enter Try.func3, Try.ntmps3
    go_wp2_with fail
    refine (liveK_any HK.out _).mono ?_
    rintro r w1 ⟨rfl, hb⟩
    have B1 := Lib.hid hb
    clear hb
    go_wp2_with fail
    refine (fewK_any A1 _ c1 l1 0 w.heap.size w1 rfl HL1.out HS1.out (HR1.out.below B1.out (Nat.le_refl _))).mono ?_
    rw [HF1.out]
    rintro r w9 ⟨rfl, rfl⟩
    go_wp2_with fail
    refine (liveK_any HK.out _).mono ?_
    rintro r w2 ⟨rfl, hb⟩
    have B2 := Lib.hid (B1.out.trans (hb.mono B1.out.size))
    clear hb
    go_wp2
    go_ret
    exact ⟨rfl, B2.out⟩
  have HF1 := Lib.hid hf1
  by_cases h : k.size ≤ 1000
  case neg =>
    have d1 : decide ((1000 : Int) < (k.size : Int)) = true := by rw [decide_eq_true_iff]; omega
    clear K hs1 hr1 hm1 hf1 hc1 hz1
    go_enter Try.func3, Try.ntmps3
    go_wp2_with fail
    refine (liveK_any HK.out _).mono ?_
    rintro r w1 ⟨rfl, hb⟩
    have B1 := Lib.hid hb
    clear hb
    go_wp2_with fail
    refine (fewK_any A1 _ c1 l1 0 w.heap.size w1 rfl HL1.out HS1.out (HR1.out.below B1.out (Nat.le_refl _))).mono ?_
    rw [HF1.out]
    rintro r w9 ⟨rfl, rfl⟩
    go_wp2_with fail
    refine (liveK_any HK.out _).mono ?_
    rintro r w2 ⟨rfl, hb⟩
    have B2 := Lib.hid (B1.out.trans (hb.mono B1.out.size))
    clear hb
    go_wp2
    go_ret
    exact ⟨rfl, B2.out⟩
  have d1 : decide ((1000 : Int) < (k.size : Int)) = false := by rw [decide_eq_false_iff_not]; omega
  have h20 := (fewK_yes hf1).2
  have hks := (fewK_yes hf1).1
  have hkl : k.data.toList.length = k.size := rfl
  have hlen : (keyB kind l1).length ≤ 4041 := by
    have := keyBack.enc_few l1 hks
    unfold keyB
    rw [List.length_cons]
    omega
  obtain ⟨a, ps, e, hE⟩ : ∃ a ps e, parseL k.data.toList = (a, ps, e) := ⟨_, _, _, rfl⟩
  have hps : ps.length ≤ 1000 := by
    have := parse_len k.data.toList
    rw [hE] at this
    have h9 : ps.length ≤ k.data.toList.length := this
    omega
  have HPS := Lib.hid (show (ps.map toBA).length ≤ 5000 by rw [List.length_map]; omega)
  have HPL := Lib.hid (show ps.length = (ps.map toBA).length by rw [List.length_map])
  have HM := Lib.hid (fun w' (hb : Below w.heap.size w w') => HK.out.make kind A1 l1.length c1 l1 0 w.heap.size w' rfl (by omega) (fun p hp => Nat.le_trans (hks p hp) (by omega)) (hr1.below hb (Nat.le_refl _)) hb.size hz1 hc1)
  have HU := Lib.hid (fun w' (hb : Below w.heap.size w w') => HK.out.under kind A1 l1.length c1 l1 0 w.heap.size w' rfl h20 hks (hr1.below hb (Nat.le_refl _)) hb.size hz1 hc1)
  have HRM := Lib.hid (fun w' (hb : Below w.heap.size w w') => refMake_any kind A1 l1.length c1 l1 0 w.heap.size w' rfl (by omega) (fun p hp => Nat.le_trans (hks p hp) (by omega)) (hr1.below hb (Nat.le_refl _)) hb.size)
  have HRA := Lib.hid (fun w' => refAfter_any _ (keyB kind l1) w' rfl (by omega))
  have HP0 := fun w' => (HK.out.parse k.data.toList w' (by omega)).mono fun r w2 hr => ret_gen hE hr
  have HR0 := fun w' => (refParse_l k.data.toList w' (by omega)).mono fun r w2 hr => ret_gen hE hr
  have HN0 := fun w' => HK.out.name k.data.toList w' (by omega)
  rw [keyAfter.ba_self] at HP0 HR0 HN0
  have HRN := Lib.hid (fun w' => refName_any k w' (by omega))
  have HP := Lib.hid HP0
  have HR := Lib.hid HR0
  have HN := Lib.hid HN0
  generalize (⟨(keyB kind l1).toArray⟩ : ByteArray) = key at *
  generalize (⟨(afterL (keyB kind l1)).toArray⟩ : ByteArray) = aft at *
  generalize nameL k.data.toList = nb at *
  clear K hs1 hr1 hm1 hf1 hc1 hz1 hE hkl hks hlen HP0 HR0 HN0
  cases nb
  all_goals
    go_enter Try.func3, Try.ntmps3
    go_wp2_with fail
    refine (liveK_any HK.out _).mono ?_
    rintro r w1 ⟨rfl, hb⟩
    have B1 := Lib.hid hb
    clear hb
    go_wp2_with fail
    refine (fewK_any A1 _ c1 l1 0 w.heap.size w1 rfl HL1.out HS1.out (HR1.out.below B1.out (Nat.le_refl _))).mono ?_
    rw [HF1.out]
    rintro r w9 ⟨rfl, rfl⟩
    go_wp2_with fail
    refine (HP.out w1).mono ?_
    rintro r w2 ⟨A2, c2, rfl, hr, hb⟩
    have R2 := Lib.hid (And.intro hr (Nat.le_refl w2.heap.size))
    have B2 := Lib.hid (B1.out.trans (hb.mono B1.out.size))
    clear hb hr
    go_wp2_with fail
    refine (HR.out w2).mono ?_
    rintro r w3 ⟨A3, c3, rfl, hr, hb⟩
    have R3 := Lib.hid hr
    have R23 := Lib.hid (R2.out.1.below hb (Nat.le_refl _))
    have S23 := Lib.hid hb.size
    have B3 := Lib.hid (B2.out.trans (hb.mono B2.out.size))
    have B33 := Lib.hid (Below.refl w3.heap.size w3)
    clear hb hr R2
    go_wp2_with fail
    refine (HU.out w3 B3.out).mono ?_
    rintro r w4 ⟨rfl, hb⟩
    have B4 := Lib.hid (B3.out.trans (hb.mono B3.out.size))
    have B34 := Lib.hid hb
    clear hb
    go_wp2_with fail
    refine (HRM.out w4 B4.out).mono ?_
    rintro r w5 ⟨rfl, hb⟩
    have B5 := Lib.hid (B4.out.trans (hb.mono B4.out.size))
    have B35 := Lib.hid (B34.out.trans (hb.mono B34.out.size))
    clear hb
    go_wp2_with fail
    refine (HM.out w5 B5.out).mono ?_
    rintro r w6 ⟨rfl, hb⟩
    have B6 := Lib.hid (B5.out.trans (hb.mono B5.out.size))
    have B36 := Lib.hid (B35.out.trans (hb.mono B35.out.size))
    clear hb
    go_wp2_with fail
    refine (same_any A2 A3 ps.length ps.length c2 c3 _ _ _ _ (ps.map toBA) (ps.map toBA) w6 HPL.out HPL.out (R23.out.below B36.out S23.out) (R3.out.below B36.out (Nat.le_refl _)) HPS.out).mono ?_
    rw [decide_eq_true (rfl : ps.map toBA = ps.map toBA)]
    rintro r w7 ⟨rfl, hb⟩
    have B7 := Lib.hid (B6.out.trans (hb.mono B6.out.size))
    clear hb
    go_wp2_with fail
    refine (HN.out w7).mono ?_
    rintro r w8 ⟨rfl, hb⟩
    have B8 := Lib.hid (B7.out.trans (hb.mono B7.out.size))
    clear hb
    go_wp2_with fail
    refine (HRN.out w8).mono ?_
    rintro r w9 ⟨rfl, rfl⟩
    go_wp2_with fail
    refine (HRA.out w8).mono ?_
    rintro r w10 ⟨rfl, hb⟩
    have B10 := Lib.hid (B8.out.trans (hb.mono B8.out.size))
    clear hb
    go_wp2
    go_ret
    exact ⟨rfl, B10.out⟩
end Go.Proofs.Ytaldjfijcoppiaa.keyMakes
