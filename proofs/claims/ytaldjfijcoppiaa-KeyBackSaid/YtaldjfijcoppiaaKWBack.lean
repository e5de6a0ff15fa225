/-
  The walk of KeyBack, from the contracts of package key.
-/
import Derived.Test.YtaldjfijcoppiaaKCon
namespace Go.Proofs.Ytaldjfijcoppiaa.keyBack
open Go.RowKit

theorem enc_few (l : List ByteArray) (h : ∀ p ∈ l, p.size ≤ 100) : (encAll (l.map (·.data.toList))).length ≤ 202 * l.length := by
  induction l with
  | nil => exact Nat.le_refl _
  | cons p l ih =>
    have h1 := ih fun q hq => h q (List.mem_cons_of_mem _ hq)
    have h2 := encP_len p.data.toList
    have h3 : p.data.toList.length = p.size := rfl
    have h4 := h p (by simp)
    rw [List.map_cons, encAll_cons, List.length_append, List.length_cons]
    omega
theorem encP_ge (x : List UInt8) : x.length + 2 ≤ (encP x).length := by
  induction x with
  | nil => exact Nat.le_refl _
  | cons c x ih =>
    unfold encP at *
    rw [encL_cons]
    rw [List.length_append, List.length_append] at *
    have : 1 ≤ (encB c).length := by unfold encB; split <;> simp
    rw [List.length_cons]
    omega
theorem enc_all (ps : List (List UInt8)) : ps.length ≤ (encAll ps).length ∧ ∀ p ∈ ps, p.length ≤ (encAll ps).length := by
  induction ps with
  | nil => exact ⟨Nat.le_refl _, fun p hp => by cases hp⟩
  | cons x ps ih =>
    have := encP_ge x
    rw [encAll_cons, List.length_append, List.length_cons]
    refine ⟨by omega, fun p hp => ?_⟩
    rcases List.mem_cons.1 hp with rfl | hp
    · omega
    · have := ih.2 p hp
      omega
theorem parse_key (kind : UInt8) (l : List ByteArray) : parseL (keyB kind l) = ((kind.toNat : Int), l.map (·.data.toList), 0) :=
  parseL_some (parts_enc _ _ (Nat.le_refl _))
theorem back_map (l : List ByteArray) : (l.map (·.data.toList)).map toBA = l := by
  rw [List.map_map]
  conv => rhs; rw [← List.map_id l]
  apply List.map_congr_left
  intro p _
  rfl
theorem to_back (ps : List (List UInt8)) : (ps.map toBA).map (·.data.toList) = ps := by
  rw [List.map_map]
  conv => rhs; rw [← List.map_id ps]
  apply List.map_congr_left
  intro p _
  rfl
theorem parse_cases (L : List UInt8) : parseL L = (0, [], 31) ∨ ∃ c ps, L = c :: encAll ps ∧ parseL L = ((c.toNat : Int), ps, 0) := by
  cases L with
  | nil => exact .inl rfl
  | cons c t =>
    cases h : partsL t.length t with
    | none => exact .inl (parseL_none h)
    | some ps => exact .inr ⟨c, ps, by rw [← parts_some _ h], parseL_some h⟩

theorem parse_own (K : KeyC) (kind : UInt8) (l : List ByteArray) (w : World) (h : fewK l = true) :
    Calls Try.prog 11 #[.string ⟨(keyB kind l).toArray⟩] w fun r w' => ∃ A c, r = .returned (.tuple #[.int .u8 kind.toNat, .slice A l.length c, .int .i64 0]) ∧ RowS w' w.heap.size w'.heap.size A l ∧ Below w.heap.size w w' := by
  have h1 := enc_few l (fewK_yes h).1
  have h2 := (fewK_yes h).2
  refine (K.parse (keyB kind l) w (by unfold keyB; rw [List.length_cons]; omega)).mono ?_
  rintro r w1 ⟨A, c, rfl, _, _, hr, hb⟩
  rw [parse_key] at *
  refine ⟨A, c, ?_, ?_, hb⟩
  · rw [List.length_map]
  · have := hr
    rw [back_map] at this
    exact this
theorem parse_no (K : KeyC) (k : ByteArray) (w : World) (h : k.size ≤ 1000) (hp : parseL k.data.toList = (0, [], 31)) :
    Calls Try.prog 11 #[.string k] w fun r w' => ∃ A c, r = .returned (.tuple #[.int .u8 0, .slice A 0 c, .int .i64 31]) ∧ Below w.heap.size w w' := by
  have h1 : k.data.toList.length = k.size := rfl
  refine (K.parse k.data.toList w (by omega)).mono ?_
  rintro r w1 ⟨A, c, rfl, _, _, hr, hb⟩
  rw [hp]
  exact ⟨A, c, rfl, hb⟩
theorem parse_yes (K : KeyC) (k : ByteArray) (w : World) (h : k.size ≤ 1000) (c : UInt8) (ps : List (List UInt8)) (hp : parseL k.data.toList = ((c.toNat : Int), ps, 0)) :
    Calls Try.prog 11 #[.string k] w fun r w' => ∃ A n, r = .returned (.tuple #[.int .u8 c.toNat, .slice A ps.length n, .int .i64 0]) ∧ ps.length ≤ n ∧ (A = none → n = 0) ∧ RowS w' w.heap.size w'.heap.size A (ps.map toBA) ∧ Below w.heap.size w w' := by
  have h1 : k.data.toList.length = k.size := rfl
  refine (K.parse k.data.toList w (by omega)).mono ?_
  rintro r w1 ⟨A, n, rfl, h2, h3, hr, hb⟩
  rw [hp] at *
  exact ⟨A, n, rfl, h2, h3, hr, hb⟩
theorem make_back (K : KeyC) (k : ByteArray) (h : k.size ≤ 1000) (c : UInt8) (ps : List (List UInt8)) (hk : k.data.toList = c :: encAll ps) (A : Option Addr) (n lo hi : Nat) (w : World) (h2 : ps.length ≤ n) (h3 : A = none → n = 0) (hr : RowS w lo hi A (ps.map toBA)) (hh : hi ≤ w.heap.size) :
    Calls Try.prog 15 #[.int .u8 c.toNat, .slice A ps.length n] w fun r w' => r = .returned (.string k) ∧ Below w.heap.size w w' := by
  have h1 : k.data.toList.length = k.size := rfl
  have h4 := enc_all ps
  rw [hk, List.length_cons] at h1
  refine (K.make c A ps.length n (ps.map toBA) lo hi w (by simp) (by omega) ?_ hr hh h3 h2).mono ?_
  · intro p hp
    obtain ⟨q, hq, rfl⟩ := List.mem_map.1 hp
    have := h4.2 q hq
    show q.toArray.size ≤ _
    simp
    omega
  · rintro r w1 ⟨rfl, hb⟩
    refine ⟨?_, hb⟩
    have : keyB c (ps.map toBA) = k.data.toList := by
      unfold keyB
      rw [to_back, hk]
    rw [this]

set_option maxRecDepth 100000 in
set_option maxHeartbeats 2000000 in
theorem walk (K : KeyC) (kind : UInt8) (A1 : Option Addr) (c1 : Nat) (l1 : List ByteArray) (k : ByteArray) (w : World) (hm1 : l1.length ≤ maxLen) (hs1 : ∀ p ∈ l1, p.size ≤ maxLen) (hs : k.size ≤ reachBytes) (hr1 : RowS w 0 w.heap.size A1 l1)
    (hc1 : l1.length ≤ c1) (hz1 : A1 = none → c1 = 0) :
    Calls Try.prog 5 #[.int .u8 kind.toNat, .slice A1 l1.length c1, .string k] w fun e w' => e = .returned (.bool true) ∧ Below w.heap.size w w' := by
  have HK := Lib.hid K
  have HS1 := Lib.hid hs1
  have HR1 := Lib.hid hr1
  have HL1 := Lib.hid hm1
  unfold reachBytes at hs
  by_cases hf1 : fewK l1 = true
  case neg =>
    have hf1 : fewK l1 = false := by simpa using hf1
    have HF1 := Lib.hid hf1
    clear K hs1 hr1 hm1 hf1 hc1 hz1
    go_enter Try.func5, Try.ntmps5
    go_wp2_with fail
    refine (liveK_any HK.out _).mono ?_
    rintro r w1 ⟨rfl, hb⟩
    have B1 := Lib.hid hb
    clear hb
    go_wp2_with fail
    refine (fewK_any A1 _ c1 l1 0 w.heap.size w1 rfl HL1.out HS1.out (HR1.out.below B1.out (Nat.le_refl _))).mono ?_
    rw [HF1.out]
    rintro r w9 ⟨rfl, rfl⟩
    go_wp2_with fail
    refine (liveK_any HK.out _).mono ?_
    rintro r w2 ⟨rfl, hb⟩
    have B2 := Lib.hid (B1.out.trans (hb.mono B1.out.size))
    clear hb
    go_wp2
    go_ret
    exact ⟨rfl, B2.out⟩
  have HF1 := Lib.hid hf1
  by_cases h : k.size ≤ 1000
  case neg =>
    have d1 : decide ((1000 : Int) < (k.size : Int)) = true := by rw [decide_eq_true_iff]; omega
    clear K hs1 hr1 hm1 hf1 hc1 hz1
    go_enter Try.func5, Try.ntmps5
    go_wp2_with fail
    refine (liveK_any HK.out _).mono ?_
    rintro r w1 ⟨rfl, hb⟩
    have B1 := Lib.hid hb
    clear hb
    go_wp2_with fail
    refine (fewK_any A1 _ c1 l1 0 w.heap.size w1 rfl HL1.out HS1.out (HR1.out.below B1.out (Nat.le_refl _))).mono ?_
    rw [HF1.out]
    rintro r w9 ⟨rfl, rfl⟩
    go_wp2_with fail
    refine (liveK_any HK.out _).mono ?_
    rintro r w2 ⟨rfl, hb⟩
    have B2 := Lib.hid (B1.out.trans (hb.mono B1.out.size))
    clear hb
    go_wp2
    go_ret
    exact ⟨rfl, B2.out⟩
  have d1 : decide ((1000 : Int) < (k.size : Int)) = false := by rw [decide_eq_false_iff_not]; omega
  have h20 := (fewK_yes hf1).2
  have HM := Lib.hid (fun w' (hb : Below w.heap.size w w') => HK.out.make kind A1 l1.length c1 l1 0 w.heap.size w' rfl (by omega) (fun p hp => Nat.le_trans ((fewK_yes hf1).1 p hp) (by omega)) (hr1.below hb (Nat.le_refl _)) hb.size hz1 hc1)
  have HP := Lib.hid (fun w' => parse_own HK.out kind l1 w' hf1)
  have H5 := Lib.hid (show l1.length ≤ 5000 by omega)
  generalize hkey : (⟨(keyB kind l1).toArray⟩ : ByteArray) = key at *
  rcases parse_cases k.data.toList with hp | ⟨c, ps, hk, hp⟩
  · have HQ := Lib.hid (fun w' => parse_no HK.out k w' h hp)
    clear K hs1 hr1 hm1 hf1 hc1 hz1 hp hkey
    go_enter Try.func5, Try.ntmps5
    go_wp2_with fail
    refine (liveK_any HK.out _).mono ?_
    rintro r w1 ⟨rfl, hb⟩
    have B1 := Lib.hid hb
    clear hb
    go_wp2_with fail
    refine (fewK_any A1 _ c1 l1 0 w.heap.size w1 rfl HL1.out HS1.out (HR1.out.below B1.out (Nat.le_refl _))).mono ?_
    rw [HF1.out]
    rintro r w9 ⟨rfl, rfl⟩
    go_wp2_with fail
    refine (HM.out w1 B1.out).mono ?_
    rintro r w2 ⟨rfl, hb⟩
    have B2 := Lib.hid (B1.out.trans (hb.mono B1.out.size))
    clear hb B1
    go_wp2_with fail
    refine (HP.out w2).mono ?_
    rintro r w3 ⟨A3, c3, rfl, hr3, hb⟩
    have B3 := Lib.hid (B2.out.trans (hb.mono B2.out.size))
    have R3 := Lib.hid hr3
    clear hb hr3
    go_wp2_with fail
    refine (same_any A3 A1 l1.length l1.length c3 c1 _ _ 0 w.heap.size l1 l1 w3 rfl rfl R3.out (HR1.out.below B3.out (Nat.le_refl _)) H5.out).mono ?_
    rw [decide_eq_true (rfl : l1 = l1)]
    rintro r w4 ⟨rfl, hb⟩
    have B4 := Lib.hid (B3.out.trans (hb.mono B3.out.size))
    clear hb
    go_wp2_with fail
    refine (HQ.out w4).mono ?_
    rintro r w5 ⟨A5, c5, rfl, hb⟩
    have B5 := Lib.hid (B4.out.trans (hb.mono B4.out.size))
    clear hb
    go_wp2
    go_ret
    exact ⟨rfl, B5.out⟩
  · have HQ := Lib.hid (fun w' => parse_yes HK.out k w' h c ps hp)
    have HB := Lib.hid (make_back HK.out k h c ps hk)
    clear K hs1 hr1 hm1 hf1 hc1 hz1 hp hkey hk
    go_enter Try.func5, Try.ntmps5
    go_wp2_with fail
    refine (liveK_any HK.out _).mono ?_
    rintro r w1 ⟨rfl, hb⟩
    have B1 := Lib.hid hb
    clear hb
    go_wp2_with fail
    refine (fewK_any A1 _ c1 l1 0 w.heap.size w1 rfl HL1.out HS1.out (HR1.out.below B1.out (Nat.le_refl _))).mono ?_
    rw [HF1.out]
    rintro r w9 ⟨rfl, rfl⟩
    go_wp2_with fail
    refine (HM.out w1 B1.out).mono ?_
    rintro r w2 ⟨rfl, hb⟩
    have B2 := Lib.hid (B1.out.trans (hb.mono B1.out.size))
    clear hb B1
    go_wp2_with fail
    refine (HP.out w2).mono ?_
    rintro r w3 ⟨A3, c3, rfl, hr3, hb⟩
    have B3 := Lib.hid (B2.out.trans (hb.mono B2.out.size))
    have R3 := Lib.hid hr3
    clear hb hr3
    go_wp2_with fail
    refine (same_any A3 A1 l1.length l1.length c3 c1 _ _ 0 w.heap.size l1 l1 w3 rfl rfl R3.out (HR1.out.below B3.out (Nat.le_refl _)) H5.out).mono ?_
    rw [decide_eq_true (rfl : l1 = l1)]
    rintro r w4 ⟨rfl, hb⟩
    have B4 := Lib.hid (B3.out.trans (hb.mono B3.out.size))
    clear hb
    go_wp2_with fail
    refine (HQ.out w4).mono ?_
    rintro r w5 ⟨A5, c5, rfl, hn5, hz5, hr5, hb⟩
    have B5 := Lib.hid (B4.out.trans (hb.mono B4.out.size))
    have H6 := Lib.hid (HB.out A5 c5 _ _ w5 hn5 hz5 hr5 (Nat.le_refl _))
    clear hb hn5 hz5 hr5
    go_wp2_with fail
    refine (H6.out).mono ?_
    rintro r w6 ⟨rfl, hb⟩
    have B6 := Lib.hid (B5.out.trans (hb.mono B5.out.size))
    clear hb
    go_wp2
    go_ret
    exact ⟨rfl, B6.out⟩
end Go.Proofs.Ytaldjfijcoppiaa.keyBack
