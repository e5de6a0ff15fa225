/-
  Package value: what Parse asks: words, what stands behind a backslash.
-/
import Derived.Test.YtepniiaojhiogaaDoorVDO
namespace Go.Proofs.YtepniiaojhiogaaDoor
open Go.RowKit

theorem same_from' {P : Program} {f : FuncId} {args : Array Value} {v : Value} {W wx : World} (hb : Below W.heap.size W wx) (h : Calls P f args wx fun r w' => r = .returned v ∧ w' = wx) :
    Calls P f args wx fun r w' => r = .returned v ∧ Below W.heap.size W w' := h.mono fun _ _ ⟨a, b⟩ => ⟨a, by rw [b]; exact hb⟩
theorem ba_eqb {s t : ByteArray} (h : s.data.toList ≠ t.data.toList) : (s.toList == t.toList) = false := by
  rw [beq_eq_false_iff_ne, ByteArray.toList_eq, ByteArray.toList_eq]; exact h
theorem word_no (s p : ByteArray) (hs : s.data.toList.take p.size ≠ p.data.toList) (hn : s.size ≤ 4611686018427387904) (w : World) :
    Calls Tryd.prog 51 #[.string s, .string p] w fun e w' => e = .returned (.bool false) ∧ w' = w := by
  have H := Lib.hid (cut_no s p hs hn w)
  clear hs
  go_enter Tryd.func51, Tryd.ntmps51
  go_wp2_with (go_at_call 73; refine H.out.mono ?_; rintro r w' ⟨rfl, rfl⟩)
  go_ret
  exact ⟨rfl, rfl⟩
set_option maxHeartbeats 1000000 in
theorem word_yes (s p : ByteArray) (r : List UInt8) (hs : s.data.toList = p.data.toList ++ r) (hn : s.size ≤ 4611686018427387904) (hm : moreOk 2 r = true) (w : World) :
    Calls Tryd.prog 51 #[.string s, .string p] w fun e w' => e = .returned (.bool true) ∧ w' = w := by
  have H := Lib.hid (cut_yes s p r hs hn w)
  clear hs
  cases r with
  | nil =>
    rw [show (⟨([] : List UInt8).toArray⟩ : ByteArray) = ⟨#[]⟩ from rfl] at H
    go_enter Tryd.func51, Tryd.ntmps51
    go_wp2_with (go_at_call 73; refine H.out.mono ?_; rintro r w' ⟨rfl, rfl⟩)
    go_ret
    exact ⟨rfl, rfl⟩
  | cons c t =>
    have hw : isWord c = false := by simpa [moreOk] using hm
    have e0 : (⟨(c :: t).toArray⟩ : ByteArray).toList.isEmpty = false := by rw [ByteArray.toList_eq]; rfl
    have e1 : ¬ (⟨(c :: t).toArray⟩ : ByteArray).toList = [] := by rw [ByteArray.toList_eq]; simp
    have hz : 0 < (⟨(c :: t).toArray⟩ : ByteArray).size := by simp [ByteArray.size]
    have hc0 : (⟨(c :: t).toArray⟩ : ByteArray)[0] = c := rfl
    have hnum : isNum c = false := by
      unfold isWord at hw
      cases h : isNum c
      · rfl
      · rw [h] at hw; simp at hw
    have HD := Lib.hid (digit_any c)
    rw [hnum] at HD
    have h45 : ((c.toNat : Int) == 45) = false := v8_ne (n := 45) (by omega) (fun h => by
      have h' : c = 45 := h
      unfold isWord at hw
      rw [h'] at hw
      simp at hw)
    have h45' : ((c.toNat : Int) != 45) = true := by rw [bne, h45]; rfl
    have hlet : ¬ (97 ≤ c.toNat ∧ c.toNat ≤ 122) := fun h => by
      unfold isWord at hw
      simp [h.1, h.2] at hw
    generalize (⟨(c :: t).toArray⟩ : ByteArray) = z at *
    clear hm hw hnum
    by_cases hlo : c.toNat < 97
    · have b1 : decide ((c.toNat : Int) < 97) = true := by rw [decide_eq_true_iff]; omega
      clear hlet
      subst hc0
      go_enter Tryd.func51, Tryd.ntmps51
      go_wp2_with (first | (go_at_call 73; refine H.out.mono ?_; rintro r w' ⟨rfl, rfl⟩) | (go_at_call 47; refine (HD.out _).mono ?_; rintro r w' ⟨rfl, rfl⟩))
      go_ret
      exact ⟨rfl, rfl⟩
    · have b1 : decide ((c.toNat : Int) < 97) = false := by rw [decide_eq_false_iff_not]; omega
      have b2 : decide ((122 : Int) < (c.toNat : Int)) = true := by rw [decide_eq_true_iff]; omega
      clear hlet
      subst hc0
      go_enter Tryd.func51, Tryd.ntmps51
      go_wp2_with (first | (go_at_call 73; refine H.out.mono ?_; rintro r w' ⟨rfl, rfl⟩) | (go_at_call 47; refine (HD.out _).mono ?_; rintro r w' ⟨rfl, rfl⟩))
      go_ret
      exact ⟨rfl, rfl⟩

theorem at_list (s : ByteArray) (l : List UInt8) (hs : s.data.toList = l) (j : Nat) (h : j < s.size) : s[j] = l[j]'(by rw [← hs]; exact h) := by
  subst hs
  rfl
theorem digB_ne : ∀ d : Fin 16, digB d.val ≠ 34 ∧ digB d.val ≠ 92 := by decide
theorem hex_at : ∀ d : Fin 16, Lib.indexByte [48, 49, 50, 51, 52, 53, 54, 55, 56, 57, 97, 98, 99, 100, 101, 102] (digB d.val) = (d.val : Int) := by decide

set_option maxHeartbeats 1000000 in
theorem esc_two (s : ByteArray) (c : UInt8) (r : List UInt8) (hs : s.data.toList = 92 :: c :: r) (hc : c = 34 ∨ c = 92) (hn : s.size ≤ 4611686018427387904) (w : World) :
    Calls Tryd.prog 72 #[.string s] w fun e w' => e = .returned (.tuple #[.int .u8 (c.toNat : Int), .int .i64 2, .int .i64 0]) ∧ w' = w := by
  have hl : s.size = r.length + 2 := by
    show s.data.toList.length = _
    rw [hs]; rfl
  have h1 : 1 < s.size := by omega
  have hb1 : ((s.size : Int) == 1) = false := by rw [beq_eq_false_iff_ne]; omega
  have hi1 : decide ((1 : Int) < (s.size : Int)) = true := by rw [decide_eq_true_iff]; omega
  have hx : s[1] = c := by rw [at_list s _ hs 1 h1]; rfl
  have key : (((s[1].toNat : Int) == 34) = true ∧ True) ∨ (((s[1].toNat : Int) == 34) = false ∧ ((s[1].toNat : Int) == 92) = true) := by
    rw [hx]
    rcases hc with rfl | rfl
    · exact .inl ⟨rfl, trivial⟩
    · exact .inr ⟨rfl, rfl⟩
  have HX := Lib.hid hx
  clear hs hl hc hx
  rcases key with ⟨k1, k2⟩ | ⟨k1, k2⟩
  all_goals
    go_enter Tryd.func72, Tryd.ntmps72
    go_wp2
    go_ret3
    rw [HX.out]
    exact ⟨rfl, rfl⟩

set_option maxRecDepth 100000 in
set_option maxHeartbeats 2000000 in
theorem esc_three (s : ByteArray) (c : UInt8) (r : List UInt8) (hs : s.data.toList = 92 :: digB (c.toNat / 16) :: digB (c.toNat % 16) :: r) (hc : plainB c = false) (hn : s.size ≤ 4611686018427387904) (w : World) :
    Calls Tryd.prog 72 #[.string s] w fun e w' => e = .returned (.tuple #[.int .u8 (c.toNat : Int), .int .i64 3, .int .i64 0]) ∧ Below w.heap.size w w' := by
  have hl : s.size = r.length + 3 := by
    show s.data.toList.length = _
    rw [hs]; rfl
  have h1 : 1 < s.size := by omega
  have h2 : 2 < s.size := by omega
  have hb1 : ((s.size : Int) == 1) = false := by rw [beq_eq_false_iff_ne]; omega
  have hb2 : ((s.size : Int) == 2) = false := by rw [beq_eq_false_iff_ne]; omega
  have hi1 : decide ((1 : Int) < (s.size : Int)) = true := by rw [decide_eq_true_iff]; omega
  have hi2 : (2 : Int) < (s.size : Int) := by omega
  have hx1 : s[1] = digB (c.toNat / 16) := by rw [at_list s _ hs 1 h1]; rfl
  have hx2 : s[2] = digB (c.toNat % 16) := by rw [at_list s _ hs 2 h2]; rfl
  have hcl := c.toNat_lt
  have n1 := digB_ne ⟨c.toNat / 16, by omega⟩
  have k1 : ((s[1].toNat : Int) == 34) = false := by rw [hx1]; exact v8_ne (n := 34) (by omega) n1.1
  have k2 : ((s[1].toNat : Int) == 92) = false := by rw [hx1]; exact v8_ne (n := 92) (by omega) n1.2
  have u8 : ∀ b : UInt8, ((b.toNat : Int)).toNat.toUInt8 = b := fun b => by simp
  have i1 : ∀ w, Calls Tryd.prog 89 #[.string ⟨#[48, 49, 50, 51, 52, 53, 54, 55, 56, 57, 97, 98, 99, 100, 101, 102]⟩, .int .u8 (s[1].toNat : Int)] w fun e w' => e = .returned (.int .i64 ((c.toNat / 16 : Nat) : Int)) ∧ w' = w := fun w => by
    have := indexByte_any ⟨#[48, 49, 50, 51, 52, 53, 54, 55, 56, 57, 97, 98, 99, 100, 101, 102]⟩ (s[1].toNat : Int) w
    rw [u8, hx1] at this
    rw [hx1]
    rw [show (⟨#[48, 49, 50, 51, 52, 53, 54, 55, 56, 57, 97, 98, 99, 100, 101, 102]⟩ : ByteArray).data.toList = [48, 49, 50, 51, 52, 53, 54, 55, 56, 57, 97, 98, 99, 100, 101, 102] from rfl, hex_at ⟨c.toNat / 16, by omega⟩] at this
    exact this
  have i2 : ∀ w, Calls Tryd.prog 89 #[.string ⟨#[48, 49, 50, 51, 52, 53, 54, 55, 56, 57, 97, 98, 99, 100, 101, 102]⟩, .int .u8 (s[2].toNat : Int)] w fun e w' => e = .returned (.int .i64 ((c.toNat % 16 : Nat) : Int)) ∧ w' = w := fun w => by
    have := indexByte_any ⟨#[48, 49, 50, 51, 52, 53, 54, 55, 56, 57, 97, 98, 99, 100, 101, 102]⟩ (s[2].toNat : Int) w
    rw [u8, hx2] at this
    rw [hx2]
    rw [show (⟨#[48, 49, 50, 51, 52, 53, 54, 55, 56, 57, 97, 98, 99, 100, 101, 102]⟩ : ByteArray).data.toList = [48, 49, 50, 51, 52, 53, 54, 55, 56, 57, 97, 98, 99, 100, 101, 102] from rfl, hex_at ⟨c.toNat % 16, by omega⟩] at this
    exact this
  have I1 := Lib.hid i1
  have I2 := Lib.hid i2
  have HPl := Lib.hid (plain_any c)
  rw [hc] at HPl
  obtain ⟨hi, hhi⟩ : ∃ hi : Nat, hi = c.toNat / 16 := ⟨_, rfl⟩
  obtain ⟨lo, hlo⟩ : ∃ lo : Nat, lo = c.toNat % 16 := ⟨_, rfl⟩
  rw [← hhi] at I1
  rw [← hlo] at I2
  have hsum : 16 * (hi : Int) + (lo : Int) = (c.toNat : Int) := by omega
  rw [← hsum] at HPl
  have HSum := Lib.hid hsum
  clear hsum
  have g1 : decide ((hi : Int) < 0) = false := by simp
  have g2 : decide ((lo : Int) < 0) = false := by simp
  have hhi16 : hi < 16 := by omega
  have hlo16 : lo < 16 := by omega
  clear hs hl hc hx1 hx2 n1 u8 i1 i2 hhi hlo hcl
  go_enter Tryd.func72, Tryd.ntmps72
  go_upto_region 7 with fail
  refine wp_region_class' (C := fun w' => Below w.heap.size w w') (by kernel_rfl) (by kernel_rfl) (Below.refl _ _).drew ?_
  have J1 := Lib.hid (fun (wx : World) (hb : Below w.heap.size w wx) => same_from' hb (I1.out wx))
  have J2 := Lib.hid (fun (wx : World) (hb : Below w.heap.size w wx) => same_from' hb (I2.out wx))
  quiet_step ((intro _; exact rfl))
  quiet_step ((intro _; exact rfl))
  quiet_step ((intro hw; with_reducible exact J1.out _ hw))
  quiet_step ((intro _; exact rfl))
  quiet_step ((intro _; exact rfl))
  quiet_step ((intro hw; with_reducible exact J2.out _ hw))
  quiet_step ((intro _; exact rfl))
  quiet_step ((intro _; exact rfl))
  refine wpQuiet_nil ?_
  intro w8 hb8
  have HB := Lib.hid hb8
  clear hb8
  go_wp2_with (go_at_call 68; refine (HPl.out _).mono ?_; rintro r w' ⟨rfl, rfl⟩)
  go_ret3
  exact ⟨by rw [← HSum.out]; rfl, HB.out⟩
end Go.Proofs.YtepniiaojhiogaaDoor
