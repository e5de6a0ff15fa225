import Derived.Test.YtfpjepeikjfkpaaGreatDoorZC14
/-
  Package value: what Parse asks: words, what stands behind a backslash.
-/
namespace Go.Proofs.YtfpjepeikjfkpaaGreatDoor
open Go.RowKit

theorem same_from' {P : Program} {f : FuncId} {args : Array Value} {v : Value} {W wx : World} (hb : Below W.heap.size W wx) (h : Calls P f args wx fun r w' => r = .returned v ∧ w' = wx) :
    Calls P f args wx fun r w' => r = .returned v ∧ Below W.heap.size W w' := h.mono fun _ _ ⟨a, b⟩ => ⟨a, by rw [b]; exact hb⟩
theorem ba_eqb {s t : ByteArray} (h : s.data.toList ≠ t.data.toList) : (s.toList == t.toList) = false := by
  rw [beq_eq_false_iff_ne, ByteArray.toList_eq, ByteArray.toList_eq]; exact h
theorem word_no (s p : ByteArray) (hs : s.data.toList.take p.size ≠ p.data.toList) (hn : s.size ≤ 4611686018427387904) (w : World) :
    Calls Tryz.prog 103 #[.string s, .string p] w fun e w' => e = .returned (.bool false) ∧ w' = w := by
  have H := Lib.hid (cut_no s p hs hn w)
  clear hs
  go_enter Tryz.func103, Tryz.ntmps103
  go_wp2_with (go_at_call 129; refine H.out.mono ?_; rintro r w' ⟨rfl, rfl⟩)
  go_ret
  exact ⟨rfl, rfl⟩
set_option maxHeartbeats 1000000 in
theorem word_yes (s p : ByteArray) (r : List UInt8) (hs : s.data.toList = p.data.toList ++ r) (hn : s.size ≤ 4611686018427387904) (hm : moreOk 2 r = true) (w : World) :
    Calls Tryz.prog 103 #[.string s, .string p] w fun e w' => e = .returned (.bool true) ∧ w' = w := by
  have H := Lib.hid (cut_yes s p r hs hn w)
  clear hs
  cases r with
  | nil =>
    rw [show (⟨([] : List UInt8).toArray⟩ : ByteArray) = ⟨#[]⟩ from rfl] at H
    go_enter Tryz.func103, Tryz.ntmps103
    go_wp2_with (go_at_call 129; refine H.out.mono ?_; rintro r w' ⟨rfl, rfl⟩)
    go_ret
    exact ⟨rfl, rfl⟩
  | cons c t =>
    have hw : isWord c = false := by simpa [moreOk] using hm
    have e0 : (⟨(c :: t).toArray⟩ : ByteArray).toList.isEmpty = false := by rw [ByteArray.toList_eq]; rfl
    have e1 : ¬ (⟨(c :: t).toArray⟩ : ByteArray).toList = [] := by rw [ByteArray.toList_eq]; simp
    have hz : 0 < (⟨(c :: t).toArray⟩ : ByteArray).size := by simp [ByteArray.size]
    have hc0 : (⟨(c :: t).toArray⟩ : ByteArray)[0] = c := rfl
    have hnum : isNum c = false := by
      unfold isWord at hw
      cases h : isNum c
      · rfl
      · rw [h] at hw; simp at hw
    have HD := Lib.hid (digit_any c)
    rw [hnum] at HD
    have h45 : ((c.toNat : Int) == 45) = false := v8_ne (n := 45) (by omega) (fun h => by
      have h' : c = 45 := h
      unfold isWord at hw
      rw [h'] at hw
      simp at hw)
    have h45' : ((c.toNat : Int) != 45) = true := by rw [bne, h45]; rfl
    have hlet : ¬ (97 ≤ c.toNat ∧ c.toNat ≤ 122) := fun h => by
      unfold isWord at hw
      simp [h.1, h.2] at hw
    generalize (⟨(c :: t).toArray⟩ : ByteArray) = z at *
    clear hm hw hnum
    by_cases hlo : c.toNat < 97
    · have b1 : decide ((c.toNat : Int) < 97) = true := by rw [decide_eq_true_iff]; omega
      clear hlet
      subst hc0
      go_enter Tryz.func103, Tryz.ntmps103
      go_wp2_with (first | (go_at_call 129; refine H.out.mono ?_; rintro r w' ⟨rfl, rfl⟩) | (go_at_call 99; refine (HD.out _).mono ?_; rintro r w' ⟨rfl, rfl⟩))
      go_ret
      exact ⟨rfl, rfl⟩
    · have b1 : decide ((c.toNat : Int) < 97) = false := by rw [decide_eq_false_iff_not]; omega
      have b2 : decide ((122 : Int) < (c.toNat : Int)) = true := by rw [decide_eq_true_iff]; omega
      clear hlet
      subst hc0
      go_enter Tryz.func103, Tryz.ntmps103
      go_wp2_with (first | (go_at_call 129; refine H.out.mono ?_; rintro r w' ⟨rfl, rfl⟩) | (go_at_call 99; refine (HD.out _).mono ?_; rintro r w' ⟨rfl, rfl⟩))
      go_ret
      exact ⟨rfl, rfl⟩

theorem at_list (s : ByteArray) (l : List UInt8) (hs : s.data.toList = l) (j : Nat) (h : j < s.size) : s[j] = l[j]'(by rw [← hs]; exact h) := by
  subst hs
  rfl
theorem digB_ne : ∀ d : Fin 16, digB d.val ≠ 34 ∧ digB d.val ≠ 92 := by decide
theorem hex_at : ∀ d : Fin 16, Lib.indexByte [48, 49, 50, 51, 52, 53, 54, 55, 56, 57, 97, 98, 99, 100, 101, 102] (digB d.val) = (d.val : Int) := by decide

set_option maxHeartbeats 1000000 in
theorem esc_two (s : ByteArray) (c : UInt8) (r : List UInt8) (hs : s.data.toList = 92 :: c :: r) (hc : c = 34 ∨ c = 92) (hn : s.size ≤ 4611686018427387904) (w : World) :
    Calls Tryz.prog 128 #[.string s] w fun e w' => e = .returned (.tuple #[.int .u8 (c.toNat : Int), .int .i64 2, .int .i64 0]) ∧ w' = w := by
  have hl : s.size = r.length + 2 := by
    show s.data.toList.length = _
    rw [hs]; rfl
  have h1 : 1 < s.size := by omega
  have hb1 : ((s.size : Int) == 1) = false := by rw [beq_eq_false_iff_ne]; omega
  have hi1 : decide ((1 : Int) < (s.size : Int)) = true := by rw [decide_eq_true_iff]; omega
  have hx : s[1] = c := by rw [at_list s _ hs 1 h1]; rfl
  have key : (((s[1].toNat : Int) == 34) = true ∧ True) ∨ (((s[1].toNat : Int) == 34) = false ∧ ((s[1].toNat : Int) == 92) = true) := by
    rw [hx]
    rcases hc with rfl | rfl
    · exact .inl ⟨rfl, trivial⟩
    · exact .inr ⟨rfl, rfl⟩
  have HX := Lib.hid hx
  clear hs hl hc hx
  rcases key with ⟨k1, k2⟩ | ⟨k1, k2⟩
  all_goals
    go_enter Tryz.func128, Tryz.ntmps128
    go_wp2
    go_ret3
    rw [HX.out]
    exact ⟨rfl, rfl⟩

set_option maxRecDepth 100000 in
set_option maxHeartbeats 2000000 in
theorem esc_three (s : ByteArray) (c : UInt8) (r : List UInt8) (hs : s.data.toList = 92 :: digB (c.toNat / 16) :: digB (c.toNat % 16) :: r) (hc : plainB c = false) (hn : s.size ≤ 4611686018427387904) (w : World) :
    Calls Tryz.prog 128 #[.string s] w fun e w' => e = .returned (.tuple #[.int .u8 (c.toNat : Int), .int .i64 3, .int .i64 0]) ∧ Below w.heap.size w w' := by
  have hl : s.size = r.length + 3 := by
    show s.data.toList.length = _
    rw [hs]; rfl
  have h1 : 1 < s.size := by omega
  have h2 : 2 < s.size := by omega
  have hb1 : ((s.size : Int) == 1) = false := by rw [beq_eq_false_iff_ne]; omega
  have hb2 : ((s.size : Int) == 2) = false := by rw [beq_eq_false_iff_ne]; omega
  have hi1 : decide ((1 : Int) < (s.size : Int)) = true := by rw [decide_eq_true_iff]; omega
  have hi2 : (2 : Int) < (s.size : Int) := by omega
  have hx1 : s[1] = digB (c.toNat / 16) := by rw [at_list s _ hs 1 h1]; rfl
  have hx2 : s[2] = digB (c.toNat % 16) := by rw [at_list s _ hs 2 h2]; rfl
  have hcl := c.toNat_lt
  have n1 := digB_ne ⟨c.toNat / 16, by omega⟩
  have k1 : ((s[1].toNat : Int) == 34) = false := by rw [hx1]; exact v8_ne (n := 34) (by omega) n1.1
  have k2 : ((s[1].toNat : Int) == 92) = false := by rw [hx1]; exact v8_ne (n := 92) (by omega) n1.2
  have u8 : ∀ b : UInt8, ((b.toNat : Int)).toNat.toUInt8 = b := fun b => by simp
  have i1 : ∀ w, Calls Tryz.prog 138 #[.string ⟨#[48, 49, 50, 51, 52, 53, 54, 55, 56, 57, 97, 98, 99, 100, 101, 102]⟩, .int .u8 (s[1].toNat : Int)] w fun e w' => e = .returned (.int .i64 ((c.toNat / 16 : Nat) : Int)) ∧ w' = w := fun w => by
    have := indexByte_any ⟨#[48, 49, 50, 51, 52, 53, 54, 55, 56, 57, 97, 98, 99, 100, 101, 102]⟩ (s[1].toNat : Int) w
    rw [u8, hx1] at this
    rw [hx1]
    rw [show (⟨#[48, 49, 50, 51, 52, 53, 54, 55, 56, 57, 97, 98, 99, 100, 101, 102]⟩ : ByteArray).data.toList = [48, 49, 50, 51, 52, 53, 54, 55, 56, 57, 97, 98, 99, 100, 101, 102] from rfl, hex_at ⟨c.toNat / 16, by omega⟩] at this
    exact this
  have i2 : ∀ w, Calls Tryz.prog 138 #[.string ⟨#[48, 49, 50, 51, 52, 53, 54, 55, 56, 57, 97, 98, 99, 100, 101, 102]⟩, .int .u8 (s[2].toNat : Int)] w fun e w' => e = .returned (.int .i64 ((c.toNat % 16 : Nat) : Int)) ∧ w' = w := fun w => by
    have := indexByte_any ⟨#[48, 49, 50, 51, 52, 53, 54, 55, 56, 57, 97, 98, 99, 100, 101, 102]⟩ (s[2].toNat : Int) w
    rw [u8, hx2] at this
    rw [hx2]
    rw [show (⟨#[48, 49, 50, 51, 52, 53, 54, 55, 56, 57, 97, 98, 99, 100, 101, 102]⟩ : ByteArray).data.toList = [48, 49, 50, 51, 52, 53, 54, 55, 56, 57, 97, 98, 99, 100, 101, 102] from rfl, hex_at ⟨c.toNat % 16, by omega⟩] at this
    exact this
  have I1 := Lib.hid i1
  have I2 := Lib.hid i2
  have HPl := Lib.hid (plain_any c)
  rw [hc] at HPl
  obtain ⟨hi, hhi⟩ : ∃ hi : Nat, hi = c.toNat / 16 := ⟨_, rfl⟩
  obtain ⟨lo, hlo⟩ : ∃ lo : Nat, lo = c.toNat % 16 := ⟨_, rfl⟩
  rw [← hhi] at I1
  rw [← hlo] at I2
  have hsum : 16 * (hi : Int) + (lo : Int) = (c.toNat : Int) := by omega
  rw [← hsum] at HPl
  have HSum := Lib.hid hsum
  clear hsum
  have g1 : decide ((hi : Int) < 0) = false := by simp
  have g2 : decide ((lo : Int) < 0) = false := by simp
  have hhi16 : hi < 16 := by omega
  have hlo16 : lo < 16 := by omega
  clear hs hl hc hx1 hx2 n1 u8 i1 i2 hhi hlo hcl
  go_enter Tryz.func128, Tryz.ntmps128
  go_upto_region 7 with fail
  refine wp_region_class' (C := fun w' => Below w.heap.size w w') (by kernel_rfl) (by kernel_rfl) (Below.refl _ _).drew ?_
  have J1 := Lib.hid (fun (wx : World) (hb : Below w.heap.size w wx) => same_from' hb (I1.out wx))
  have J2 := Lib.hid (fun (wx : World) (hb : Below w.heap.size w wx) => same_from' hb (I2.out wx))
  quiet_step ((intro _; exact rfl))
  quiet_step ((intro _; exact rfl))
  quiet_step ((intro hw; with_reducible exact J1.out _ hw))
  quiet_step ((intro _; exact rfl))
  quiet_step ((intro _; exact rfl))
  quiet_step ((intro hw; with_reducible exact J2.out _ hw))
  quiet_step ((intro _; exact rfl))
  quiet_step ((intro _; exact rfl))
  refine wpQuiet_nil ?_
  intro w8 hb8
  have HB := Lib.hid hb8
  clear hb8
  go_wp2_with (go_at_call 124; refine (HPl.out _).mono ?_; rintro r w' ⟨rfl, rfl⟩)
  go_ret3
  exact ⟨by rw [← HSum.out]; rfl, HB.out⟩
end Go.Proofs.YtfpjepeikjfkpaaGreatDoor

/-
  Package value: numbers that Parse reads.
-/
namespace Go.Proofs.YtfpjepeikjfkpaaGreatDoor
open Go.RowKit

theorem intL_len (n : Int) (h0 : -9223372036854775808 ≤ n) (h1 : n ≤ 9223372036854775807) : (intL n).length ≤ 1000 := by
  have := print_len (v := ⟨1, n, ⟨#[]⟩⟩) (right_int n) h0 h1
  have e2 : printV ⟨1, n, ⟨#[]⟩⟩ = intL n := rfl
  rwa [e2] at this
/-- How far a number's digits stand from its front. -/
def firstOf (n : Int) : Nat := if n < 0 then 1 else 0
theorem intL_cut (n : Int) : ∃ c r, intL n = (if n < 0 then [45] else []) ++ c :: r ∧ (∀ x ∈ c :: r, isNum x = true) ∧ (c = 48 → n = 0 ∧ r = []) := by
  unfold intL
  split
  · next h =>
    obtain ⟨c, r, e, h1, h2⟩ := natL_head (-n).toNat
    exact ⟨c, r, by rw [e]; rfl, by rw [← e]; exact natL_nums _, fun hc => by have := (h2 hc).1; omega⟩
  · next h =>
    obtain ⟨c, r, e, h1, h2⟩ := natL_head n.toNat
    exact ⟨c, r, by rw [e]; rfl, by rw [← e]; exact natL_nums _, fun hc => by have := h2 hc; exact ⟨by omega, this.2⟩⟩

set_option maxRecDepth 100000 in
set_option maxHeartbeats 4000000 in
theorem vNumber_any (n : Int) (h0 : -9223372036854775808 ≤ n) (h1 : n ≤ 9223372036854775807) (more : List UInt8) (hm : moreOk 1 more = true) (hlen : more.length ≤ 1000000) (s : ByteArray) (hs : s.data.toList = intL n ++ more) (first : Nat) (hf : first = firstOf n) (w : World) :
    Calls Tryz.prog 100 #[.string s, .int .i64 (first : Int)] w fun e w' => e = retTake (⟨1, n, ⟨#[]⟩⟩, (intL n).length, 0) ∧ Below w.heap.size w w' := by
  obtain ⟨c, r, hcut, hnums, hzero⟩ := intL_cut n
  have hLL := intL_len n h0 h1
  have hsz : s.size = (intL n).length + more.length := by
    show s.data.toList.length = _
    rw [hs, List.length_append]
  have hL : (intL n).length = first + (c :: r).length := by
    rw [hcut, hf, List.length_append]
    unfold firstOf
    split <;> simp
  have hdig : ∀ k (hk : k < s.size), first ≤ k → k < (intL n).length → isNum s[k] = true := by
    intro k hk hfk hkL
    have e : s[k] = (intL n)[k]'hkL := by
      rw [at_list s _ hs k hk, List.getElem_append_left hkL]
    rw [e]
    apply hnums
    have e2 : (intL n)[k]'hkL = (c :: r)[k - first]'(by omega) := by
      have hpre : (if n < 0 then [(45 : UInt8)] else []).length = first := by rw [hf]; unfold firstOf; split <;> rfl
      simp only [hcut]
      rw [List.getElem_append_right (by omega)]
      simp only [hpre]
    rw [e2]
    exact List.getElem_mem _
  have hend : ∀ hk : (intL n).length < s.size, isNum s[(intL n).length] = false := by
    intro hk
    rw [at_list s _ hs _ hk, List.getElem_append_right (Nat.le_refl _)]
    cases more with
    | nil => simp at hsz; omega
    | cons x t =>
      simp only [Nat.sub_self, List.getElem_cons_zero]
      simpa [moreOk] using hm
  have hfs : first < s.size := by rw [hsz, hL, List.length_cons]; omega
  have hhead : s[first]'hfs = c := by
    have hkL : first < (intL n).length := by rw [hL, List.length_cons]; omega
    have hpre : (if n < 0 then [(45 : UInt8)] else []).length = first := by rw [hf]; unfold firstOf; split <;> rfl
    rw [at_list s _ hs _ hfs, List.getElem_append_left hkL]
    simp only [hcut]
    rw [List.getElem_append_right (by omega)]
    simp [hpre]
  have hone : c = 48 → (intL n).length = 1 := fun hc => by
    obtain ⟨h2, h3⟩ := hzero hc
    have : first = 0 := by rw [hf, h2]; rfl
    rw [hL, h3, this]; rfl
  have hxt : (s.extract 0 (intL n).length).data.toList = intL n := by
    rw [ext_take, hs]
    exact List.take_left
  have HPI := Lib.hid (fun w => parseInt_any n h0 h1 (s.extract 0 (intL n).length) hxt w)
  have HDig := Lib.hid hdig
  have HEnd := Lib.hid hend
  have HOne := Lib.hid hone
  have HHead := Lib.hid hhead
  have hfl : first < (intL n).length := by rw [hL, List.length_cons]; omega
  clear hdig hend hone hxt hL hcut hnums hzero hs hm hf hhead
  generalize hLe : (intL n).length = L at *
  clear hLe
  have hx0 := Boxed.new w 0 0 ⟨#[]⟩
  have hb0 := box_below w #[.int .i64 0, .int .i64 0, .string ⟨#[]⟩] 42
  have HX0 := Lib.hid hx0
  have HB0 := Lib.hid hb0
  have hfsI : (first : Int) < (s.size : Int) := by omega
  clear hx0 hb0
  go_enter Tryz.func100, Tryz.ntmps100
  go_wp2
  go_loop [7] (fun z => ∃ k : Nat, z = .int .i64 k ∧ first ≤ k ∧ k ≤ L) (fun z => L - (intOf z).toNat)
  case atStart => exact ⟨first, rfl, Nat.le_refl _, by omega⟩
  case round =>
    obtain ⟨k, rfl, hk1, hk2⟩ := hrel
    by_cases hk : k < L
    · have hks : k < s.size := by omega
      have hksI : (k : Int) < (s.size : Int) := by omega
      have HD := Lib.hid (digit_any (s[k]'hks))
      rw [HDig.out k hks hk1 hk] at HD
      go_wp2_with (go_at_call 99; refine (HD.out _).mono ?_; rintro r w' ⟨rfl, rfl⟩)
      go_round
      case rel => exact ⟨k + 1, by go_num, by omega, by omega⟩
      case measure => simp [intOf]; omega
    · have hkL : k = L := by omega
      subst hkL
      clear hk hk2
      have hz : (((s[first]'hfs).toNat : Int) == 48) = true ∧ decide ((1 : Int) < (k : Int)) = false ∨ (((s[first]'hfs).toNat : Int) == 48) = false := by
        by_cases hc : c = 48
        · left
          rw [HHead.out, hc]
          exact ⟨rfl, by rw [HOne.out hc]; rfl⟩
        · right
          rw [HHead.out]
          exact v8_ne (n := 48) (by omega) hc
      have hlast : (k < s.size ∧ True) ∨ ¬ k < s.size := by by_cases h : k < s.size; exact .inl ⟨h, trivial⟩; exact .inr h
      have hkI : (k : Int) ≤ (s.size : Int) := by omega
      have hk0 : (0 : Int) ≤ (k : Int) := by omega
      have HFin := Lib.hid (show ∀ w1 : World, Boxed w1 w.heap.size V0 → Below w.heap.size w w1 → Boxed (((w1.setCell ⟨w.heap.size, 0, none⟩ (.int .i64 1)).setCell ⟨w.heap.size, 1, none⟩ (.int .i64 n)).setCell ⟨w.heap.size, 2, none⟩ (.string ⟨#[]⟩)) w.heap.size ⟨1, n, ⟨#[]⟩⟩ ∧ Below w.heap.size w (((w1.setCell ⟨w.heap.size, 0, none⟩ (.int .i64 1)).setCell ⟨w.heap.size, 1, none⟩ (.int .i64 n)).setCell ⟨w.heap.size, 2, none⟩ (.string ⟨#[]⟩)) from fun w1 hx hb => ⟨hx.set3' 1 n ⟨#[]⟩, Below.set3' hb (Nat.le_refl _) _ _ _⟩)
      clear hsz
      rcases hlast with ⟨hks, _⟩ | hks
      · have hksI : (k : Int) < (s.size : Int) := by omega
        have HD := Lib.hid (digit_any (s[k]'hks))
        rw [HEnd.out hks] at HD
        rcases hz with ⟨z1, z2⟩ | z1
        all_goals
          go_wp2_with (go_at_call 99; refine (HD.out _).mono ?_; rintro r w' ⟨rfl, rfl⟩)
          refine (HPI.out _).mono ?_
          rintro r w1 ⟨rfl, hb1⟩
          have HX1 := Lib.hid (HX0.out.below hb1)
          have HB1 := Lib.hid (HB0.out.trans (hb1.mono HB0.out.size))
          have HInt := Lib.hid (vInt_all n w1)
          clear hb1
          go_wp2_with fail
          refine HInt.out.mono ?_
          rintro r w2 ⟨rfl, hb2⟩
          have HX2 := Lib.hid (HX1.out.below hb2)
          have HB2 := Lib.hid (HB1.out.trans (hb2.mono HB1.out.size))
          clear hb2
          obtain ⟨r0, r1, r2⟩ := HX2.out.cells
          have f0 := HX2.out.frozen 0
          have f1 := HX2.out.frozen 1
          have f2 := HX2.out.frozen 2
          have hlx := HX2.out.lt
          go_wp2_with fail
          obtain ⟨hx3, hb3⟩ := HFin.out w2 HX2.out HB2.out
          obtain ⟨t0, t1, t2⟩ := hx3.cells
          exact bodyPost_ret (v := .tuple #[.agg #[.int .i64 1, .int .i64 n, .string ⟨#[]⟩], .int .i64 (k : Int), .int .i64 0]) (by simp [results, Tryz.results100, go_sem, t0, t1, t2]) rfl ⟨rfl, hb3⟩
      · have hksI : decide ((k : Int) < (s.size : Int)) = false := by rw [decide_eq_false_iff_not]; omega
        have hke : ((k : Int) < (s.size : Int)) = False := by rw [eq_iff_iff]; exact ⟨fun h => by omega, False.elim⟩
        rcases hz with ⟨z1, z2⟩ | z1
        all_goals
          go_wp2_with fail
          refine (HPI.out _).mono ?_
          rintro r w1 ⟨rfl, hb1⟩
          have HX1 := Lib.hid (HX0.out.below hb1)
          have HB1 := Lib.hid (HB0.out.trans (hb1.mono HB0.out.size))
          have HInt := Lib.hid (vInt_all n w1)
          clear hb1
          go_wp2_with fail
          refine HInt.out.mono ?_
          rintro r w2 ⟨rfl, hb2⟩
          have HX2 := Lib.hid (HX1.out.below hb2)
          have HB2 := Lib.hid (HB1.out.trans (hb2.mono HB1.out.size))
          clear hb2
          obtain ⟨r0, r1, r2⟩ := HX2.out.cells
          have f0 := HX2.out.frozen 0
          have f1 := HX2.out.frozen 1
          have f2 := HX2.out.frozen 2
          have hlx := HX2.out.lt
          go_wp2_with fail
          obtain ⟨hx3, hb3⟩ := HFin.out w2 HX2.out HB2.out
          obtain ⟨t0, t1, t2⟩ := hx3.cells
          exact bodyPost_ret (v := .tuple #[.agg #[.int .i64 1, .int .i64 n, .string ⟨#[]⟩], .int .i64 (k : Int), .int .i64 0]) (by simp [results, Tryz.results100, go_sem, t0, t1, t2]) rfl ⟨rfl, hb3⟩
end Go.Proofs.YtfpjepeikjfkpaaGreatDoor
