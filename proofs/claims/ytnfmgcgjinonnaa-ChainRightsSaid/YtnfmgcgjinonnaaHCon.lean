/-
  What package chain has to answer, as contracts; and the chapter's example.
-/
import Derived.Test.YtnfmgcgjinonnaaHRefD
import Derived.Lib.SlBytesConst
namespace Go.Proofs.Ytnfmgcgjinonnaa
open Go.RowKit

/-- Chains of a length that the contracts speak of. -/
def okLen (l : List Ver) : Prop := l.length ≤ 4294967296 ∧ sizeH l ≤ 4294967296
structure ChainC : Prop where
  right : ∀ (l : List Ver) (A : Option Addr) (c : Nat) (w : World), okLen l → ChH w w.heap.size A c l →
    Calls Try.prog 12 #[.slice A l.length c] w fun r w' => r = .returned (.bool (rightC l)) ∧ Below w.heap.size w w'
  size : ∀ (l : List Ver) (A : Option Addr) (c : Nat) (w : World), okLen l → ChH w w.heap.size A c l →
    Calls Try.prog 14 #[.slice A l.length c] w fun r w' => r = .returned (.int .i64 (sizeH l : Nat)) ∧ Below w.heap.size w w'
  same : ∀ (l m : List Ver) (A B : Option Addr) (c d : Nat) (w : World), okLen l → okLen m → ChH w w.heap.size A c l → ChH w w.heap.size B d m →
    Calls Try.prog 16 #[.slice A l.length c, .slice B m.length d] w fun r w' => r = .returned (.bool (sameH l m)) ∧ Below w.heap.size w w'
  find : ∀ (l : List Ver) (A : Option Addr) (c t : Nat) (w : World), okLen l → ChH w w.heap.size A c l → rightC l = true → t < 18446744073709551616 →
    Calls Try.prog 18 #[.slice A l.length c, .int .u64 t] w (RetFind (findH l t) w)
  get : ∀ (l : List Ver) (A : Option Addr) (c t : Nat) (w : World), okLen l → ChH w w.heap.size A c l → rightC l = true → t < 18446744073709551616 →
    Calls Try.prog 20 #[.slice A l.length c, .int .u64 t] w (RetGet (getH l t) w)
  last : ∀ (l : List Ver) (A : Option Addr) (c : Nat) (w : World), okLen l → ChH w w.heap.size A c l → rightC l = true →
    Calls Try.prog 24 #[.slice A l.length c] w fun r w' => r = .returned (.int .u64 (lastH l : Nat)) ∧ Below w.heap.size w w'
  put : ∀ (l : List Ver) (A : Option Addr) (c : Nat) (v : Ver) (B : Option Addr) (d : Nat) (w : World), okLen l → ChH w w.heap.size A c l → v.tm < 18446744073709551616 → v.dat.length ≤ 4294967296 → Sl w w.heap.size B d v.dat →
    Calls Try.prog 26 #[.slice A l.length c, verVal v B d] w (RetPut (putH l v) w)
  trim : ∀ (l : List Ver) (A : Option Addr) (c low : Nat) (w : World), okLen l → ChH w w.heap.size A c l → rightC l = true → low < 18446744073709551616 →
    Calls Try.prog 28 #[.slice A l.length c, .int .u64 low] w (RetCh (trimH l low) w)

def twoL : List Ver := [⟨2, false, [120]⟩, ⟨5, true, []⟩]
theorem rd_x (w : World) : Rd (w.alloc (.cells #[.int .u8 120] 5 (1, 2))) w.heap.size (w.heap.size + 1) (some ⟨w.heap.size, 0, none⟩) [120] := fun _ => by
  refine ⟨w.heap.size, 0, rfl, Nat.le_refl _, by omega, fun j hj => ?_⟩
  have h0 : j = 0 := by simpa using hj
  subst h0
  rw [cell_of_row _ w.heap.size _ _ _ _ (heap_alloc_new w _)]
  rfl
theorem two_ch (w : World) : ChH ((w.alloc (.cells #[.int .u8 120] 5 (1, 2))).alloc (.cells #[.int .u64 2, .bool false, .slice (some ⟨w.heap.size, 0, none⟩) 1 1, .int .u64 5, .bool true, .slice none 0 0] 30)) (w.heap.size + 2) (some ⟨w.heap.size + 1, 0, none⟩) 2 twoL := by
  refine ⟨Nat.le_refl _, by simp [maxLen], (fun e => by cases e), [⟨⟨2, false, [120]⟩, some ⟨w.heap.size, 0, none⟩, 1⟩, ⟨⟨5, true, []⟩, none, 0⟩], rfl, ?_, ?_⟩
  · exact (RowG.block (heap_new2 w (.cells #[.int .u8 120] 5 (1, 2)) (.cells #[.int .u64 2, .bool false, .slice (some ⟨w.heap.size, 0, none⟩) 1 1, .int .u64 5, .bool true, .slice none 0 0] 30)) (fun j u hu => by simpa [flatG, mvCells] using hu)).wide (Nat.zero_le _) (Nat.le_refl _)
  · intro x hx
    have hr := ((rd_x w).below ((Below.refl _ (w.alloc (.cells #[.int .u8 120] 5 (1, 2)))).alloc (Nat.le_refl _) (.cells #[.int .u64 2, .bool false, .slice (some ⟨w.heap.size, 0, none⟩) 1 1, .int .u64 5, .bool true, .slice none 0 0] 30)) (by simp)).wide (Nat.zero_le _) (Nat.le_succ _)
    rw [List.mem_cons, List.mem_singleton] at hx
    rcases hx with rfl | rfl
    · exact ⟨by simp, Nat.le_refl _, by simp [maxLen], (fun e => by cases e), hr⟩
    · exact ⟨by simp, Sl.none_ _ _⟩
set_option maxRecDepth 100000 in
theorem two_any (w : World) : Calls Try.prog 30 #[] w fun r w' => ∃ A, r = .returned (.slice A 2 2) ∧ ChH w' w'.heap.size A 2 twoL ∧ Below w.heap.size w w' := by
  have HT := Lib.hid (two_ch w)
  have HB := Lib.hid (((Below.refl w.heap.size w).alloc (Nat.le_refl _) (.cells #[.int .u8 120] 5 (1, 2))).alloc (by simp) (.cells #[.int .u64 2, .bool false, .slice (some ⟨w.heap.size, 0, none⟩) 1 1, .int .u64 5, .bool true, .slice none 0 0] 30))
  have kc := fun (w : World) (C : Array Value) (n c : Nat) => Lib.run_convert_bytes_const (P := Try.prog) w 28 5 C n c Try.underlying28 Try.underlying5
  go_enter Try.func30, Try.ntmps30
  go_wp2
  go_ret
  exact ⟨_, rfl, HT.out.below (Below.refl (w.heap.size + 2) _) (Nat.le_refl _) (by simp), HB.out⟩
theorem two_right : rightC twoL = true := by decide
theorem two_len : okLen twoL := by unfold okLen; decide
theorem two_get1 : getH twoL 1 = none := by decide
theorem two_get4 : getH twoL 4 = some [120] := by decide
theorem two_get5 : getH twoL 5 = none := by decide
theorem two_trim : trimH twoL 5 = [] := by decide
theorem two_put : putH twoL ⟨6, false, []⟩ = (twoL ++ [⟨6, false, []⟩], 0) := by decide

set_option maxRecDepth 100000 in
set_option maxHeartbeats 4000000 in
theorem liveH_any (K : ChainC) (w : World) : Calls Try.prog 10 #[] w fun r w' => r = .returned (.bool true) ∧ Below w.heap.size w w' := by
  have HTwo : Hid (∀ W wx, Below W.heap.size W wx → Calls Try.prog 30 #[] wx fun r w' => ∃ A, r = .returned (.slice A 2 2) ∧ ChH w' w'.heap.size A 2 twoL ∧ Below W.heap.size W w') := Lib.hid fun W wx hb => (two_any wx).mono fun _ _ ⟨A, e, h, hb2⟩ => ⟨A, e, h, hb.trans (hb2.mono hb.size)⟩
  have HG : ∀ (t : Nat) (o : Option (List UInt8)), getH twoL t = o → t < 18446744073709551616 → Hid (∀ (A : Option Addr) (W wx : World), ChH wx wx.heap.size A 2 twoL → Below W.heap.size W wx → Calls Try.prog 20 #[.slice A 2 2, .int .u64 t] wx fun r w' => ∃ B d, r = .returned (.tuple #[.slice B (o.getD []).length d, .bool o.isSome]) ∧ Sl w' w'.heap.size B d (o.getD []) ∧ Below W.heap.size W w') := fun t o ho ht => Lib.hid fun A W wx hc hb =>
    (K.get twoL A 2 t wx two_len hc two_right ht).mono fun _ _ ⟨B, d, e, h, hb2⟩ => ⟨B, d, by rw [← ho]; exact e, by rw [← ho]; exact h, hb.trans (hb2.mono hb.size)⟩
  have HG1 := HG 1 none two_get1 (by omega)
  have HG4 := HG 4 (some [120]) two_get4 (by omega)
  have HG5 := HG 5 none two_get5 (by omega)
  clear HG
  have HP : Hid (∀ (A : Option Addr) (W wx : World), ChH wx wx.heap.size A 2 twoL → Below W.heap.size W wx → Calls Try.prog 26 #[.slice A 2 2, .agg #[.int .u64 6, .bool false, .slice none 0 0]] wx fun r w' => ∃ B d, r = .returned (.tuple #[.slice B 3 d, .int .i64 0]) ∧ Below W.heap.size W w') := Lib.hid fun A W wx hc hb =>
    (K.put twoL A 2 ⟨6, false, []⟩ none 0 wx two_len hc (by simp) (by simp) (Sl.none_ _ _)).mono fun _ _ ⟨B, d, e, _, hb2⟩ => ⟨B, d, by rw [two_put] at e; exact e, hb.trans (hb2.mono hb.size)⟩
  have HT : Hid (∀ (A : Option Addr) (W wx : World), ChH wx wx.heap.size A 2 twoL → Below W.heap.size W wx → Calls Try.prog 28 #[.slice A 2 2, .int .u64 5] wx fun r w' => ∃ B d, r = .returned (.slice B 0 d) ∧ Below W.heap.size W w') := Lib.hid fun A W wx hc hb =>
    (K.trim twoL A 2 5 wx two_len hc two_right (by omega)).mono fun _ _ ⟨B, d, e, _, hb2⟩ => ⟨B, d, by rw [two_trim] at e; exact e, hb.trans (hb2.mono hb.size)⟩
  clear K
  have HB0 := Lib.hid (Below.refl w.heap.size w)
  go_enter Try.func10, Try.ntmps10
  go_wp2_with fail
  refine (HTwo.out w _ HB0.out).mono ?_
  rintro r w1 ⟨A1, rfl, hc1, hb1⟩
  have H1 := Lib.hid (HG1.out A1 w w1 hc1 hb1)
  clear hc1 hb1 HG1 HB0
  go_wp2_with fail
  refine H1.out.mono ?_
  rintro r w2 ⟨B2, d2, rfl, _, hb2⟩
  have H2 := Lib.hid (HTwo.out w _ hb2)
  clear hb2 H1
  go_wp2_with fail
  refine H2.out.mono ?_
  rintro r w3 ⟨A3, rfl, hc3, hb3⟩
  have H3 := Lib.hid (HG4.out A3 w w3 hc3 hb3)
  clear hc3 hb3 HG4 H2
  go_wp2_with fail
  refine H3.out.mono ?_
  rintro r w4 ⟨B4, d4, rfl, hs4, hb4⟩
  have HS4 := Lib.hid hs4
  have HB4 := Lib.hid hb4
  have H4 := Lib.hid (HTwo.out w4 _ (Below.refl _ _))
  clear hb4 H3 hs4
  go_wp2_with fail
  refine H4.out.mono ?_
  rintro r w5 ⟨A5, rfl, hc5, hb5⟩
  have H5 := Lib.hid (HG5.out A5 w4 w5 hc5 hb5)
  clear hc5 hb5 HG5 H4
  go_wp2_with fail
  refine H5.out.mono ?_
  rintro r w6 ⟨B6, d6, rfl, _, hb6⟩
  have H6 := Lib.hid (HTwo.out w4 _ hb6)
  clear hb6 H5
  go_wp2_with fail
  refine H6.out.mono ?_
  rintro r w7 ⟨A7, rfl, hc7, hb7⟩
  have H7 := Lib.hid (HP.out A7 w4 w7 hc7 hb7)
  clear hc7 hb7 HP H6
  go_wp2_with fail
  refine H7.out.mono ?_
  rintro r w8 ⟨B8, d8, rfl, hb8⟩
  have H8 := Lib.hid (HTwo.out w4 _ hb8)
  have hcv := conv_ret (c := d4) (rfl : 1 = [(120 : UInt8)].length) ((HS4.out.below hb8 (Nat.le_refl _) (Nat.le_refl _)).2.2.2)
  clear hb8 H7
  go_wp2_with fail
  refine H8.out.mono ?_
  rintro r w9 ⟨A9, rfl, hc9, hb9⟩
  have H9 := Lib.hid (HT.out A9 w4 w9 hc9 hb9)
  clear hc9 hb9 HT H8 hcv
  go_wp2_with fail
  refine H9.out.mono ?_
  rintro r w10 ⟨B10, d10, rfl, hb10⟩
  have HB10 := Lib.hid hb10
  clear hb10 H9
  go_wp2_with fail
  go_ret
  exact ⟨rfl, HB4.out.trans (HB10.out.mono HB4.out.size)⟩
end Go.Proofs.Ytnfmgcgjinonnaa
