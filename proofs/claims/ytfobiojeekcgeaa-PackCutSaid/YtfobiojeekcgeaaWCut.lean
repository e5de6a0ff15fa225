/-
  The walk of PackCut.
-/
import Derived.Test.YtfobiojeekcgeaaLive
import Derived.Test.YtfobiojeekcgeaaBack
import Derived.OpenShut
namespace Go.Proofs.Ytfobiojeekcgeaa.packCut
open Go.RowKit

set_option maxHeartbeats 2000000 in
theorem walk_long (n : Int) (s : ByteArray) (k : Int) (hs : 1000 < s.size) (hs2 : s.size ≤ 9223372036854775807) (w : World) :
    Calls Try.prog 7 #[.int .u64 n, .string s, .int .i64 k] w fun e w' => e = .returned (.bool true) ∧ Below w.heap.size w w' := by
  go_enter Try.func7, Try.ntmps7
  go_wp2_with fail
  refine (live_any _).mono ?_
  rintro e w1 ⟨rfl, hb1⟩
  go_wp2_with fail
  refine (live_any _).mono ?_
  rintro e w2 ⟨rfl, hb2⟩
  have hb3 : Below w.heap.size w w2 := hb1.trans (hb2.mono hb1.size)
  clear hb1 hb2
  go_wp2
  go_ret
  exact ⟨rfl, hb3⟩

set_option maxHeartbeats 2000000 in
set_option maxRecDepth 100000 in
theorem walk_short (n : Nat) (s : ByteArray) (k : Int) (hn : (n : Int) ≤ 18446744073709551615) (hs : s.size ≤ 1000) (hk0 : -9223372036854775808 ≤ k) (hk1 : k ≤ 9223372036854775807) (w : World) :
    Calls Try.prog 7 #[.int .u64 n, .string s, .int .i64 k] w fun e w' => e = .returned (.bool true) ∧ Below w.heap.size w w' := by
  have hsl : s.data.toList.length = s.size := rfl
  have hl1 := un_ten (n := n) (by omega)
  have hl2 : (unText s.data.toList).length ≤ 1010 := by
    have := un_ten (n := s.data.toList.length) (by omega)
    simp only [unText, List.length_append]; omega
  go_enter Try.func7, Try.ntmps7
  go_wp2_with fail
  refine (live_any _).mono ?_
  rintro e w1 ⟨rfl, hb1⟩
  go_wp2_with fail
  refine (uint_any n hn _).mono ?_
  rintro e w2 ⟨A2, c2, rfl, _, _, z2, hr2, hb2⟩
  go_wp2_with fail
  refine (text_any s (by omega) _).mono ?_
  rintro e w3 ⟨A3, c3, rfl, _, _, z3, hr3, hb3⟩
  obtain ⟨L, hL⟩ : ∃ L, L = un n ++ unText s.data.toList := ⟨_, rfl⟩
  have hLl : L.length ≤ 1020 := by rw [hL, List.length_append]; omega
  have HJ := Lib.hid (join_pair w3 A2 A3 c2 c3 (un n) (unText s.data.toList) L hL z2 z3 ((hr2.below hb3 (Nat.le_refl _)).wide (Nat.zero_le _) hb3.size) (hr3.wide (Nat.zero_le _) (Nat.le_refl _)) (by omega))
  have hb4 : Below w.heap.size w w3 := (hb1.trans (hb2.mono hb1.size)).trans (hb3.mono (Nat.le_trans hb1.size hb2.size))
  have HL := Lib.hid hL
  clear hL hb1 hb2 hb3 hr2 hr3 z2 z3 hl1 hl2 hsl
  go_wp2_with fail
  refine HJ.out.mono ?_
  rintro e w4 ⟨A4, c4, rfl, hc4, hm4, z4, hr4, hb5⟩
  have hb6 : Below w.heap.size w w4 := hb4.trans (hb5.mono hb4.size)
  have hcm : c4 ≤ 9223372036854775807 := by unfold maxLen at hm4; omega
  clear HJ hb5 hm4
  by_cases hin : 0 ≤ k ∧ k < L.length
  · obtain ⟨hk2, hk3⟩ := hin
    obtain ⟨j, rfl⟩ := Int.eq_ofNat_of_zero_le hk2
    have hj : j < L.length := by omega
    have htl : (L.take j).length = j := by rw [List.length_take]; omega
    have HRd := Lib.hid (read_any A4 (L.take j) c4 w4 (by omega) z4 ((hr4.take j).wide (Nat.zero_le _) (Nat.le_refl _)))
    have hfin := both_cut n s.data.toList j (by omega) (Nat.lt_of_le_of_lt hs (by omega)) (by rw [← HL.out]; omega)
    rw [← HL.out] at hfin
    rw [htl] at HRd
    generalize L.take j = l at *
    have Hfin := Lib.hid hfin
    clear htl hr4 hfin
    go_wp2_with fail
    refine HRd.out.mono ?_
    rintro e w5 ⟨g, rfl, hg, hrd, hb7⟩
    have hb8 : Below w.heap.size w w5 := hb6.trans (hb7.mono hb6.size)
    have hgw : w.heap.size ≤ g := Nat.le_trans hb6.size hg
    have HU := Lib.hid (rUint_any g _ 0 l n w5 hrd (by omega) hn)
    rw [Int.toNat_natCast] at HU
    clear HRd hb7 hg hb6 hrd hb4 hc4
    go_wp2_with fail
    refine HU.out.mono ?_
    rintro e w6 ⟨rfl, hrd, hgr⟩
    have hb9 : Below w.heap.size w w6 := hb8.grown hgr hb8.size (fun i hi => by injection hi with hi; omega)
    have HT := Lib.hid (rText_any g _ _ _ (s.size : Int) w6 hrd (by omega) (by omega))
    rw [show (s.size : Int) = (s.data.toList.length : Int) from rfl] at HT
    generalize textOfR (uintOf l 0 n).2.1 (uintOf l 0 n).2.2 (s.data.toList.length : Int) = R at *
    have hR : R.2.2 = 6 := Hfin.out
    rw [hR, show (s.data.toList.length : Int) = (s.size : Int) from rfl] at HT
    clear HU hgr hb8 hR Hfin hrd
    go_wp2_with fail
    refine HT.out.mono ?_
    rintro e w7 ⟨rfl, hrd, hgr⟩
    have hb10 : Below w.heap.size w w7 := hb9.grown hgr hb9.size (fun i hi => by injection hi with hi; omega)
    have HE := Lib.hid (err_any g _ 6 _ w7 hrd)
    have HB := Lib.hid (rByte_any g _ 6 _ w7 hrd)
    rw [show byteOf R.2.1 6 = (0, R.2.1, 6) from rfl] at HB
    clear HT hgr hb9 hrd
    go_wp2_with fail
    refine HE.out.mono ?_
    rintro e w8 ⟨rfl, rfl⟩
    go_wp2_with fail
    refine HB.out.mono ?_
    rintro e w9 ⟨rfl, hrd, hgr⟩
    have hb11 : Below w.heap.size w w9 := hb10.grown hgr hb10.size (fun i hi => by injection hi with hi; omega)
    have HE2 := Lib.hid (err_any g _ 6 _ w9 hrd)
    clear HE HB hgr hb10 hrd
    go_wp2_with fail
    refine HE2.out.mono ?_
    rintro e w10 ⟨rfl, rfl⟩
    go_wp2
    go_ret
    exact ⟨rfl, hb11⟩
  · rcases (show k < 0 ∨ ((L.length : Int) ≤ k ∧ 0 ≤ k) from by omega) with h | ⟨h, h0⟩
    all_goals
      clear hin
      go_wp2
      go_ret
      exact ⟨rfl, hb6⟩

theorem walk (a0 : Int) (a1 : ByteArray) (a2 : Int) (w0 : (Lit.int .u64 a0).wf = true) (w1 : a1.size ≤ maxLen) (w2 : (Lit.int .i64 a2).wf = true) (w : World) :
    Calls Try.prog 7 #[.int .u64 a0, .string a1, .int .i64 a2] w fun e w' => e = .returned (.bool true) ∧ Below w.heap.size w w' := by
  have hb := bounds_u64 w0
  obtain ⟨n, rfl⟩ := Int.eq_ofNat_of_zero_le hb.1
  have hk := bounds_i64 w2
  rcases Nat.lt_or_ge 1000 a1.size with h | h
  · exact walk_long n a1 a2 h (by unfold maxLen at w1; omega) w
  · exact walk_short n a1 a2 hb.2 h hk.1 hk.2 w

end Go.Proofs.Ytfobiojeekcgeaa.packCut
