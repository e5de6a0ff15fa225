/-
  The walk of PackForms.
-/
import Derived.Test.YtfobiojeekcgeaaArgs
import Derived.Test.YtfobiojeekcgeaaBack
namespace Go.Proofs.Ytfobiojeekcgeaa.packForms
open Go.RowKit

/-- What reading has come to: an error, and all is left; or bytes that are those that are written of it. -/
def Fin (l M l' : List UInt8) (e : Nat) : Prop := (e ≠ 0 ∧ l' = l) ∨ (e = 0 ∧ ∃ t, M = l.take t ∧ l' = l.drop t ∧ 0 < t ∧ t ≤ l.length)

theorem fin_uint (l : List UInt8) : Fin l (un (uintOf l 0 maxU).1) (uintOf l 0 maxU).2.1 (uintOf l 0 maxU).2.2 := by
  obtain ⟨n, s, e, hq, hbad, hok⟩ := numOf_nat l maxU
  have hu : uintOf l 0 maxU = (n, l.drop s, e) := by simp [uintOf, hq]
  rw [hu]
  by_cases he : e = 0
  · subst he
    obtain ⟨h1, h2, _⟩ := hok rfl
    exact .inr ⟨rfl, s, numOf_form l maxU n s hq, rfl, h1, h2⟩
  · obtain ⟨rfl, rfl⟩ := hbad he
    exact .inl ⟨he, by simp⟩

theorem textOf_bad (l : List UInt8) (x : Int) (h : (textOf l x).2.2 ≠ 0) : (textOf l x).2.1 = 0 ∧ (textOf l x).1 = [] := by
  revert h
  unfold textOf
  simp only []
  split
  · simp
  · split
    · simp
    · split <;> simp

theorem fin_text (l : List UInt8) (x : Int) : Fin l (unText (textOfR l 0 x).1) (textOfR l 0 x).2.1 (textOfR l 0 x).2.2 ∧ (textOfR l 0 x).1.length ≤ l.length := by
  have hbad := textOf_bad l x
  have hform := textOf_form l (textOf l x).1 x (textOf l x).2.1
  obtain ⟨m, t, e, hq⟩ : ∃ m t e, textOf l x = (m, t, e) := ⟨_, _, _, rfl⟩
  have hu : textOfR l 0 x = (m, l.drop t, e) := by simp [textOfR, hq]
  rw [hu]
  rw [hq] at hbad hform
  by_cases he : e = 0
  · subst he
    obtain ⟨h1, h2, h3⟩ := hform rfl
    refine ⟨.inr ⟨rfl, t, h1, rfl, h2, h3⟩, ?_⟩
    have := congrArg List.length h1
    simp only [unText, List.length_append, List.length_take] at this
    simp only []
    omega
  · obtain ⟨h1, h2⟩ := hbad he
    simp only [] at h1 h2
    subst h1 h2
    exact ⟨.inl ⟨he, by simp⟩, by simp⟩

set_option maxHeartbeats 2000000 in
theorem walk_long (a : Option Addr) (n c : Nat) (k : Int) (hs : 65536 < n) (hs2 : n ≤ 9223372036854775807) (w : World) :
    Calls Try.prog 6 #[.slice a n c, .int .u8 k] w fun e w' => e = .returned (.bool true) ∧ Below w.heap.size w w' := by
  go_enter Try.func6, Try.ntmps6
  go_wp2_with fail
  refine (live_any _).mono ?_
  rintro e w1 ⟨rfl, hb1⟩
  go_wp2_with fail
  refine (live_any _).mono ?_
  rintro e w2 ⟨rfl, hb2⟩
  have hb3 : Below w.heap.size w w2 := hb1.trans (hb2.mono hb1.size)
  clear hb1 hb2
  go_wp2
  go_ret
  exact ⟨rfl, hb3⟩

set_option maxHeartbeats 4000000 in
set_option maxRecDepth 100000 in
theorem walk_short (a : Option Addr) (l : List UInt8) (c : Nat) (k : Int) (hk0 : 0 ≤ k) (hk1 : k ≤ 255) (hl : l.length ≤ 65536) (hc : l.length ≤ c) (_hcm : c ≤ 9223372036854775807) (hz : a = none → c = 0) (w : World) (hr : Rd w 0 w.heap.size a l) :
    Calls Try.prog 6 #[.slice a l.length c, .int .u8 k] w fun e w' => e = .returned (.bool true) ∧ Below w.heap.size w w' := by
  have HZ := Lib.hid hz
  have HR := Lib.hid hr
  clear hz hr
  rcases (show k % 3 = 0 ∨ k % 3 = 1 ∨ k % 3 = 2 from by omega) with hk | hk | hk
  · have t0 : (k % 3 == 0) = true := by rw [beq_iff_eq]; omega
    clear hk
    go_enter Try.func6, Try.ntmps6
    go_wp2_with fail
    refine (live_any _).mono ?_
    rintro e w1 ⟨rfl, hb1⟩
    have HRd := Lib.hid (read_any a l c w1 (by omega) HZ.out ((HR.out.below hb1 (Nat.le_refl _)).wide (Nat.zero_le _) hb1.size))
    go_wp2_with fail
    refine HRd.out.mono ?_
    rintro e w2 ⟨g, rfl, hg, hrd, hb2⟩
    have hb3 : Below w.heap.size w w2 := hb1.trans (hb2.mono hb1.size)
    have hgw : w.heap.size ≤ g := Nat.le_trans hb1.size hg
    have HU := Lib.hid (rUint_max g _ 0 l w2 hrd)
    have hfin := fin_uint l
    have hle := uintOf_le l 0 maxU
    obtain ⟨x, l', e', hR⟩ : ∃ x l' e', uintOf l 0 maxU = (x, l', e') := ⟨_, _, _, rfl⟩
    rw [hR] at HU hfin hle
    change Fin l (un x) l' e' at hfin
    have HLe := Lib.hid hle
    clear hb1 hb2 hg hrd HRd hR hle
    go_wp2_with fail
    refine HU.out.mono ?_
    rintro e w3 ⟨rfl, hrd, hgr⟩
    have hb4 : Below w.heap.size w w3 := hb3.grown hgr hb3.size (fun i hi => by injection hi with hi; omega)
    have HW := Lib.hid (uint_any x (by have h := HLe.out; simp only [maxU] at h; omega) w3)
    generalize un x = M at *
    clear hb3 hgr HU HLe
    go_wp2_with fail
    refine HW.out.mono ?_
    rintro e w4 ⟨A4, c4, rfl, _, _, _, hr4, hb5⟩
    have hb6 : Below w.heap.size w w4 := hb4.trans (hb5.mono hb4.size)
    have hrd4 := hrd.below hb5 hrd.lt
    clear HW hb5 hrd hb4
    have HE := Lib.hid (err_any g _ _ _ w4 hrd4)
    have HL := Lib.hid (left_any g _ _ _ w4 hrd4)
    rcases hfin with ⟨he, rfl⟩ | ⟨rfl, t, hM, hD, ht0, htl⟩
    · have hne : ((e' : Int) != 0) = true := by rw [bne_iff_ne]; omega
      clear he hrd4 hr4
      go_wp2_with fail
      refine HE.out.mono ?_
      rintro e w5 ⟨rfl, rfl⟩
      go_wp2_with fail
      refine HL.out.mono ?_
      rintro e w5 ⟨rfl, rfl⟩
      go_wp2
      go_ret
      exact ⟨rfl, hb6⟩
    · have hD1 : l'.length + t ≤ l.length := by rw [hD, List.length_drop]; omega
      have hD2 : l.length ≤ l'.length + t := by rw [hD, List.length_drop]; omega
      have hMl : M.length = t := by rw [hM, List.length_take]; omega
      have HQ := Lib.hid (equal_same A4 a c4 c M.length (l.length - l'.length) _ _ _ _ M w4 rfl (by omega) hr4 (by have h := (HR.out.below hb6 (Nat.le_refl _)).take t; rw [← hM] at h; exact h))
      clear hD hM hMl hrd4 hr4
      go_wp2_with fail
      refine HE.out.mono ?_
      rintro e w5 ⟨rfl, rfl⟩
      go_wp2_with fail
      refine HL.out.mono ?_
      rintro e w5 ⟨rfl, rfl⟩
      go_wp2_with fail
      refine HQ.out.mono ?_
      rintro e w5 ⟨rfl, rfl⟩
      go_wp2
      go_ret
      exact ⟨rfl, hb6⟩
  · have t0 : (k % 3 == 0) = false := by rw [beq_eq_false_iff_ne]; omega
    have t1 : (k % 3 == 1) = true := by rw [beq_iff_eq]; omega
    clear hk
    go_enter Try.func6, Try.ntmps6
    go_wp2_with fail
    refine (live_any _).mono ?_
    rintro e w1 ⟨rfl, hb1⟩
    have HRd := Lib.hid (read_any a l c w1 (by omega) HZ.out ((HR.out.below hb1 (Nat.le_refl _)).wide (Nat.zero_le _) hb1.size))
    go_wp2_with fail
    refine HRd.out.mono ?_
    rintro e w2 ⟨g, rfl, hg, hrd, hb2⟩
    have hb3 : Below w.heap.size w w2 := hb1.trans (hb2.mono hb1.size)
    have hgw : w.heap.size ≤ g := Nat.le_trans hb1.size hg
    have HU := Lib.hid (rInt_any g _ 0 l w2 hrd)
    have hfin := fin_uint l
    have hle := uintOf_le l 0 maxU
    obtain ⟨x, l', e', hR⟩ : ∃ x l' e', uintOf l 0 maxU = (x, l', e') := ⟨_, _, _, rfl⟩
    rw [hR] at HU hfin hle
    change Fin l (un x) l' e' at hfin
    have hi : unInt (zag x) = un x := by rw [unInt, zig_zag]
    have hz : -9223372036854775808 ≤ zag x ∧ zag x ≤ 9223372036854775807 := by
      have h := hle
      simp only [maxU] at h
      unfold zag
      split <;> omega
    have HI := Lib.hid (int_any (zag x) hz.1 hz.2)
    rw [hi] at HI
    generalize un x = M at *
    generalize zag x = y at *
    clear hb1 hb2 hg hrd HRd hR hle hi hz
    go_wp2_with fail
    refine HU.out.mono ?_
    rintro e w3 ⟨rfl, hrd, hgr⟩
    have hb4 : Below w.heap.size w w3 := hb3.grown hgr hb3.size (fun i hi => by injection hi with hi; omega)
    have HW := Lib.hid (HI.out w3)
    clear hb3 hgr HU HI
    go_wp2_with fail
    refine HW.out.mono ?_
    rintro e w4 ⟨A4, c4, rfl, _, _, _, hr4, hb5⟩
    have hb6 : Below w.heap.size w w4 := hb4.trans (hb5.mono hb4.size)
    have hrd4 := hrd.below hb5 hrd.lt
    clear HW hb5 hrd hb4
    have HE := Lib.hid (err_any g _ _ _ w4 hrd4)
    have HL := Lib.hid (left_any g _ _ _ w4 hrd4)
    rcases hfin with ⟨he, rfl⟩ | ⟨rfl, t, hM, hD, ht0, htl⟩
    · have hne : ((e' : Int) != 0) = true := by rw [bne_iff_ne]; omega
      clear he hrd4 hr4
      go_wp2_with fail
      refine HE.out.mono ?_
      rintro e w5 ⟨rfl, rfl⟩
      go_wp2_with fail
      refine HL.out.mono ?_
      rintro e w5 ⟨rfl, rfl⟩
      go_wp2
      go_ret
      exact ⟨rfl, hb6⟩
    · have hD1 : l'.length + t ≤ l.length := by rw [hD, List.length_drop]; omega
      have hD2 : l.length ≤ l'.length + t := by rw [hD, List.length_drop]; omega
      have hMl : M.length = t := by rw [hM, List.length_take]; omega
      have HQ := Lib.hid (equal_same A4 a c4 c M.length (l.length - l'.length) _ _ _ _ M w4 rfl (by omega) hr4 (by have h := (HR.out.below hb6 (Nat.le_refl _)).take t; rw [← hM] at h; exact h))
      clear hD hM hMl hrd4 hr4
      go_wp2_with fail
      refine HE.out.mono ?_
      rintro e w5 ⟨rfl, rfl⟩
      go_wp2_with fail
      refine HL.out.mono ?_
      rintro e w5 ⟨rfl, rfl⟩
      go_wp2_with fail
      refine HQ.out.mono ?_
      rintro e w5 ⟨rfl, rfl⟩
      go_wp2
      go_ret
      exact ⟨rfl, hb6⟩
  · have t0 : (k % 3 == 0) = false := by rw [beq_eq_false_iff_ne]; omega
    have t1 : (k % 3 == 1) = false := by rw [beq_eq_false_iff_ne]; omega
    have t2 : (k % 3 == 2) = true := by rw [beq_iff_eq]; omega
    clear hk
    go_enter Try.func6, Try.ntmps6
    go_wp2_with fail
    refine (live_any _).mono ?_
    rintro e w1 ⟨rfl, hb1⟩
    have HRd := Lib.hid (read_any a l c w1 (by omega) HZ.out ((HR.out.below hb1 (Nat.le_refl _)).wide (Nat.zero_le _) hb1.size))
    go_wp2_with fail
    refine HRd.out.mono ?_
    rintro e w2 ⟨g, rfl, hg, hrd, hb2⟩
    have hb3 : Below w.heap.size w w2 := hb1.trans (hb2.mono hb1.size)
    have hgw : w.heap.size ≤ g := Nat.le_trans hb1.size hg
    have HU := Lib.hid (rText_any g _ 0 l (l.length : Int) w2 hrd (by omega) (by omega))
    obtain ⟨hfin, hle⟩ := fin_text l (l.length : Int)
    obtain ⟨x, l', e', hR⟩ : ∃ x l' e', textOfR l 0 (l.length : Int) = (x, l', e') := ⟨_, _, _, rfl⟩
    rw [hR] at HU hfin hle
    change Fin l (unText x) l' e' at hfin
    change x.length ≤ l.length at hle
    have HI := Lib.hid (text_any ⟨x.toArray⟩ (by show x.length ≤ _; omega))
    rw [show (⟨x.toArray⟩ : ByteArray).data.toList = x from rfl] at HI
    generalize unText x = M at *
    clear hb1 hb2 hg hrd HRd hR hle
    go_wp2_with fail
    refine HU.out.mono ?_
    rintro e w3 ⟨rfl, hrd, hgr⟩
    have hb4 : Below w.heap.size w w3 := hb3.grown hgr hb3.size (fun i hi => by injection hi with hi; omega)
    have HW := Lib.hid (HI.out w3)
    clear hb3 hgr HU HI
    go_wp2_with fail
    refine HW.out.mono ?_
    rintro e w4 ⟨A4, c4, rfl, _, _, _, hr4, hb5⟩
    have hb6 : Below w.heap.size w w4 := hb4.trans (hb5.mono hb4.size)
    have hrd4 := hrd.below hb5 hrd.lt
    clear HW hb5 hrd hb4
    have HE := Lib.hid (err_any g _ _ _ w4 hrd4)
    have HL := Lib.hid (left_any g _ _ _ w4 hrd4)
    rcases hfin with ⟨he, rfl⟩ | ⟨rfl, t, hM, hD, ht0, htl⟩
    · have hne : ((e' : Int) != 0) = true := by rw [bne_iff_ne]; omega
      clear he hrd4 hr4
      go_wp2_with fail
      refine HE.out.mono ?_
      rintro e w5 ⟨rfl, rfl⟩
      go_wp2_with fail
      refine HL.out.mono ?_
      rintro e w5 ⟨rfl, rfl⟩
      go_wp2
      go_ret
      exact ⟨rfl, hb6⟩
    · have hD1 : l'.length + t ≤ l.length := by rw [hD, List.length_drop]; omega
      have hD2 : l.length ≤ l'.length + t := by rw [hD, List.length_drop]; omega
      have hMl : M.length = t := by rw [hM, List.length_take]; omega
      have HQ := Lib.hid (equal_same A4 a c4 c M.length (l.length - l'.length) _ _ _ _ M w4 rfl (by omega) hr4 (by have h := (HR.out.below hb6 (Nat.le_refl _)).take t; rw [← hM] at h; exact h))
      clear hD hM hMl hrd4 hr4
      go_wp2_with fail
      refine HE.out.mono ?_
      rintro e w5 ⟨rfl, rfl⟩
      go_wp2_with fail
      refine HL.out.mono ?_
      rintro e w5 ⟨rfl, rfl⟩
      go_wp2_with fail
      refine HQ.out.mono ?_
      rintro e w5 ⟨rfl, rfl⟩
      go_wp2
      go_ret
      exact ⟨rfl, hb6⟩

theorem walk (a0 : Option Addr) (len0 cap0 : Nat) (z0 : List Int) (a1 : Int) (w : World) (w0 : IsRow .u8 w a0 len0 cap0 z0) (w1 : (Lit.int .u8 a1).wf = true) :
    Calls Try.prog 6 #[.slice a0 len0 cap0, .int .u8 a1] w fun e w' => e = .returned (.bool true) ∧ Below w.heap.size w w' := by
  have hk := bounds_u8 w1
  obtain ⟨l, rfl, h1, h2, h3, h4⟩ := bytes_in w0
  unfold maxLen at h2
  rcases Nat.lt_or_ge 65536 l.length with h | h
  · exact walk_long a0 l.length cap0 a1 h (by omega) w
  · exact walk_short a0 l cap0 a1 hk.1 hk.2 h h1 (by omega) h3 w h4

end Go.Proofs.Ytfobiojeekcgeaa.packForms
