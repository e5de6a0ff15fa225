/-
  The walk of ChainPuts.
-/
import Derived.Test.YtnfmgcgjinonnaaHWTrims
namespace Go.Proofs.Ytnfmgcgjinonnaa
open Go.RowKit

set_option maxRecDepth 100000 in
theorem put_ok {l : List Ver} {v : Ver} (h : fewH l = true) (hv : v.dat.length ≤ 1000) : okLen (putH l v).1 := by
  have h1 := (fewH_yes h).2
  have h2 : sizeH l ≤ 100 * 1000 := by
    have := fewH_len h
    have h3 : ∀ m : List Ver, (∀ x ∈ m, x.dat.length ≤ 1000) → sizeH m ≤ m.length * 1000 := by
      intro m
      induction m with
      | nil => intro _; simp [sizeH]
      | cons x m ih =>
        intro h
        have e : sizeH (x :: m) = x.dat.length + sizeH m := by simp [sizeH]
        have h3 := ih (fun y hy => h y (List.mem_cons_of_mem _ hy))
        have h4 := h x (List.mem_cons_self ..)
        rw [e, List.length_cons]
        omega
    have h4 := h3 l (fewH_yes h).1
    omega
  have h0 : okLen ([] : List Ver) := ⟨Nat.zero_le _, Nat.zero_le _⟩
  have h5 : sizeH (l ++ [v]) = sizeH l + v.dat.length := by
    rw [sizeH_app]
    simp [sizeH]
  have h6 : (l ++ [v]).length = l.length + 1 := by simp
  have h7 : okLen (l ++ [v]) := ⟨by omega, by omega⟩
  unfold putH
  cases (rightC l && rightC [v])
  · rw [if_neg (by decide)]
    exact h0
  · rw [if_pos rfl]
    by_cases h8 : v.tm ≤ lastH l
    · rw [if_pos h8]
      exact h0
    · rw [if_neg h8]
      exact h7

namespace chainPuts
set_option maxRecDepth 100000 in
set_option maxHeartbeats 4000000 in
theorem walk (K : ChainC) (l : List Ver) (A : Option Addr) (c : Nat) (v : Ver) (B : Option Addr) (d : Nat) (w : World) (hl : ChH w w.heap.size A c l) (hv : v.tm < 18446744073709551616) (hs : Sl w w.heap.size B d v.dat) :
    Calls Try.prog 5 #[.slice A l.length c, verVal v B d] w fun r w' => r = .returned (.bool true) ∧ Below w.heap.size w w' := by
  obtain ⟨tm, gone, dat⟩ := v
  simp only at hv hs
  unfold verVal
  simp only
  obtain ⟨w0, hw0⟩ : ∃ y, w.alloc (.cells #[.int .u64 tm, .bool gone, .slice B dat.length d] 30) = y := ⟨_, rfl⟩
  have s0 : w0.heap.size = w.heap.size + 1 := by rw [← hw0]; simp
  have b0 : Below w.heap.size w w0 := by rw [← hw0]; exact (Below.refl _ w).alloc (Nat.le_refl _) _
  have h0 : w0.heap[w.heap.size]? = some (.cells #[.int .u64 tm, .bool gone, .slice B dat.length d] 30 (0, 0)) := by rw [← hw0]; exact heap_alloc_new w _
  have hl0 := hl.below b0 (Nat.le_refl _) (hi' := w0.heap.size) (by omega)
  have hs0 := hs.below b0 (Nat.le_refl _) (hi' := w0.heap.size) (by omega)
  have F := fromH K w0
  have HL := Lib.hid F.live
  have HFA := Lib.hid (F.few l A c hl0)
  have hb6 := Below.refl w0.heap.size w0
  have HX : Hid (∀ wx, Below w0.heap.size w0 wx → wx.heap[w.heap.size]? = some (.cells #[.int .u64 tm, .bool gone, .slice B dat.length d] 30 (0, 0))) := Lib.hid fun wx hb => heap_below h0 hb (by omega)
  have HB0 := Lib.hid b0
  have HW0 := Lib.hid hw0
  have HDL := Lib.hid (Nat.le_trans hs0.1 hs0.2.1)
  by_cases fa : fewH l = true
  · rw [fa] at HFA
    by_cases fd : dat.length ≤ 1000
    · have d1 : decide ((1000 : Int) < (dat.length : Int)) = false := by rw [decide_eq_false_iff_not]; omega
      have la := fewH_len fa
      have lp := put_ok (v := ⟨tm, gone, dat⟩) fa fd
      have hle := (fewH_yes fa).2
      obtain ⟨m, hm⟩ : ∃ m, (putH l ⟨tm, gone, dat⟩).1 = m := ⟨_, rfl⟩
      obtain ⟨e, he⟩ : ∃ e, (putH l ⟨tm, gone, dat⟩).2 = e := ⟨_, rfl⟩
      have H1 : Hid (∀ wx, Below w0.heap.size w0 wx → Calls Try.prog 26 #[.slice A l.length c, .agg #[.int .u64 tm, .bool gone, .slice B dat.length d]] wx fun r w' => ∃ C q, r = .returned (.tuple #[.slice C m.length q, .int .i64 e]) ∧ ChH w' w'.heap.size C q m ∧ Below w0.heap.size w0 w' ∧ Below wx.heap.size wx w') := Lib.hid (by
        have h := F.put l A c ⟨tm, gone, dat⟩ B d la hl0 hv (by simp only; omega) hs0
        rw [hm, he] at h
        exact h)
      have H2 : Hid (∀ wx, Below w0.heap.size w0 wx → Calls Try.prog 27 #[.slice A l.length c, .agg #[.int .u64 tm, .bool gone, .slice B dat.length d]] wx fun r w' => ∃ C q, r = .returned (.tuple #[.slice C m.length q, .int .i64 e]) ∧ ChH w' w'.heap.size C q m ∧ Below w0.heap.size w0 w' ∧ Below wx.heap.size wx w') := Lib.hid (by
        have h := F.put2 l A c ⟨tm, gone, dat⟩ B d la hl0 hv hs0
        rw [hm, he] at h
        exact h)
      rw [hm] at lp
      have ee : (e == e) = true := beq_self_eq_true e
      have LA := Lib.hid la
      have LT := Lib.hid lp
      have HLE := Lib.hid hle
      have HC := Lib.hid hl0
      clear F K hl hl0 hs hs0 fa la lp hm he hle h0 hv b0 s0 hw0 fd
      go_enter Try.func5, Try.ntmps5
      go_upto_region 1 with fail
      rw [HW0.out]
      clear HW0
      go_upto_region 3 with (first
        | (go_at_call 10; (with_reducible refine (HL.out _ (by assumption)).mono ?_); rintro r w' ⟨rfl, hb6⟩)
        | (go_at_call 11; (with_reducible refine (HFA.out _ (by assumption)).mono ?_); rintro r w' ⟨rfl, hb6⟩; have x2 := cell_of_row w' _ 2 _ _ _ (HX.out _ hb6)))
      have HB6 := Lib.hid hb6
      obtain ⟨hlc, hcm, hnil, ms, hms, hg, hok⟩ := HC.out.below hb6 (Nat.le_refl _) hb6.size
      have hml : ms.length = l.length := by rw [← hms, List.length_map]
      have HMS := Lib.hid hms
      have HOK := Lib.hid hok
      have HML := Lib.hid hml
      have HG := Lib.hid (hg.below ((Below.refl _ w').alloc (Nat.le_refl _) (.cells #[] 30)) (Nat.le_refl _))
      have HNIL := Lib.hid hnil
      clear hok hg hnil hms hb6 hml hlc hcm HL HFA x2
      go_upto_region 4 with (at_builtin; refine append_row _ rfl _ _ 22 30 40 mvF mvInfo Try.underlying22 rfl w'.heap.size _ [] rfl (OwnG.made w' 30 3 mvCells) 0 _ A l.length c ms rfl HML.out.symm HNIL.out HG.out (by have := HML.out; have := HLE.out; simp [maxLen]; omega) (by have := HML.out; have := HLE.out; simp; omega) (by simp) ?_; intro v1 w5 ho5 hg5; have HO5 := Lib.hid ho5; have HB5 := Lib.hid (((Below.refl _ w').alloc (Nat.le_refl _) (.cells #[] 30)).grown hg5 (by simp) (fun k hk => ((OwnG.made w' 30 3 mvCells).lt k hk).1)); clear ho5 hg5)
      obtain ⟨A9, c9, rfl, hch9⟩ := own_ch HO5.out (fun x hx => (HOK.out x hx).below HB5.out (Nat.le_refl _) (Nat.le_refl _)) HB5.out.size (by rw [List.nil_append, HMS.out])
      have hb7 := HB6.out.trans (HB5.out.mono HB6.out.size)
      have HC5 := Lib.hid (HC.out.below hb7 (Nat.le_refl _) hb7.size)
      have HC9 := Lib.hid hch9
      have HX1 := Lib.hid (H1.out _ hb7)
      have x0 := cell_of_row w5 _ 0 _ _ _ (HX.out _ hb7)
      have x1 := cell_of_row w5 _ 1 _ _ _ (HX.out _ hb7)
      have x2 := cell_of_row w5 _ 2 _ _ _ (HX.out _ hb7)
      clear hch9 hb7 HO5 HB5 H1
      go_wp2_with fail
      refine HX1.out.mono ?_
      rintro r w6 ⟨B1, d1, rfl, s1, k1, k11⟩
      have HX2 := Lib.hid (H2.out _ k1)
      have HS1 := Lib.hid s1
      have HC5' := Lib.hid (HC5.out.below k11 (Nat.le_refl _) k11.size)
      have HC9' := Lib.hid (HC9.out.below k11 (Nat.le_refl _) k11.size)
      have x0 := cell_of_row w6 _ 0 _ _ _ (HX.out _ k1)
      have x1 := cell_of_row w6 _ 1 _ _ _ (HX.out _ k1)
      have x2 := cell_of_row w6 _ 2 _ _ _ (HX.out _ k1)
      clear HX1 s1 k1 k11 HC5 HC9 H2
      go_wp2_with fail
      refine HX2.out.mono ?_
      rintro r w7 ⟨B2, d2, rfl, s2, k2, k21⟩
      have HX3 := Lib.hid (same_both LT.out (HS1.out.below k21 (Nat.le_refl _) k21.size) s2 k2)
      have HC57 := Lib.hid (HC5'.out.below k21 (Nat.le_refl _) k21.size)
      have HC97 := Lib.hid (HC9'.out.below k21 (Nat.le_refl _) k21.size)
      clear HX2 s2 k2 k21 HC5' HC9' x0 x1 x2
      go_wp2_with fail
      refine HX3.out.mono ?_
      rintro r w8 ⟨rfl, k3, k31⟩
      have HX4 := Lib.hid (same_both LA.out (HC57.out.below k31 (Nat.le_refl _) k31.size) (HC97.out.below k31 (Nat.le_refl _) k31.size) k3)
      clear HX3 k3 k31
      go_wp2_with fail
      refine HX4.out.mono ?_
      rintro r w9 ⟨rfl, k4, _⟩
      go_wp2_with fail
      go_ret
      exact ⟨rfl, HB0.out.trans (k4.mono HB0.out.size)⟩
    · have d1 : decide ((1000 : Int) < (dat.length : Int)) = true := by rw [decide_eq_true_iff]; omega
      clear F K hl hl0 hs hs0 fa h0 hv b0 s0 hw0 fd
      go_enter Try.func5, Try.ntmps5
      go_upto_region 1 with fail
      rw [HW0.out]
      clear HW0
      go_wp2_with (first
        | (go_at_call 10; (with_reducible refine (HL.out _ (by assumption)).mono ?_); rintro r w' ⟨rfl, hb6⟩)
        | (go_at_call 11; (with_reducible refine (HFA.out _ (by assumption)).mono ?_); rintro r w' ⟨rfl, hb6⟩; have x2 := cell_of_row w' _ 2 _ _ _ (HX.out _ hb6)))
      go_ret
      exact ⟨rfl, HB0.out.trans (hb6.mono HB0.out.size)⟩
  · have fa' : fewH l = false := by simpa using fa
    rw [fa'] at HFA
    clear F K hl hl0 hs hs0 fa fa' h0 hv b0 s0 hw0
    go_enter Try.func5, Try.ntmps5
    go_upto_region 1 with fail
    rw [HW0.out]
    clear HW0
    go_wp2_with (first
      | (go_at_call 10; (with_reducible refine (HL.out _ (by assumption)).mono ?_); rintro r w' ⟨rfl, hb6⟩)
      | (go_at_call 11; (with_reducible refine (HFA.out _ (by assumption)).mono ?_); rintro r w' ⟨rfl, hb6⟩))
    go_ret
    exact ⟨rfl, HB0.out.trans (hb6.mono HB0.out.size)⟩
end chainPuts
end Go.Proofs.Ytnfmgcgjinonnaa
