/-
  Package value: Parse of what was printed; and all contracts together.
-/
import Derived.Test.YtepniiaojhiogaaDoorVDX
import Derived.Test.YtepniiaojhiogaaDoorVDY
import Derived.Test.YtepniiaojhiogaaDoorVDT
import Derived.Test.YtepniiaojhiogaaDoorVDP
import Derived.Test.YtepniiaojhiogaaDoorVDB
namespace Go.Proofs.YtepniiaojhiogaaDoor
open Go.RowKit

theorem more_first {k : Int} {more : List UInt8} (h : moreOk k more = true) (hk : k = 1) : moreOk 1 more = true := by subst hk; exact h

set_option maxRecDepth 100000 in
set_option maxHeartbeats 4000000 in
theorem parse_num (n : Int) (h0 : -9223372036854775808 ≤ n) (h1 : n ≤ 9223372036854775807) (more : List UInt8) (hm : moreOk 1 more = true) (hlen : more.length ≤ 1000000) (w : World) :
    Calls Tryd.prog 23 #[.string ⟨(intL n ++ more).toArray⟩] w fun e w' => e = retTake (⟨1, n, ⟨#[]⟩⟩, (intL n).length, 0) ∧ Below w.heap.size w w' := by
  obtain ⟨c, r, hcut, hnums, _⟩ := intL_cut n
  have hLL := intL_len n h0 h1
  obtain ⟨s, hs⟩ : ∃ s : ByteArray, s = ⟨(intL n ++ more).toArray⟩ := ⟨_, rfl⟩
  have hsl : s.data.toList = intL n ++ more := by rw [hs]
  rw [← hs]
  have hsz : s.size = (intL n).length + more.length := by
    show s.data.toList.length = _
    rw [hsl, List.length_append]
  obtain ⟨d, hd⟩ : ∃ d : ByteArray, d = ⟨(c :: r ++ more).toArray⟩ := ⟨_, rfl⟩
  have hdl : d.data.toList = c :: (r ++ more) := by rw [hd]; rfl
  have hds : d.size + firstOf n = s.size := by
    have e1 : d.size = (c :: (r ++ more)).length := by rw [← hdl]; rfl
    rw [e1, hsz, hcut, List.length_append]
    unfold firstOf
    split <;> simp <;> omega
  have hw0 := box_below w #[.int .i64 0, .int .i64 0, .string ⟨#[]⟩] 23
  have htrim : ∀ w, Calls Tryd.prog 46 #[.string s, .string ⟨#[45]⟩] w fun e w' => e = .returned (.string d) ∧ w' = w := fun w => by
    by_cases hn : n < 0
    · have := trim_yes s ⟨#[45]⟩ (c :: r ++ more) (by rw [hsl, hcut, if_pos hn]; simp) (by omega) w
      rw [← hd] at this
      exact this
    · have hsd : s = d := by
        rw [hs, hd, hcut, if_neg hn]
        simp
      rw [← hsd]
      refine trim_no s ⟨#[45]⟩ ?_ (by omega) w
      rw [hsl, hcut, if_neg hn]
      have hc := num_tri (hnums c (by simp))
      intro e
      have : c = 45 := by
        have e1 : (⟨#[45]⟩ : ByteArray).size = 1 := rfl
        rw [e1] at e
        simp at e
        exact e
      rw [this] at hc
      exact absurd hc (by decide)
  have HTrim := Lib.hid htrim
  have hd0 : 0 < d.size := by
    have e1 : d.size = (c :: (r ++ more)).length := by rw [← hdl]; rfl
    rw [e1]; simp
  have hdc : d[0]'hd0 = c := by rw [at_list d _ hdl 0 hd0]; rfl
  have hne : ¬ d.toList = [] := by rw [ByteArray.toList_eq, hdl]; simp
  have hne2 : d.toList.isEmpty = false := by rw [ByteArray.toList_eq, hdl]; rfl
  have hne3 : (!d.toList.isEmpty) = true := by rw [hne2]; rfl
  have hd0I : (0 : Int) < (d.size : Int) := by omega
  have HDig := Lib.hid (digit_any (d[0]'hd0))
  rw [hdc, hnums c (by simp), ← hdc] at HDig
  have hfirst : (s.size : Int) - (d.size : Int) = (firstOf n : Int) := by omega
  have hnum := fun w => vNumber_any n h0 h1 more hm hlen s hsl (firstOf n) rfl w
  rw [← hfirst] at hnum
  simp only [retTake, V.val] at hnum
  have HNum := Lib.hid hnum
  clear hnum
  have hf1 : firstOf n ≤ 1 := by
    unfold firstOf
    split
    · exact Nat.le_refl _
    · exact Nat.zero_le _
  have hwr : IntKind.i64.wrap ((s.size : Int) - (d.size : Int)) = (s.size : Int) - (d.size : Int) := IntWalk.i64_in _ (by omega)
  clear hf1
  have hx0 := Boxed.new w 0 0 ⟨#[]⟩
  have HX0 := Lib.hid hx0
  have HB0 := Lib.hid hw0
  generalize (intL n).length = L at *
  clear hcut hnums hs hsl hsz hd hdl hds hw0 htrim hdc hx0 hfirst
  go_enter Tryd.func23, Tryd.ntmps23
  go_wp2_with (first
    | (go_at_call 46; refine (HTrim.out _).mono ?_; rintro r w' ⟨rfl, rfl⟩)
    | (go_at_call 47; refine (HDig.out _).mono ?_; rintro r w' ⟨rfl, rfl⟩))
  refine (HNum.out _).mono ?_
  rintro r w2 ⟨rfl, hb2⟩
  have HX2 := Lib.hid (HX0.out.below hb2)
  have HB2 := Lib.hid (HB0.out.trans (hb2.mono HB0.out.size))
  clear hb2
  obtain ⟨r0, r1, r2⟩ := HX2.out.cells
  have f0 := HX2.out.frozen 0
  have f1 := HX2.out.frozen 1
  have f2 := HX2.out.frozen 2
  have hlx2 := HX2.out.lt
  go_wp2_with fail
  obtain ⟨t0, t1, t2⟩ := (HX2.out.set3' 1 n ⟨#[]⟩).cells
  have HP := Lib.hid (Below.set3' HB2.out (Nat.le_refl _) (.int .i64 1) (.int .i64 n) (.string ⟨#[]⟩))
  exact bodyPost_ret (v := .tuple #[.agg #[.int .i64 1, .int .i64 n, .string ⟨#[]⟩], .int .i64 (L : Int), .int .i64 0]) (by simp [results, Tryd.results23, go_sem, t0, t1, t2]) rfl ⟨rfl, HP.out⟩
/-- What stands at the front is no number. -/
theorem front_no (s : ByteArray) (c : UInt8) (t : List UInt8) (hs : s.data.toList = c :: t) (h45 : c ≠ 45) (hc : isNum c = false) (hn : s.size ≤ 4611686018427387904) :
    (∀ w, Calls Tryd.prog 46 #[.string s, .string ⟨#[45]⟩] w fun e w' => e = .returned (.string s) ∧ w' = w) ∧ ∃ h : 0 < s.size, (∀ w, Calls Tryd.prog 47 #[.int .u8 ((s[0]'h).toNat : Int)] w fun e w' => e = .returned (.bool false) ∧ w' = w) := by
  have h0 : 0 < s.size := by
    have e1 : s.size = (c :: t).length := by rw [← hs]; rfl
    rw [e1]; simp
  refine ⟨fun w => trim_no s ⟨#[45]⟩ ?_ hn w, h0, fun w => ?_⟩
  · rw [hs]
    intro e
    have e1 : (⟨#[45]⟩ : ByteArray).size = 1 := rfl
    rw [e1] at e
    simp at e
    exact h45 e
  · have := digit_any (s[0]'h0) w
    rw [at_list s _ hs 0 h0] at this ⊢
    simp only [List.getElem_cons_zero] at this ⊢
    rw [hc] at this
    exact this
theorem take_one {s : ByteArray} {c b : UInt8} {t : List UInt8} (hs : s.data.toList = c :: t) (h : c ≠ b) : s.data.toList.take (⟨#[b]⟩ : ByteArray).size ≠ (⟨#[b]⟩ : ByteArray).data.toList := by
  rw [hs]
  intro e
  have e1 : (⟨#[b]⟩ : ByteArray).size = 1 := rfl
  rw [e1] at e
  simp at e
  exact h e

set_option maxRecDepth 100000 in
set_option maxHeartbeats 2000000 in
theorem parse_text (tl : List UInt8) (h64 : tl.length ≤ 64) (more : List UInt8) (hlen : more.length ≤ 1000000) (w : World) :
    Calls Tryd.prog 23 #[.string ⟨(34 :: (escL tl ++ 34 :: more)).toArray⟩] w fun e w' => e = retTake (⟨3, 0, ⟨tl.toArray⟩⟩, (escL tl).length + 2, 0) ∧ Below w.heap.size w w' := by
  obtain ⟨s, hs⟩ : ∃ s : ByteArray, s = ⟨(34 :: (escL tl ++ 34 :: more)).toArray⟩ := ⟨_, rfl⟩
  have hsl : s.data.toList = 34 :: (escL tl ++ 34 :: more) := by rw [hs]
  rw [← hs]
  have hel := escL_len tl
  have hsz : s.size ≤ 4611686018427387904 := by
    have e1 : s.size = (34 :: (escL tl ++ 34 :: more)).length := by rw [← hsl]; rfl
    rw [e1]
    simp
    omega
  obtain ⟨ht, h0, hd⟩ := front_no s 34 _ hsl (by decide) (by decide) hsz
  have htx := fun w => vText_in tl h64 more hlen s hsl w
  simp only [retTake, V.val] at htx
  have HT := Lib.hid ht
  have HD := Lib.hid hd
  have HP := Lib.hid (fun w => has_yes s ⟨#[34]⟩ (escL tl ++ 34 :: more) (by rw [hsl]; rfl) hsz w)
  have HTx := Lib.hid htx
  have hne : ¬ s.toList = [] := by rw [ByteArray.toList_eq, hsl]; simp
  have hne2 : s.toList.isEmpty = false := by rw [ByteArray.toList_eq, hsl]; first | rfl | simp
  have hne3 : (!s.toList.isEmpty) = true := by rw [hne2]; rfl
  have h0I : (0 : Int) < (s.size : Int) := by omega
  have HX0 := Lib.hid (Boxed.new w 0 0 ⟨#[]⟩)
  have HB0 := Lib.hid (box_below w #[.int .i64 0, .int .i64 0, .string ⟨#[]⟩] 23)
  generalize (escL tl).length + 2 = L at *
  clear ht hd hs hsl htx hel
  go_enter Tryd.func23, Tryd.ntmps23
  go_wp2_with (first
    | (go_at_call 46; refine (HT.out _).mono ?_; rintro r w' ⟨rfl, rfl⟩)
    | (go_at_call 47; refine (HD.out _).mono ?_; rintro r w' ⟨rfl, rfl⟩)
    | (go_at_call 49; refine (HP.out _).mono ?_; rintro r w' ⟨rfl, rfl⟩))
  refine (HTx.out _).mono ?_
  rintro r w2 ⟨rfl, hb2⟩
  have HX2 := Lib.hid (HX0.out.below hb2)
  have HB2 := Lib.hid (HB0.out.trans (hb2.mono HB0.out.size))
  clear hb2
  obtain ⟨r0, r1, r2⟩ := HX2.out.cells
  have f0 := HX2.out.frozen 0
  have f1 := HX2.out.frozen 1
  have f2 := HX2.out.frozen 2
  have hlx2 := HX2.out.lt
  go_wp2_with fail
  obtain ⟨t0, t1, t2⟩ := (HX2.out.set3' 3 0 ⟨tl.toArray⟩).cells
  have HPo := Lib.hid (Below.set3' HB2.out (Nat.le_refl _) (.int .i64 3) (.int .i64 0) (.string ⟨tl.toArray⟩))
  exact bodyPost_ret (v := .tuple #[.agg #[.int .i64 3, .int .i64 0, .string ⟨tl.toArray⟩], .int .i64 (L : Int), .int .i64 0]) (by simp [results, Tryd.results23, go_sem, t0, t1, t2]) rfl ⟨rfl, HPo.out⟩

set_option maxRecDepth 100000 in
set_option maxHeartbeats 2000000 in
theorem parse_true (more : List UInt8) (hm : moreOk 2 more = true) (hlen : more.length ≤ 1000000) (w : World) :
    Calls Tryd.prog 23 #[.string ⟨([116, 114, 117, 101] ++ more).toArray⟩] w fun e w' => e = retTake (⟨2, 1, ⟨#[]⟩⟩, 4, 0) ∧ Below w.heap.size w w' := by
  obtain ⟨s, hs⟩ : ∃ s : ByteArray, s = ⟨([116, 114, 117, 101] ++ more).toArray⟩ := ⟨_, rfl⟩
  have hsl : s.data.toList = [116, 114, 117, 101] ++ more := by rw [hs]
  rw [← hs]
  have hsz : s.size ≤ 4611686018427387904 := by
    have e1 : s.size = ([116, 114, 117, 101] ++ more).length := by rw [← hsl]; rfl
    rw [e1]
    simp
    omega
  obtain ⟨ht, h0, hd⟩ := front_no s 116 _ hsl (by decide) (by decide) hsz
  have HT := Lib.hid ht
  have HD := Lib.hid hd
  have HP := Lib.hid (fun w => has_no s ⟨#[34]⟩ (take_one hsl (by decide)) hsz w)
  have HW := Lib.hid (fun w => word_yes s ⟨#[116, 114, 117, 101]⟩ more (by rw [hsl]) hsz hm w)
  have HBo := Lib.hid (fun w => vBool_any true w)
  have hne : ¬ s.toList = [] := by rw [ByteArray.toList_eq, hsl]; simp
  have hne2 : s.toList.isEmpty = false := by rw [ByteArray.toList_eq, hsl]; first | rfl | simp
  have hne3 : (!s.toList.isEmpty) = true := by rw [hne2]; rfl
  have h0I : (0 : Int) < (s.size : Int) := by omega
  have HX0 := Lib.hid (Boxed.new w 0 0 ⟨#[]⟩)
  have HB0 := Lib.hid (box_below w #[.int .i64 0, .int .i64 0, .string ⟨#[]⟩] 23)
  clear ht hd hs hsl
  go_enter Tryd.func23, Tryd.ntmps23
  go_wp2_with (first
    | (go_at_call 46; refine (HT.out _).mono ?_; rintro r w' ⟨rfl, rfl⟩)
    | (go_at_call 47; refine (HD.out _).mono ?_; rintro r w' ⟨rfl, rfl⟩)
    | (go_at_call 49; refine (HP.out _).mono ?_; rintro r w' ⟨rfl, rfl⟩)
    | (go_at_call 51; refine (HW.out _).mono ?_; rintro r w' ⟨rfl, rfl⟩))
  refine (HBo.out _).mono ?_
  rintro r w2 ⟨rfl, hb2⟩
  have HX2 := Lib.hid (HX0.out.below hb2)
  have HB2 := Lib.hid (HB0.out.trans (hb2.mono HB0.out.size))
  clear hb2
  obtain ⟨r0, r1, r2⟩ := HX2.out.cells
  have f0 := HX2.out.frozen 0
  have f1 := HX2.out.frozen 1
  have f2 := HX2.out.frozen 2
  have hlx2 := HX2.out.lt
  go_wp2_with fail
  obtain ⟨t0, t1, t2⟩ := (HX2.out.set3' 2 1 ⟨#[]⟩).cells
  have HPo := Lib.hid (Below.set3' HB2.out (Nat.le_refl _) (.int .i64 2) (.int .i64 1) (.string ⟨#[]⟩))
  exact bodyPost_ret (v := .tuple #[.agg #[.int .i64 2, .int .i64 1, .string ⟨#[]⟩], .int .i64 4, .int .i64 0]) (by simp [results, Tryd.results23, go_sem, t0, t1, t2]) rfl ⟨rfl, HPo.out⟩

set_option maxRecDepth 100000 in
set_option maxHeartbeats 2000000 in
theorem parse_false (more : List UInt8) (hm : moreOk 2 more = true) (hlen : more.length ≤ 1000000) (w : World) :
    Calls Tryd.prog 23 #[.string ⟨([102, 97, 108, 115, 101] ++ more).toArray⟩] w fun e w' => e = retTake (⟨2, 0, ⟨#[]⟩⟩, 5, 0) ∧ Below w.heap.size w w' := by
  obtain ⟨s, hs⟩ : ∃ s : ByteArray, s = ⟨([102, 97, 108, 115, 101] ++ more).toArray⟩ := ⟨_, rfl⟩
  have hsl : s.data.toList = [102, 97, 108, 115, 101] ++ more := by rw [hs]
  rw [← hs]
  have hsz : s.size ≤ 4611686018427387904 := by
    have e1 : s.size = ([102, 97, 108, 115, 101] ++ more).length := by rw [← hsl]; rfl
    rw [e1]
    simp
    omega
  obtain ⟨ht, h0, hd⟩ := front_no s 102 _ hsl (by decide) (by decide) hsz
  have HT := Lib.hid ht
  have HD := Lib.hid hd
  have HP := Lib.hid (fun w => has_no s ⟨#[34]⟩ (take_one hsl (by decide)) hsz w)
  have HN := Lib.hid (fun w => word_no s ⟨#[116, 114, 117, 101]⟩ (by rw [hsl]; simp [ByteArray.size]) hsz w)
  have HW := Lib.hid (fun w => word_yes s ⟨#[102, 97, 108, 115, 101]⟩ more (by rw [hsl]) hsz hm w)
  have HBo := Lib.hid (fun w => vBool_any false w)
  have hne : ¬ s.toList = [] := by rw [ByteArray.toList_eq, hsl]; simp
  have hne2 : s.toList.isEmpty = false := by rw [ByteArray.toList_eq, hsl]; first | rfl | simp
  have hne3 : (!s.toList.isEmpty) = true := by rw [hne2]; rfl
  have h0I : (0 : Int) < (s.size : Int) := by omega
  have HX0 := Lib.hid (Boxed.new w 0 0 ⟨#[]⟩)
  have HB0 := Lib.hid (box_below w #[.int .i64 0, .int .i64 0, .string ⟨#[]⟩] 23)
  clear ht hd hs hsl
  go_enter Tryd.func23, Tryd.ntmps23
  go_wp2_with (first
    | (go_at_call 46; refine (HT.out _).mono ?_; rintro r w' ⟨rfl, rfl⟩)
    | (go_at_call 47; refine (HD.out _).mono ?_; rintro r w' ⟨rfl, rfl⟩)
    | (go_at_call 49; refine (HP.out _).mono ?_; rintro r w' ⟨rfl, rfl⟩)
    | (go_at_call 51; with_reducible refine (HN.out _).mono ?_; rintro r w' ⟨rfl, rfl⟩)
    | (go_at_call 51; with_reducible refine (HW.out _).mono ?_; rintro r w' ⟨rfl, rfl⟩))
  refine (HBo.out _).mono ?_
  rintro r w2 ⟨rfl, hb2⟩
  have HX2 := Lib.hid (HX0.out.below hb2)
  have HB2 := Lib.hid (HB0.out.trans (hb2.mono HB0.out.size))
  clear hb2
  obtain ⟨r0, r1, r2⟩ := HX2.out.cells
  have f0 := HX2.out.frozen 0
  have f1 := HX2.out.frozen 1
  have f2 := HX2.out.frozen 2
  have hlx2 := HX2.out.lt
  go_wp2_with fail
  obtain ⟨t0, t1, t2⟩ := (HX2.out.set3' 2 0 ⟨#[]⟩).cells
  have HPo := Lib.hid (Below.set3' HB2.out (Nat.le_refl _) (.int .i64 2) (.int .i64 0) (.string ⟨#[]⟩))
  exact bodyPost_ret (v := .tuple #[.agg #[.int .i64 2, .int .i64 0, .string ⟨#[]⟩], .int .i64 5, .int .i64 0]) (by simp [results, Tryd.results23, go_sem, t0, t1, t2]) rfl ⟨rfl, HPo.out⟩

theorem vParse_any : ParseC := by
  intro v more w hr h0 h1 hm hlen
  obtain ⟨k, n, s⟩ := v
  simp only at h0 h1 hm
  rcases right_kind hr with hk | hk | hk
  · simp only at hk
    subst hk
    have hs := ba_empty (right_empty hr (by simp))
    simp only at hs
    subst hs
    exact parse_num n h0 h1 more hm hlen w
  · simp only at hk
    subst hk
    have hs := ba_empty (right_empty hr (by simp))
    simp only at hs
    subst hs
    rcases right_truth hr with rfl | rfl
    · exact parse_false more hm hlen w
    · exact parse_true more hm hlen w
  · simp only at hk
    subst hk
    obtain ⟨hs, hn⟩ := right_text hr rfl
    simp only at hs hn
    subst hn
    have h64 : s.data.toList.length ≤ 64 := hs
    have h := parse_text s.data.toList h64 more hlen w
    have e : printV ⟨3, 0, s⟩ ++ more = 34 :: (escL s.data.toList ++ 34 :: more) := by
      show (34 :: (escL s.data.toList ++ [34])) ++ more = _
      simp
    have e2 : (printV ⟨3, 0, s⟩).length = (escL s.data.toList).length + 2 := by
      show (34 :: (escL s.data.toList ++ [34])).length = _
      simp
    rw [e, e2]
    exact h

theorem valueC : ValueC := ⟨vRight_any, vCompare_any, vInt_any, vBool_any, vText_any, vPut_any, vTake_any, vPrint_any, vParse_any⟩
end Go.Proofs.YtepniiaojhiogaaDoor
