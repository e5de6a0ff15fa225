/-
  The walk of FaultTells.
-/
import Derived.Test.YtdlmnhpmdidkeaaDoorFSome
import Derived.Deep.RegionHeld3
import Derived.Deep.DeepCutAuto
namespace Go.Proofs.YtdlmnhpmdidkeaaDoor.faultTells
open Go.RowKit

set_option maxRecDepth 100000 in
set_option maxHeartbeats 2000000 in
theorem walk_many (ak : Bool) (x y : ByteArray) (k : Int) (A : Option Addr) (c : Nat) (l : List ByteArray) (code : Int) (w : World) (hG : Glob w) (hm : l.length ≤ maxLen) (hs : ∀ p ∈ l, p.size ≤ maxLen) (hr : RowS w 0 w.heap.size A l) (hf : fewB l = false) :
    Calls Tryd.prog 3 #[.agg #[.bool ak, .string x, .string y, .int .i32 k, .slice A l.length c], .int .i32 code] w fun e w' => e = .returned (.bool true) ∧ Below w.heap.size w w' := by
  have HBX := Lib.hid (show Below w.heap.size w (w.alloc (.cells #[.bool ak, .string x, .string y, .int .i32 k, .slice A l.length c] 24)) from (Below.refl _ w).alloc (Nat.le_refl _) _)
  have HG := Lib.hid hG
  have HR := Lib.hid hr
  have HS := Lib.hid hs
  have HF := Lib.hid hf
  clear hG hr hs hf
  go_enter Tryd.func3, Tryd.ntmps3
  go_wp2_with fail
  refine (live_any _ (HG.out.under HBX.out)).mono ?_
  rintro e w1 ⟨rfl, hb⟩
  have hB1 : Below w.heap.size w w1 := HBX.out.trans (hb.mono (by simp))
  have hz : w1.heap[w.heap.size]? = some (.cells #[.bool ak, .string x, .string y, .int .i32 k, .slice A l.length c] 24 (0, 0)) := (hb.block _ (by simp)).trans (heap_alloc_new w _)
  have c0 := cell_at (o := 0) hz rfl
  have c1 := cell_at (o := 1) hz rfl
  have c2 := cell_at (o := 2) hz rfl
  have c3 := cell_at (o := 3) hz rfl
  have c4 := cell_at (o := 4) hz rfl
  have HB1 := Lib.hid hB1
  clear hz hb hB1
  go_wp2_with fail
  refine (few_any ak x y k A _ c l 0 w.heap.size w1 rfl hm HS.out (HR.out.below HB1.out (Nat.le_refl _)) HB1.out.size).mono ?_
  rw [HF.out]
  rintro e w2 ⟨rfl, hb⟩
  have HB2 := Lib.hid (HB1.out.trans (hb.mono HB1.out.size))
  clear hb c0 c1 c2 c3 c4
  go_wp2_with fail
  refine (live_any _ (HG.out.under HB2.out)).mono ?_
  rintro e w3 ⟨rfl, hb⟩
  have HB3 := Lib.hid (HB2.out.trans (hb.mono HB2.out.size))
  clear hb
  go_wp2
  go_ret
  exact ⟨rfl, HB3.out⟩

/-- What stands behind the two answers: the error, and what the document says it is. -/
def Mid (e : End) (l : List ByteArray) (w0 : World) (v p : Value) (wx : World) : Prop :=
  ∃ T y b A c, v = .iface T y ∧ p = .pointer (some ⟨b, 0, none⟩) ∧ ShouldAt wx b true A l.length c (codeOf e) (needOf e).2.2 (needOf e).1 (needOf e).2.1 ∧ Err wx wx.heap.size e l (.iface T y) ∧ RowS wx 0 wx.heap.size A l ∧ Below w0.heap.size w0 wx

theorem Mid.set {e : End} {l : List ByteArray} {w0 w' : World} {T : TypeId} {z : Value} {b c lo : Nat} {A : Option Addr} (hw : Below w0.heap.size w0 w') (hB : w0.heap.size ≤ b) (hy : ShouldAt w' b false none 0 0 0 false ⟨#[]⟩ ⟨#[]⟩) (hE : Err w' w'.heap.size e l (.iface T z)) (hR : RowS w' lo w'.heap.size A l) (hb : b < lo) :
    Mid e l w0 (.iface T z) (.pointer (some ⟨b, 0, none⟩)) ((((((w'.setCell ⟨b, 0, none⟩ (.bool true)).setCell ⟨b, 1, none⟩ (.slice A l.length c)).setCell ⟨b, 2, none⟩ (.int .i64 (codeOf e))).setCell ⟨b, 3, none⟩ (.bool (needOf e).2.2)).setCell ⟨b, 4, none⟩ (.string (needOf e).1)).setCell ⟨b, 5, none⟩ (.string (needOf e).2.1)) := by
  refine ⟨T, z, b, A, c, rfl, rfl, set6 hy _ _ _ _ _ _, ?_, ?_, below_set6 hw hB _ _ _ _ _ _⟩
  · refine (Err.set6 hy (by decide) hE _ _ _ _ _ _).wide ?_
    simp [World.setCell]
  · refine (rowS_set6 hR (.inl hb) _ _ _ _ _ _).wide (Nat.zero_le _) ?_
    simp [World.setCell]
theorem Mid.new {e : End} {l : List ByteArray} {w0 w' : World} {T : TypeId} {z : Value} {c lo : Nat} {A : Option Addr} (hw : Below w0.heap.size w0 w') (hE : Err w' w'.heap.size e l (.iface T z)) (hR : RowS w' lo w'.heap.size A l) :
    Mid e l w0 (.iface T z) (.pointer (some ⟨w'.heap.size, 0, none⟩)) (w'.alloc (.cells #[.bool true, .slice A l.length c, .int .i64 (codeOf e), .bool (needOf e).2.2, .string (needOf e).1, .string (needOf e).2.1] 33)) := by
  have hb : Below w'.heap.size w' (w'.alloc (.cells #[.bool true, .slice A l.length c, .int .i64 (codeOf e), .bool (needOf e).2.2, .string (needOf e).1, .string (needOf e).2.1] 33)) := (Below.refl _ _).alloc (Nat.le_refl _) _
  exact ⟨T, z, _, A, c, rfl, rfl, heap_alloc_new _ _, (hE.below hb (Nat.le_refl _)).wide (by simp), (hR.below hb (Nat.le_refl _)).wide (Nat.zero_le _) (by simp), hw.alloc hw.size _⟩

set_option maxRecDepth 100000 in
set_option maxHeartbeats 2000000 in
theorem walk_some (ak : Bool) (x y : ByteArray) (k : Int) (A : Option Addr) (c : Nat) (l : List ByteArray) (code : Int) (w : World) (hG : Glob w) (h0 : -2147483648 ≤ k) (h1 : k ≤ 2147483647) (hm : l.length ≤ maxLen) (hs : ∀ p ∈ l, p.size ≤ maxLen) (hr : RowS w 0 w.heap.size A l) (hf : fewB l = true)
    (hk : ak = true ∨ k ≠ 0) :
    Calls Tryd.prog 3 #[.agg #[.bool ak, .string x, .string y, .int .i32 k, .slice A l.length c], .int .i32 code] w fun e w' => e = .returned (.bool true) ∧ Below w.heap.size w w' := by
  have HBX := Lib.hid (show Below w.heap.size w (w.alloc (.cells #[.bool ak, .string x, .string y, .int .i32 k, .slice A l.length c] 24)) from (Below.refl _ w).alloc (Nat.le_refl _) _)
  have HG := Lib.hid hG
  have HR := Lib.hid hr
  have HS := Lib.hid hs
  have HF := Lib.hid hf
  have HK := Lib.hid (And.intro hk (And.intro h0 h1))
  clear hG hr hs hf hk h0 h1
  go_enter Tryd.func3, Tryd.ntmps3
  go_wp2_with fail
  refine (live_any _ (HG.out.under HBX.out)).mono ?_
  rintro e w1 ⟨rfl, hb⟩
  have HB1 := Lib.hid (HBX.out.trans (hb.mono (by simp)))
  have HM1 := Lib.hid ((MadeAt.new w ak x y k A l.length c).below hb (by simp))
  have c0 := HM1.out.c0
  have c1 := HM1.out.c1
  have c2 := HM1.out.c2
  have c3 := HM1.out.c3
  have c4 := HM1.out.c4
  clear hb
  go_wp2_with fail
  refine (few_any ak x y k A _ c l 0 w.heap.size w1 rfl hm HS.out (HR.out.below HB1.out (Nat.le_refl _)) HB1.out.size).mono ?_
  rw [HF.out]
  rintro e w2 ⟨rfl, hb⟩
  have HB2 := Lib.hid (HB1.out.trans (hb.mono HB1.out.size))
  have HM2 := Lib.hid (HM1.out.below hb HM1.out.lt)
  clear hb c0 c1 c2 c3 c4 HM1 HB1 HBX
  go_upto_region 3 with fail
  have HR2 := Lib.hid ((HR.out.below HB2.out (Nat.le_refl _)).wide (Nat.le_refl _) HB2.out.size)
  go_cut [5, 6] (fun v p wx => Mid (endM ak x y k) l w v p wx)
  case first =>
    have c0 := HM2.out.c0
    have c1 := HM2.out.c1
    have c2 := HM2.out.c2
    have c3 := HM2.out.c3
    have c4 := HM2.out.c4
    have keep : ∀ w', Below w2.heap.size w2 w' → w'.cell? ⟨w.heap.size, 0, none⟩ = some (.bool ak) ∧ w'.cell? ⟨w.heap.size, 1, none⟩ = some (.string x) ∧ w'.cell? ⟨w.heap.size, 2, none⟩ = some (.string y) ∧ w'.cell? ⟨w.heap.size, 3, none⟩ = some (.int .i32 k) ∧ w'.cell? ⟨w.heap.size, 4, none⟩ = some (.slice A l.length c) ∧ Below w2.heap.size w2 w' :=
      fun w' h => have m := HM2.out.below h HM2.out.lt; ⟨m.c0, m.c1, m.c2, m.c3, m.c4, h⟩
    have KEEP := Lib.hid keep
    clear keep
    go_region_held3 (fun w' => w'.cell? ⟨w.heap.size, 0, none⟩ = some (.bool ak) ∧ w'.cell? ⟨w.heap.size, 1, none⟩ = some (.string x) ∧ w'.cell? ⟨w.heap.size, 2, none⟩ = some (.string y) ∧ w'.cell? ⟨w.heap.size, 3, none⟩ = some (.int .i32 k) ∧ w'.cell? ⟨w.heap.size, 4, none⟩ = some (.slice A l.length c) ∧ Below w2.heap.size w2 w')
      (first | with_reducible exact KEEP.out _ (below_set6 hb4 (Below.size hb2) _ _ _ _ _ _) | with_reducible exact KEEP.out _ (below_set6 hb4 (Nat.le_refl _) _ _ _ _ _ _) | with_reducible exact KEEP.out _ hb4 | with_reducible exact KEEP.out _ (Below.alloc hb4 (Below.size hb4) _) | with_reducible exact KEEP.out _ hb2 | with_reducible exact KEEP.out _ (Below.alloc hb2 (Below.size hb2) _) | with_reducible exact KEEP.out _ (Below.refl _ _).drew | with_reducible exact KEEP.out _ ((Below.refl _ _).drew.alloc (by simp) _))
      (first
        | (go_at_call 10; refine (make_from ak x y k A c l HK.out.1 HK.out.2.1 HK.out.2.2 hm HR2.out (by go_split_ands; assumption)).mono ?_; rintro r w' ⟨T, z, rfl, hE, hb1, hb2⟩; (try have hz : ShouldAt _ w2.heap.size _ _ _ _ _ _ _ _ := (hb1.block _ (by simp)).trans (heap_alloc_new w2 _)))
        | (go_at_call 11; refine (should_from ak x y k A c l HK.out.1 HK.out.2.1 HK.out.2.2 HF.out HR2.out (by go_split_ands; assumption)).mono ?_; rintro r w' ⟨A2, c2, rfl, hR, hb3, hb4⟩; (first | have hy := (ShouldAt.new _ _ _ _ _ _ _ _ _).below hb3 (by simp) | have hy := ShouldAt.below (by assumption) hb3 (ShouldAt.lt (by assumption)) | skip); (try (obtain ⟨t0, t1, t2, t3, t4, t5⟩ := ShouldAt.cells hy; have g0 := ShouldAt.frozen hy 0; have g1 := ShouldAt.frozen hy 1; have g2 := ShouldAt.frozen hy 2; have g3 := ShouldAt.frozen hy 3; have g4 := ShouldAt.frozen hy 4; have g5 := ShouldAt.frozen hy 5))))
    · go_wp2_with fail
      go_meet
      exact Mid.new (HB2.out.trans (hb4.mono HB2.out.size)) ((hE.below hb3 (Nat.le_refl _)).wide hb3.size) hR
    · go_wp2_with fail
      go_meet
      exact Mid.set (HB2.out.trans (hb4.mono HB2.out.size)) (Nat.le_trans HB2.out.size hb2.size) hy (((hE.below ((Below.refl _ _).alloc (Nat.le_refl _) _) (Nat.le_refl _)).below hb3 (by simp)).wide (by have := hb3.size; simp at this; omega)) hR (by simp)
    · go_wp2_with fail
      go_meet
      exact Mid.set (HB2.out.trans (hb4.mono HB2.out.size)) HB2.out.size hy ((hE.below hb3 (Nat.le_refl _)).wide hb3.size) hR (by have := hb1.size; simp at this; omega)
  case rest =>
    obtain ⟨T, z, b, A2, c2, rfl, rfl, hsh, hE, hR, hw⟩ := hcut
    have HSOME := Lib.hid (show some? (endM ak x y k) l from .inr (endM_some HK.out.1))
    have HCB := Lib.hid (codeM_le (ak := ak) (x := x) (y := y) HK.out.2.1 HK.out.2.2)
    generalize endM ak x y k = e at *
    have HSH := Lib.hid hsh
    have HE := Lib.hid hE
    have HRW := Lib.hid hR
    have HW := Lib.hid hw
    clear hsh hE hR hw
    go_wp2_with fail
    refine (needed_any l _ e _ _ HE.out (Nat.le_refl _) (HG.out.under HW.out)).mono ?_
    rintro r w4 ⟨rfl, hb4⟩
    have HB4 := Lib.hid hb4
    clear hb4
    go_upto_region 5 with fail
    obtain ⟨w5, hw5⟩ : ∃ w5, w4.alloc (.cells #[.string (needOf e).1, .string (needOf e).2.1] 31) = w5 := ⟨_, rfl⟩
    rw [hw5]
    have hb5 : Below wc.heap.size wc w5 := by rw [← hw5]; exact HB4.out.alloc HB4.out.size _
    have hn5 : w5.heap[w4.heap.size]? = some (.cells #[.string (needOf e).1, .string (needOf e).2.1] 31 (0, 0)) := by rw [← hw5]; exact heap_alloc_new _ _
    have HB5 := Lib.hid (HW.out.trans (hb5.mono HW.out.size))
    have HG5 := Lib.hid (HG.out.under HB5.out)
    have HSH5 := Lib.hid (HSH.out.below hb5 HSH.out.lt)
    have HE5 := Lib.hid ((HE.out.below hb5 (Nat.le_refl _)).wide hb5.size)
    have HR5 := Lib.hid ((HRW.out.below hb5 (Nat.le_refl _)).wide (Nat.le_refl _) hb5.size)
    have HCODE := Lib.hid (code_from HE5.out HSOME.out HG5.out)
    have HIS := Lib.hid (fun cc => is_from cc HE5.out HSOME.out HG5.out)
    have HTEXT := Lib.hid (text_from HE5.out HSOME.out HG5.out HF.out HCB.out.1 HCB.out.2)
    have HTRAIL := Lib.hid (trail_from HE5.out HG5.out HF.out)
    have HREF := Lib.hid (refText_from c2 (needOf e).1 (needOf e).2.1 HR5.out HF.out HCB.out.1 HCB.out.2)
    have keep : ∀ w', Below w5.heap.size w5 w' → w'.cell? ⟨b, 0, none⟩ = some (.bool true) ∧ w'.cell? ⟨b, 1, none⟩ = some (.slice A2 l.length c2) ∧ w'.cell? ⟨b, 2, none⟩ = some (.int .i64 (codeOf e)) ∧ w'.cell? ⟨b, 3, none⟩ = some (.bool (needOf e).2.2) ∧ w'.cell? ⟨b, 4, none⟩ = some (.string (needOf e).1) ∧ w'.cell? ⟨b, 5, none⟩ = some (.string (needOf e).2.1) ∧
        w'.cell? ⟨w4.heap.size, 0, none⟩ = some (.string (needOf e).1) ∧ w'.cell? ⟨w4.heap.size, 1, none⟩ = some (.string (needOf e).2.1) ∧ Below w5.heap.size w5 w' := fun w' h => by
      have m := (HSH5.out.below h HSH5.out.lt).cells
      have n := (h.block _ (Array.getElem?_eq_some_iff.1 hn5).1).trans hn5
      exact ⟨m.1, m.2.1, m.2.2.1, m.2.2.2.1, m.2.2.2.2.1, m.2.2.2.2.2, cell_at n rfl, cell_at n rfl, h⟩
    have KEEP := Lib.hid keep
    obtain ⟨s0, s1, s2, s3, s4, s5, n0, n1, _⟩ := keep _ (Below.refl _ _)
    clear keep hw5 hb5 hn5
    go_region_held3 (fun w' => w'.cell? ⟨b, 0, none⟩ = some (.bool true) ∧ w'.cell? ⟨b, 1, none⟩ = some (.slice A2 l.length c2) ∧ w'.cell? ⟨b, 2, none⟩ = some (.int .i64 (codeOf e)) ∧ w'.cell? ⟨b, 3, none⟩ = some (.bool (needOf e).2.2) ∧ w'.cell? ⟨b, 4, none⟩ = some (.string (needOf e).1) ∧ w'.cell? ⟨b, 5, none⟩ = some (.string (needOf e).2.1) ∧
        w'.cell? ⟨w4.heap.size, 0, none⟩ = some (.string (needOf e).1) ∧ w'.cell? ⟨w4.heap.size, 1, none⟩ = some (.string (needOf e).2.1) ∧ Below w5.heap.size w5 w')
      (first | with_reducible exact KEEP.out _ hb6 | with_reducible exact KEEP.out _ (Below.refl _ _).drew)
      (first
        | (go_at_call 13; refine (HCODE.out _ (by go_split_ands; assumption)).mono ?_; rintro r w' ⟨rfl, hb6⟩)
        | (go_at_call 15; refine (HTRAIL.out _ (by go_split_ands; assumption)).mono ?_; rintro r w' ⟨A3, c3, rfl, hr3, hb6⟩)
        | (go_at_call 14; refine (same_from _ _ HR5.out HF.out _ hr3 (by go_split_ands; assumption)).mono ?_; rintro r w' ⟨rfl, hb6⟩)
        | (go_at_call 16; refine (HTEXT.out _ (by go_split_ands; assumption)).mono ?_; rintro r w' ⟨rfl, hb6⟩)
        | (go_at_call 17; refine (HREF.out _ (by go_split_ands; assumption)).mono ?_; rintro r w' ⟨rfl, hb6⟩))
    have HB6 := Lib.hid hb6
    clear hb6
    by_cases hc : codeOf e = IntKind.i64.wrap code
    all_goals
      first
        | have e1 : (codeOf e == IntKind.i64.wrap code) = true := by simpa using hc
          have e2 : (IntKind.i64.wrap code == codeOf e) = true := by simpa using hc.symm
        | have e1 : (codeOf e == IntKind.i64.wrap code) = false := by simpa using hc
          have e2 : (IntKind.i64.wrap code == codeOf e) = false := by simpa using fun h => hc h.symm
      have HC := Lib.hid hc
      clear hc s0 s1 s2 s3 s4 s5 n0 n1
      go_wp2_with fail
      go_region_held3 (fun w' => w'.cell? ⟨b, 0, none⟩ = some (.bool true) ∧ w'.cell? ⟨b, 1, none⟩ = some (.slice A2 l.length c2) ∧ w'.cell? ⟨b, 2, none⟩ = some (.int .i64 (codeOf e)) ∧ w'.cell? ⟨b, 3, none⟩ = some (.bool (needOf e).2.2) ∧ w'.cell? ⟨b, 4, none⟩ = some (.string (needOf e).1) ∧ w'.cell? ⟨b, 5, none⟩ = some (.string (needOf e).2.1) ∧
          w'.cell? ⟨w4.heap.size, 0, none⟩ = some (.string (needOf e).1) ∧ w'.cell? ⟨w4.heap.size, 1, none⟩ = some (.string (needOf e).2.1) ∧ Below w5.heap.size w5 w')
        (first | with_reducible exact KEEP.out _ hb7 | with_reducible exact KEEP.out _ HB6.out.drew)
        (first
          | (go_at_call 18; refine (HIS.out _ _ (by go_split_ands; assumption)).mono ?_; rintro r w' ⟨rfl, hb7⟩))
      go_wp2_with fail
      go_ret
      exact ⟨rfl, HB5.out.trans (hb7.mono HB5.out.size)⟩
/-- Likewise, where there is no error. -/
def Mid0 (w0 : World) (v p : Value) (wx : World) : Prop :=
  ∃ b A c, v = .nilIface ∧ p = .pointer (some ⟨b, 0, none⟩) ∧ ShouldAt wx b false A 0 c 0 false ⟨#[]⟩ ⟨#[]⟩ ∧ Below w0.heap.size w0 wx
theorem Mid0.set {w0 w' : World} {b c : Nat} {A : Option Addr} (hw : Below w0.heap.size w0 w') (hB : w0.heap.size ≤ b) (hy : ShouldAt w' b false none 0 0 0 false ⟨#[]⟩ ⟨#[]⟩) :
    Mid0 w0 .nilIface (.pointer (some ⟨b, 0, none⟩)) ((((((w'.setCell ⟨b, 0, none⟩ (.bool false)).setCell ⟨b, 1, none⟩ (.slice A 0 c)).setCell ⟨b, 2, none⟩ (.int .i64 0)).setCell ⟨b, 3, none⟩ (.bool false)).setCell ⟨b, 4, none⟩ (.string ⟨#[]⟩)).setCell ⟨b, 5, none⟩ (.string ⟨#[]⟩)) :=
  ⟨b, A, c, rfl, rfl, set6 hy _ _ _ _ _ _, below_set6 hw hB _ _ _ _ _ _⟩
theorem Mid0.new {w0 w' : World} {c : Nat} {A : Option Addr} (hw : Below w0.heap.size w0 w') :
    Mid0 w0 .nilIface (.pointer (some ⟨w'.heap.size, 0, none⟩)) (w'.alloc (.cells #[.bool false, .slice A 0 c, .int .i64 0, .bool false, .string ⟨#[]⟩, .string ⟨#[]⟩] 33)) :=
  ⟨_, A, c, rfl, rfl, heap_alloc_new _ _, hw.alloc hw.size _⟩

set_option maxRecDepth 100000 in
set_option maxHeartbeats 2000000 in
theorem walk_none (x y : ByteArray) (A : Option Addr) (c : Nat) (l : List ByteArray) (code : Int) (w : World) (hG : Glob w) (hm : l.length ≤ maxLen) (hs : ∀ p ∈ l, p.size ≤ maxLen) (hr : RowS w 0 w.heap.size A l) (hf : fewB l = true)
    :
    Calls Tryd.prog 3 #[.agg #[.bool false, .string x, .string y, .int .i32 0, .slice A l.length c], .int .i32 code] w fun e w' => e = .returned (.bool true) ∧ Below w.heap.size w w' := by
  have HBX := Lib.hid (show Below w.heap.size w (w.alloc (.cells #[.bool false, .string x, .string y, .int .i32 0, .slice A l.length c] 24)) from (Below.refl _ w).alloc (Nat.le_refl _) _)
  have HG := Lib.hid hG
  have HR := Lib.hid hr
  have HS := Lib.hid hs
  have HF := Lib.hid hf
  clear hG hr hs hf
  go_enter Tryd.func3, Tryd.ntmps3
  go_wp2_with fail
  refine (live_any _ (HG.out.under HBX.out)).mono ?_
  rintro e w1 ⟨rfl, hb⟩
  have HB1 := Lib.hid (HBX.out.trans (hb.mono (by simp)))
  have HM1 := Lib.hid ((MadeAt.new w false x y 0 A l.length c).below hb (by simp))
  have c0 := HM1.out.c0
  have c1 := HM1.out.c1
  have c2 := HM1.out.c2
  have c3 := HM1.out.c3
  have c4 := HM1.out.c4
  clear hb
  go_wp2_with fail
  refine (few_any false x y 0 A _ c l 0 w.heap.size w1 rfl hm HS.out (HR.out.below HB1.out (Nat.le_refl _)) HB1.out.size).mono ?_
  rw [HF.out]
  rintro e w2 ⟨rfl, hb⟩
  have HB2 := Lib.hid (HB1.out.trans (hb.mono HB1.out.size))
  have HM2 := Lib.hid (HM1.out.below hb HM1.out.lt)
  clear hb c0 c1 c2 c3 c4 HM1 HB1 HBX
  go_upto_region 3 with fail
  have HR2 := Lib.hid ((HR.out.below HB2.out (Nat.le_refl _)).wide (Nat.le_refl _) HB2.out.size)
  go_cut [5, 6] (fun v p wx => Mid0 w v p wx)
  case first =>
    have c0 := HM2.out.c0
    have c1 := HM2.out.c1
    have c2 := HM2.out.c2
    have c3 := HM2.out.c3
    have c4 := HM2.out.c4
    have keep : ∀ w', Below w2.heap.size w2 w' → w'.cell? ⟨w.heap.size, 0, none⟩ = some (.bool false) ∧ w'.cell? ⟨w.heap.size, 1, none⟩ = some (.string x) ∧ w'.cell? ⟨w.heap.size, 2, none⟩ = some (.string y) ∧ w'.cell? ⟨w.heap.size, 3, none⟩ = some (.int .i32 0) ∧ w'.cell? ⟨w.heap.size, 4, none⟩ = some (.slice A l.length c) ∧ Below w2.heap.size w2 w' :=
      fun w' h => have m := HM2.out.below h HM2.out.lt; ⟨m.c0, m.c1, m.c2, m.c3, m.c4, h⟩
    have KEEP := Lib.hid keep
    clear keep
    go_region_held3 (fun w' => w'.cell? ⟨w.heap.size, 0, none⟩ = some (.bool false) ∧ w'.cell? ⟨w.heap.size, 1, none⟩ = some (.string x) ∧ w'.cell? ⟨w.heap.size, 2, none⟩ = some (.string y) ∧ w'.cell? ⟨w.heap.size, 3, none⟩ = some (.int .i32 0) ∧ w'.cell? ⟨w.heap.size, 4, none⟩ = some (.slice A l.length c) ∧ Below w2.heap.size w2 w')
      (first | with_reducible exact KEEP.out _ (below_set6 hb4 (Below.size hb2) _ _ _ _ _ _) | with_reducible exact KEEP.out _ (below_set6 hb4 (Nat.le_refl _) _ _ _ _ _ _) | with_reducible exact KEEP.out _ hb4 | with_reducible exact KEEP.out _ (Below.alloc hb4 (Below.size hb4) _) | with_reducible exact KEEP.out _ hb2 | with_reducible exact KEEP.out _ (Below.alloc hb2 (Below.size hb2) _) | with_reducible exact KEEP.out _ (Below.refl _ _).drew | with_reducible exact KEEP.out _ ((Below.refl _ _).drew.alloc (by simp) _))
      (first
        | (go_at_call 10; refine (make0_from x y A c l hm HR2.out (by go_split_ands; assumption)).mono ?_; rintro r w' ⟨rfl, hb1, hb2⟩; (try have hz : ShouldAt _ w2.heap.size _ _ _ _ _ _ _ _ := (hb1.block _ (by simp)).trans (heap_alloc_new w2 _)))
        | (go_at_call 11; refine (should0_from x y A c l HF.out HR2.out (by go_split_ands; assumption)).mono ?_; rintro r w' ⟨A2, c2, rfl, hb3, hb4⟩; (first | have hy := (ShouldAt.new _ _ _ _ _ _ _ _ _).below hb3 (by simp) | have hy := ShouldAt.below (by assumption) hb3 (ShouldAt.lt (by assumption)) | skip); (try (obtain ⟨t0, t1, t2, t3, t4, t5⟩ := ShouldAt.cells hy; have g0 := ShouldAt.frozen hy 0; have g1 := ShouldAt.frozen hy 1; have g2 := ShouldAt.frozen hy 2; have g3 := ShouldAt.frozen hy 3; have g4 := ShouldAt.frozen hy 4; have g5 := ShouldAt.frozen hy 5))))
    · go_wp2_with fail
      go_meet
      exact Mid0.new (HB2.out.trans (hb4.mono HB2.out.size))
    · go_wp2_with fail
      go_meet
      exact Mid0.set (HB2.out.trans (hb4.mono HB2.out.size)) (Nat.le_trans HB2.out.size hb2.size) hy
    · go_wp2_with fail
      go_meet
      exact Mid0.set (HB2.out.trans (hb4.mono HB2.out.size)) HB2.out.size hy
  case rest =>
    obtain ⟨b, A2, c2, rfl, rfl, hsh, hw⟩ := hcut
    have HSH := Lib.hid hsh
    have HW := Lib.hid hw
    clear hsh hw
    go_wp2_with fail
    refine (needed_nil _ (HG.out.under HW.out)).mono ?_
    rintro r w4 ⟨rfl, hb4⟩
    have HB4 := Lib.hid hb4
    clear hb4
    go_upto_region 5 with fail
    obtain ⟨w5, hw5⟩ : ∃ w5, w4.alloc (.cells #[.string ⟨#[]⟩, .string ⟨#[]⟩] 31) = w5 := ⟨_, rfl⟩
    rw [hw5]
    have hb5 : Below wc.heap.size wc w5 := by rw [← hw5]; exact HB4.out.alloc HB4.out.size _
    have hn5 : w5.heap[w4.heap.size]? = some (.cells #[.string ⟨#[]⟩, .string ⟨#[]⟩] 31 (0, 0)) := by rw [← hw5]; exact heap_alloc_new _ _
    have HB5 := Lib.hid (HW.out.trans (hb5.mono HW.out.size))
    have HG5 := Lib.hid (HG.out.under HB5.out)
    have HSH5 := Lib.hid (HSH.out.below hb5 HSH.out.lt)
    have HCODE := Lib.hid (code0_from (W := w5))
    have HIS := Lib.hid (fun cc => is0_from (W := w5) cc)
    have HTEXT := Lib.hid (text0_from (W := w5))
    have HTRAIL := Lib.hid (trail0_from HG5.out)
    have HREF := Lib.hid (refText0_from (W := w5) A2 0 c2 0 false ⟨#[]⟩ ⟨#[]⟩)
    have keep : ∀ w', Below w5.heap.size w5 w' → w'.cell? ⟨b, 0, none⟩ = some (.bool false) ∧ w'.cell? ⟨b, 1, none⟩ = some (.slice A2 0 c2) ∧ w'.cell? ⟨b, 2, none⟩ = some (.int .i64 0) ∧ w'.cell? ⟨b, 3, none⟩ = some (.bool false) ∧ w'.cell? ⟨b, 4, none⟩ = some (.string ⟨#[]⟩) ∧ w'.cell? ⟨b, 5, none⟩ = some (.string ⟨#[]⟩) ∧
        w'.cell? ⟨w4.heap.size, 0, none⟩ = some (.string ⟨#[]⟩) ∧ w'.cell? ⟨w4.heap.size, 1, none⟩ = some (.string ⟨#[]⟩) ∧ Below w5.heap.size w5 w' := fun w' h => by
      have m := (HSH5.out.below h HSH5.out.lt).cells
      have n := (h.block _ (Array.getElem?_eq_some_iff.1 hn5).1).trans hn5
      exact ⟨m.1, m.2.1, m.2.2.1, m.2.2.2.1, m.2.2.2.2.1, m.2.2.2.2.2, cell_at n rfl, cell_at n rfl, h⟩
    have KEEP := Lib.hid keep
    obtain ⟨s0, s1, s2, s3, s4, s5, n0, n1, _⟩ := keep _ (Below.refl _ _)
    clear keep hw5 hb5 hn5
    go_region_held3 (fun w' => w'.cell? ⟨b, 0, none⟩ = some (.bool false) ∧ w'.cell? ⟨b, 1, none⟩ = some (.slice A2 0 c2) ∧ w'.cell? ⟨b, 2, none⟩ = some (.int .i64 0) ∧ w'.cell? ⟨b, 3, none⟩ = some (.bool false) ∧ w'.cell? ⟨b, 4, none⟩ = some (.string ⟨#[]⟩) ∧ w'.cell? ⟨b, 5, none⟩ = some (.string ⟨#[]⟩) ∧
        w'.cell? ⟨w4.heap.size, 0, none⟩ = some (.string ⟨#[]⟩) ∧ w'.cell? ⟨w4.heap.size, 1, none⟩ = some (.string ⟨#[]⟩) ∧ Below w5.heap.size w5 w')
      (first | with_reducible exact KEEP.out _ hb6 | with_reducible exact KEEP.out _ (Below.refl _ _).drew)
      (first
        | (go_at_call 13; refine (HCODE.out _ (by go_split_ands; assumption)).mono ?_; rintro r w' ⟨rfl, hb6⟩)
        | (go_at_call 15; refine (HTRAIL.out _ (by go_split_ands; assumption)).mono ?_; rintro r w' ⟨A3, c3, rfl, hr3, hb6⟩; clear hr3)
        | (go_at_call 14; refine (same0_from _ _ _ (by go_split_ands; assumption)).mono ?_; rintro r w' ⟨rfl, hb6⟩)
        | (go_at_call 16; refine (HTEXT.out _ (by go_split_ands; assumption)).mono ?_; rintro r w' ⟨rfl, hb6⟩)
        | (go_at_call 17; refine (HREF.out _ (by go_split_ands; assumption)).mono ?_; rintro r w' ⟨rfl, hb6⟩))
    have HB6 := Lib.hid hb6
    clear hb6
    by_cases hc : (0 : Int) = IntKind.i64.wrap code
    all_goals
      first
        | have e1 : ((0 : Int) == IntKind.i64.wrap code) = true := by simpa using hc
          have e2 : (IntKind.i64.wrap code == (0 : Int)) = true := by simpa using hc.symm
        | have e1 : ((0 : Int) == IntKind.i64.wrap code) = false := by simpa using hc
          have e2 : (IntKind.i64.wrap code == (0 : Int)) = false := by simpa using fun h => hc h.symm
      have HC := Lib.hid hc
      clear hc s0 s1 s2 s3 s4 s5 n0 n1
      go_wp2_with fail
      go_region_held3 (fun w' => w'.cell? ⟨b, 0, none⟩ = some (.bool false) ∧ w'.cell? ⟨b, 1, none⟩ = some (.slice A2 0 c2) ∧ w'.cell? ⟨b, 2, none⟩ = some (.int .i64 0) ∧ w'.cell? ⟨b, 3, none⟩ = some (.bool false) ∧ w'.cell? ⟨b, 4, none⟩ = some (.string ⟨#[]⟩) ∧ w'.cell? ⟨b, 5, none⟩ = some (.string ⟨#[]⟩) ∧
          w'.cell? ⟨w4.heap.size, 0, none⟩ = some (.string ⟨#[]⟩) ∧ w'.cell? ⟨w4.heap.size, 1, none⟩ = some (.string ⟨#[]⟩) ∧ Below w5.heap.size w5 w')
        (first | with_reducible exact KEEP.out _ hb7 | with_reducible exact KEEP.out _ HB6.out.drew)
        (first
          | (go_at_call 18; refine (HIS.out _ _ (by go_split_ands; assumption)).mono ?_; rintro r w' ⟨rfl, hb7⟩))
      go_wp2_with fail
      go_ret
      exact ⟨rfl, HB5.out.trans (hb7.mono HB5.out.size)⟩

theorem walk (ak : Bool) (x y : ByteArray) (k : Int) (A : Option Addr) (c : Nat) (l : List ByteArray) (code : Int) (w : World) (hG : Glob w) (h0 : -2147483648 ≤ k) (h1 : k ≤ 2147483647) (hm : l.length ≤ maxLen) (hs : ∀ p ∈ l, p.size ≤ maxLen) (hr : RowS w 0 w.heap.size A l)
    (_b0 : -2147483648 ≤ code) (_b1 : code ≤ 2147483647) :
    Calls Tryd.prog 3 #[.agg #[.bool ak, .string x, .string y, .int .i32 k, .slice A l.length c], .int .i32 code] w fun e w' => e = .returned (.bool true) ∧ Below w.heap.size w w' := by
  by_cases hf : fewB l = true
  · by_cases hk : ak = true ∨ k ≠ 0
    · exact walk_some ak x y k A c l code w hG h0 h1 hm hs hr hf hk
    · obtain ⟨rfl, rfl⟩ : ak = false ∧ k = 0 := by
        rw [not_or] at hk
        exact ⟨by simpa using hk.1, by simpa using hk.2⟩
      exact walk_none x y A c l code w hG hm hs hr hf
  · exact walk_many ak x y k A c l code w hG hm hs hr (by simpa using hf)
end Go.Proofs.YtdlmnhpmdidkeaaDoor.faultTells
