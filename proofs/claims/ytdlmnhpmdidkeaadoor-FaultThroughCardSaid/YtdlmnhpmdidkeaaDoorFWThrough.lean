/-
  The walk of FaultThrough.
-/
import Derived.Test.YtdlmnhpmdidkeaaDoorFSome
import Derived.Deep.RegionHeld3
import Derived.Deep.DeepCutAuto
namespace Go.Proofs.YtdlmnhpmdidkeaaDoor.faultThrough
open Go.RowKit

/-- A need in two cells of a block. -/
def NeedAt (w : World) (b : Nat) (x y : ByteArray) : Prop := w.heap[b]? = some (.cells #[.string x, .string y] 31 (0, 0))
theorem NeedAt.below {w w' : World} {B b : Nat} {x y : ByteArray} (h : NeedAt w b x y) (hb : Below B w w') (hB : b < B) : NeedAt w' b x y := (hb.block _ hB).trans h
theorem NeedAt.lt {w : World} {b : Nat} {x y : ByteArray} (h : NeedAt w b x y) : b < w.heap.size := (Array.getElem?_eq_some_iff.1 h).1
theorem NeedAt.c0 {w : World} {b : Nat} {x y : ByteArray} (h : NeedAt w b x y) : w.cell? ⟨b, 0, none⟩ = some (.string x) := cell_at h rfl
theorem NeedAt.c1 {w : World} {b : Nat} {x y : ByteArray} (h : NeedAt w b x y) : w.cell? ⟨b, 1, none⟩ = some (.string y) := cell_at h rfl

theorem trail_long {W : World} {e : End} {l : List ByteArray} {v : Value} (hE : Err W W.heap.size e l v) (hG : Glob W) (hl : l.length ≤ 1000000) (wx : World) (hb : Below W.heap.size W wx) :
    Calls Tryd.prog 15 #[v] wx (TrailW l W) := by
  refine (trail_any l v e W.heap.size wx (hE.below hb (Nat.le_refl _)) hb.size hl (hG.under hb)).mono ?_
  rintro r w' ⟨sv, rfl, ho, hb'⟩
  obtain ⟨A, c, rfl, _, _, _, hr⟩ := RowS.own ho
  exact ⟨A, c, rfl, hr.wide (Nat.zero_le _) (Nat.le_refl _), hb.trans (hb'.mono hb.size)⟩
theorem needed_from {W : World} {e : End} {l : List ByteArray} {v : Value} (hE : Err W W.heap.size e l v) (hG : Glob W) (wx : World) (hb : Below W.heap.size W wx) :
    Calls Tryd.prog 12 #[v] wx fun r w' => r = .returned (.tuple #[.agg #[.string (needOf e).1, .string (needOf e).2.1], .bool (needOf e).2.2]) ∧ Below W.heap.size W w' ∧ Below wx.heap.size wx w' :=
  (needed_any l v e W.heap.size wx (hE.below hb (Nat.le_refl _)) hb.size (hG.under hb)).mono fun _ _ ⟨a, b⟩ => ⟨a, hb.trans (b.mono hb.size), b⟩

set_option maxRecDepth 100000 in
set_option maxHeartbeats 2000000 in
theorem walk_many (ak : Bool) (x y : ByteArray) (k : Int) (A : Option Addr) (c : Nat) (l : List ByteArray) (p : ByteArray) (w : World) (hG : Glob w) (hm : l.length ≤ maxLen) (hs : ∀ p ∈ l, p.size ≤ maxLen) (hr : RowS w 0 w.heap.size A l) (hf : fewB l = false) :
    Calls Tryd.prog 4 #[.agg #[.bool ak, .string x, .string y, .int .i32 k, .slice A l.length c], .string p] w fun e w' => e = .returned (.bool true) ∧ Below w.heap.size w w' := by
  have HBX := Lib.hid (show Below w.heap.size w (w.alloc (.cells #[.bool ak, .string x, .string y, .int .i32 k, .slice A l.length c] 24)) from (Below.refl _ w).alloc (Nat.le_refl _) _)
  have HG := Lib.hid hG
  have HR := Lib.hid hr
  have HS := Lib.hid hs
  have HF := Lib.hid hf
  clear hG hr hs hf
  go_enter Tryd.func4, Tryd.ntmps4
  go_wp2_with fail
  refine (live_any _ (HG.out.under HBX.out)).mono ?_
  rintro e w1 ⟨rfl, hb⟩
  have hB1 : Below w.heap.size w w1 := HBX.out.trans (hb.mono (by simp))
  have hz : w1.heap[w.heap.size]? = some (.cells #[.bool ak, .string x, .string y, .int .i32 k, .slice A l.length c] 24 (0, 0)) := (hb.block _ (by simp)).trans (heap_alloc_new w _)
  have c0 := cell_at (o := 0) hz rfl
  have c1 := cell_at (o := 1) hz rfl
  have c2 := cell_at (o := 2) hz rfl
  have c3 := cell_at (o := 3) hz rfl
  have c4 := cell_at (o := 4) hz rfl
  have HB1 := Lib.hid hB1
  clear hz hb hB1
  go_wp2_with fail
  refine (few_any ak x y k A _ c l 0 w.heap.size w1 rfl hm HS.out (HR.out.below HB1.out (Nat.le_refl _)) HB1.out.size).mono ?_
  rw [HF.out]
  rintro e w2 ⟨rfl, hb⟩
  have HB2 := Lib.hid (HB1.out.trans (hb.mono HB1.out.size))
  clear hb c0 c1 c2 c3 c4
  go_wp2_with fail
  refine (live_any _ (HG.out.under HB2.out)).mono ?_
  rintro e w3 ⟨rfl, hb⟩
  have HB3 := Lib.hid (HB2.out.trans (hb.mono HB2.out.size))
  clear hb
  go_wp2
  go_ret
  exact ⟨rfl, HB3.out⟩

set_option maxRecDepth 100000 in
set_option maxHeartbeats 2000000 in
theorem walk_some (ak : Bool) (x y : ByteArray) (k : Int) (A : Option Addr) (c : Nat) (l : List ByteArray) (p : ByteArray) (w : World) (hG : Glob w) (h0 : -2147483648 ≤ k) (h1 : k ≤ 2147483647) (hm : l.length ≤ maxLen) (hs : ∀ p ∈ l, p.size ≤ maxLen) (hr : RowS w 0 w.heap.size A l) (hf : fewB l = true)
    (hp : p.size ≤ reachBytes) (hk : ak = true ∨ k ≠ 0) :
    Calls Tryd.prog 4 #[.agg #[.bool ak, .string x, .string y, .int .i32 k, .slice A l.length c], .string p] w fun e w' => e = .returned (.bool true) ∧ Below w.heap.size w w' := by
  have HBX := Lib.hid (show Below w.heap.size w (w.alloc (.cells #[.bool ak, .string x, .string y, .int .i32 k, .slice A l.length c] 24)) from (Below.refl _ w).alloc (Nat.le_refl _) _)
  have HG := Lib.hid hG
  have HR := Lib.hid hr
  have HS := Lib.hid hs
  have HF := Lib.hid hf
  have HK := Lib.hid (And.intro hk (And.intro h0 h1))
  clear hG hr hs hf hk h0 h1
  go_enter Tryd.func4, Tryd.ntmps4
  go_wp2_with fail
  refine (live_any _ (HG.out.under HBX.out)).mono ?_
  rintro e w1 ⟨rfl, hb⟩
  have HB1 := Lib.hid (HBX.out.trans (hb.mono (by simp)))
  have HM1 := Lib.hid ((MadeAt.new w ak x y k A l.length c).below hb (by simp))
  have c0 := HM1.out.c0
  have c1 := HM1.out.c1
  have c2 := HM1.out.c2
  have c3 := HM1.out.c3
  have c4 := HM1.out.c4
  clear hb
  go_wp2_with fail
  refine (few_any ak x y k A _ c l 0 w.heap.size w1 rfl hm HS.out (HR.out.below HB1.out (Nat.le_refl _)) HB1.out.size).mono ?_
  rw [HF.out]
  rintro e w2 ⟨rfl, hb⟩
  have HB2 := Lib.hid (HB1.out.trans (hb.mono HB1.out.size))
  have HM2 := Lib.hid (HM1.out.below hb HM1.out.lt)
  clear hb c0 c1 c2 c3 c4 HM1 HB1 HBX
  have c0 := HM2.out.c0
  have c1 := HM2.out.c1
  have c2 := HM2.out.c2
  have c3 := HM2.out.c3
  have c4 := HM2.out.c4
  go_wp2_with fail
  refine (make_from ak x y k A c l HK.out.1 HK.out.2.1 HK.out.2.2 hm HR.out HB2.out).mono ?_
  rintro r w3 ⟨T, z, rfl, hE, hb, hbW⟩
  have HSOME := Lib.hid (show some? (endM ak x y k) l from .inr (endM_some HK.out.1))
  have HCB := Lib.hid (codeM_le (ak := ak) (x := x) (y := y) HK.out.2.1 HK.out.2.2)
  generalize endM ak x y k = e at *
  have HE3 := Lib.hid hE
  have HB3 := Lib.hid hbW
  clear hE hb hbW c0 c1 c2 c3 c4 HM2 HB2
  go_wp2_with fail
  refine (wrap_any p l (.iface T z) e w3.heap.size w3 HE3.out HSOME.out (Nat.le_refl _)).mono ?_
  rintro r w4 ⟨vw, rfl, hEw, hb⟩
  obtain ⟨T2, z2, rfl⟩ := hEw.iface (.inl (by simp))
  have HE4 := Lib.hid ((HE3.out.below hb (Nat.le_refl _)).wide hb.size)
  have HW4 := Lib.hid hEw
  have HB4 := Lib.hid (HB3.out.trans (hb.mono HB3.out.size))
  have HG4 := Lib.hid (HG.out.under HB4.out)
  clear hEw hb HE3 HB3
  go_wp2_with fail
  refine (needed_from HE4.out HG4.out w4 (Below.refl _ _)).mono ?_
  rintro r w5 ⟨rfl, hb, _⟩
  go_upto_region 8 with fail
  obtain ⟨w6, hw⟩ : ∃ wy, w5.alloc (.cells #[.string (needOf e).1, .string (needOf e).2.1] 31) = wy := ⟨_, rfl⟩
  rw [hw]
  have HB6 := Lib.hid (show Below w4.heap.size w4 w6 from by rw [← hw]; exact hb.alloc hb.size _)
  have HN6 := Lib.hid (show NeedAt w6 w5.heap.size (needOf e).1 (needOf e).2.1 from by rw [← hw]; exact heap_alloc_new _ _)
  clear hw hb
  generalize w5.heap.size = g1 at *
  go_wp2_with fail
  refine (needed_from HW4.out HG4.out w6 HB6.out).mono ?_
  rintro r w7 ⟨rfl, hb, hb'⟩
  have HN7 := Lib.hid (HN6.out.below hb' HN6.out.lt)
  clear hb'
  go_upto_region 9 with fail
  obtain ⟨w8, hw⟩ : ∃ wy, w7.alloc (.cells #[.string (needOf e).1, .string (needOf e).2.1] 31) = wy := ⟨_, rfl⟩
  rw [hw]
  have h78 : Below w7.heap.size w7 w8 := by rw [← hw]; exact (Below.refl _ _).alloc (Nat.le_refl _) _
  have HB8 := Lib.hid (hb.trans (h78.mono hb.size))
  have HN8 := Lib.hid (HN7.out.below h78 HN7.out.lt)
  have HM8 := Lib.hid (show NeedAt w8 w7.heap.size (needOf e).1 (needOf e).2.1 from by rw [← hw]; exact heap_alloc_new _ _)
  clear hw hb h78 HN7
  generalize w7.heap.size = g2 at *
  have HBO := Lib.hid (show Below w8.heap.size w8 (w8.alloc (.cells #[.string p] 9)) from (Below.refl _ _).alloc (Nat.le_refl _) _)
  have HTR := Lib.hid (trail_any l (.iface T z) e w4.heap.size (w8.alloc (.cells #[.string p] 9)) ((HE4.out.below HB8.out (Nat.le_refl _)).below HBO.out HB8.out.size) (Nat.le_trans HB8.out.size HBO.out.size) (by have := (fewB_yes HF.out).2; omega) ((HG4.out.under HB8.out).under HBO.out))
  go_wp2_with fail
  refine HTR.out.mono ?_
  rintro r w9 ⟨sv, rfl, ho, hb⟩
  have HB9 := Lib.hid (HBO.out.trans (hb.mono HBO.out.size))
  have HO := Lib.hid (own_below (own_one w8 p) (w' := w9) (B' := w8.heap.size) (fun g _ hg => hb.block g hg) (Nat.le_refl _))
  obtain ⟨A3, c3, rfl, _, _, hz3, hr3⟩ := RowS.own ho
  have HZ3 := Lib.hid hz3
  have HR3 := Lib.hid hr3
  clear ho hb hz3 hr3 HTR
  obtain ⟨i0, hi0, hz0, hz1, hz2⟩ := infoStr
  have I0 := Lib.hid hi0
  have I1 := Lib.hid hz0
  have I2 := Lib.hid hz1
  have I3 := Lib.hid hz2
  have hl50 := (fewB_yes HF.out).2
  clear hi0 hz0 hz1 hz2
  go_wp2_with (at_builtin; refine append_strs _ rfl _ _ 22 rfl w8.heap.size 9 i0 _ Tryd.underlying22 I0.out I1.out I2.out I3.out rfl (.slice (some ⟨w8.heap.size, 0, none⟩) 1 1) 1 [p] rfl HO.out _ _ _ _ _ l rfl rfl HZ3.out HR3.out (by simp; omega) HB9.out.size ?_; intro v' w10 ho10 hg10; have HX := Lib.hid (And.intro ho10 hg10); obtain ⟨g, cap, rfl⟩ := Joins.ownsRow_form ho10 (by omega); clear ho10 hg10)
  have HB10 := Lib.hid (HB9.out.grown HX.out.2 HB9.out.size (own_row HO.out))
  have HR10 := Lib.hid (show RowS w10 0 w10.heap.size (some ⟨g, 0, none⟩) (p :: l) from by
    obtain ⟨A', c', hv, _, _, _, hr⟩ := RowS.own HX.out.1
    injection hv with e1 _ _
    subst e1
    exact hr.wide (Nat.zero_le _) (Nat.le_refl _))
  have HBX := Lib.hid (HB8.out.trans (HB10.out.mono HB8.out.size))
  have HE10 := Lib.hid ((HE4.out.below HBX.out (Nat.le_refl _)).wide HBX.out.size)
  have HW10 := Lib.hid ((HW4.out.below HBX.out (Nat.le_refl _)).wide HBX.out.size)
  have HG10 := Lib.hid (HG4.out.under HBX.out)
  have HN10 := Lib.hid (HN8.out.below HB10.out HN8.out.lt)
  have HM10 := Lib.hid (HM8.out.below HB10.out HM8.out.lt)
  have HBW := Lib.hid (HB4.out.trans (HBX.out.mono HB4.out.size))
  have hpl : p.size ≤ 140737488351232 := by
    have := hp
    unfold reachBytes at this
    omega
  have htl := textOf_le (e := e) HF.out HCB.out.1 HCB.out.2
  have hps : p.data.toList.length = p.size := rfl
  have htw : (textOf e (p :: l)).length ≤ 281474976710656 := by
    rw [text_cons]
    simp only [List.length_append, List.length_cons, List.length_nil]
    omega
  have HTL := Lib.hid htw
  have HEQ := Lib.hid (show (⟨(textOf e (p :: l)).toArray⟩ : ByteArray) = p ++ ⟨#[58, 32]⟩ ++ ⟨(textOf e l).toArray⟩ from by
    rw [text_cons, ← ba_append, ← ba_append, ← ba_eq])
  clear hps htw HX HB9 HO HZ3 HR3 I0 I1 I2 I3
  refine (code_from HW10.out (.inl (by simp)) HG10.out w10 (Below.refl _ _)).mono ?_
  rintro r w11 ⟨rfl, hb⟩
  have H11 := Lib.hid hb
  clear hb
  go_wp2_with fail
  refine (code_from HE10.out HSOME.out HG10.out w11 H11.out).mono ?_
  rintro r w12 ⟨rfl, hb⟩
  have H12 := Lib.hid hb
  have n0 := (HN10.out.below hb HN10.out.lt).c0
  have n1 := (HN10.out.below hb HN10.out.lt).c1
  have m0 := (HM10.out.below hb HM10.out.lt).c0
  have m1 := (HM10.out.below hb HM10.out.lt).c1
  clear hb
  go_wp2_with fail
  refine (trail_long HW10.out HG10.out (by simp; omega) w12 H12.out).mono ?_
  rintro r w13 ⟨A4, c4, rfl, hr4, hb⟩
  have H13 := Lib.hid (And.intro hb hr4)
  clear hb hr4 n0 n1 m0 m1
  go_wp2_with fail
  refine (same_same A4 (some ⟨g, 0, none⟩) _ _ _ cap 0 w13.heap.size 0 w10.heap.size (p :: l) w13 (by simp) (by simp; omega) H13.out.2 (HR10.out.below H13.out.1 (Nat.le_refl _)) (by simp; omega)).mono ?_
  rintro r w14 ⟨rfl, hb⟩
  have H14 := Lib.hid (H13.out.1.trans (hb.mono H13.out.1.size))
  clear hb
  go_wp2_with fail
  refine (text_any (p :: l) _ e w10.heap.size w14 (HW10.out.below H14.out (Nat.le_refl _)) (.inl (by simp)) H14.out.size (by simp; omega) (HG10.out.under H14.out) HCB.out.1 HCB.out.2 HTL.out).mono ?_
  rintro r w15 ⟨rfl, hb⟩
  rw [HEQ.out]
  have H15 := Lib.hid (H14.out.trans (hb.mono H14.out.size))
  clear hb
  go_wp2_with fail
  refine (text_from HE10.out HSOME.out HG10.out HF.out HCB.out.1 HCB.out.2 w15 H15.out).mono ?_
  rintro r w16 ⟨rfl, hb⟩
  have H16 := Lib.hid hb
  clear hb
  go_wp2_with fail
  go_ret
  exact ⟨rfl, HBW.out.trans (H16.out.mono HBW.out.size)⟩

set_option maxRecDepth 100000 in
set_option maxHeartbeats 2000000 in
theorem walk_none (x y : ByteArray) (A : Option Addr) (c : Nat) (l : List ByteArray) (p : ByteArray) (w : World) (hG : Glob w) (hm : l.length ≤ maxLen) (hs : ∀ p ∈ l, p.size ≤ maxLen) (hr : RowS w 0 w.heap.size A l) (hf : fewB l = true)
    :
    Calls Tryd.prog 4 #[.agg #[.bool false, .string x, .string y, .int .i32 0, .slice A l.length c], .string p] w fun e w' => e = .returned (.bool true) ∧ Below w.heap.size w w' := by
  have HBX := Lib.hid (show Below w.heap.size w (w.alloc (.cells #[.bool false, .string x, .string y, .int .i32 0, .slice A l.length c] 24)) from (Below.refl _ w).alloc (Nat.le_refl _) _)
  have HG := Lib.hid hG
  have HR := Lib.hid hr
  have HS := Lib.hid hs
  have HF := Lib.hid hf
  clear hG hr hs hf
  go_enter Tryd.func4, Tryd.ntmps4
  go_wp2_with fail
  refine (live_any _ (HG.out.under HBX.out)).mono ?_
  rintro e w1 ⟨rfl, hb⟩
  have HB1 := Lib.hid (HBX.out.trans (hb.mono (by simp)))
  have HM1 := Lib.hid ((MadeAt.new w false x y 0 A l.length c).below hb (by simp))
  have c0 := HM1.out.c0
  have c1 := HM1.out.c1
  have c2 := HM1.out.c2
  have c3 := HM1.out.c3
  have c4 := HM1.out.c4
  clear hb
  go_wp2_with fail
  refine (few_any false x y 0 A _ c l 0 w.heap.size w1 rfl hm HS.out (HR.out.below HB1.out (Nat.le_refl _)) HB1.out.size).mono ?_
  rw [HF.out]
  rintro e w2 ⟨rfl, hb⟩
  have HB2 := Lib.hid (HB1.out.trans (hb.mono HB1.out.size))
  have HM2 := Lib.hid (HM1.out.below hb HM1.out.lt)
  clear hb c0 c1 c2 c3 c4 HM1 HB1 HBX
  have c0 := HM2.out.c0
  have c1 := HM2.out.c1
  have c2 := HM2.out.c2
  have c3 := HM2.out.c3
  have c4 := HM2.out.c4
  go_wp2_with fail
  refine (make0_from x y A c l hm HR.out HB2.out).mono ?_
  rintro r w3 ⟨rfl, hb, hbW⟩
  have HB3 := Lib.hid hbW
  clear hb hbW c0 c1 c2 c3 c4 HM2 HB2
  go_wp2_with fail
  refine (wrap_none p _).mono ?_
  rintro r w4 ⟨rfl, rfl⟩
  go_wp2
  go_ret
  exact ⟨rfl, HB3.out⟩

theorem walk (ak : Bool) (x y : ByteArray) (k : Int) (A : Option Addr) (c : Nat) (l : List ByteArray) (p : ByteArray) (w : World) (hG : Glob w) (h0 : -2147483648 ≤ k) (h1 : k ≤ 2147483647) (hm : l.length ≤ maxLen) (hs : ∀ p ∈ l, p.size ≤ maxLen) (hr : RowS w 0 w.heap.size A l)
    (hp : p.size ≤ reachBytes) :
    Calls Tryd.prog 4 #[.agg #[.bool ak, .string x, .string y, .int .i32 k, .slice A l.length c], .string p] w fun e w' => e = .returned (.bool true) ∧ Below w.heap.size w w' := by
  by_cases hf : fewB l = true
  · by_cases hk : ak = true ∨ k ≠ 0
    · exact walk_some ak x y k A c l p w hG h0 h1 hm hs hr hf hp hk
    · obtain ⟨rfl, rfl⟩ : ak = false ∧ k = 0 := by
        rw [not_or] at hk
        exact ⟨by simpa using hk.1, by simpa using hk.2⟩
      exact walk_none x y A c l p w hG hm hs hr hf
  · exact walk_many ak x y k A c l p w hG hm hs hr (by simpa using hf)
end Go.Proofs.YtdlmnhpmdidkeaaDoor.faultThrough
