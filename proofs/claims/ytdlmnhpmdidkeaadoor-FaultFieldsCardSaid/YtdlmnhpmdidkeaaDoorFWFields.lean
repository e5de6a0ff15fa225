/-
  The walk of FaultFields.
-/
import Derived.Test.YtdlmnhpmdidkeaaDoorFSome
import Derived.Deep.RegionHeld3
import Derived.Deep.DeepCutAuto
import Derived.BigQuiet
import Derived.Deep.QuietTactic
namespace Go.Proofs.YtdlmnhpmdidkeaaDoor.faultFields
open Go.RowKit

/-- A region that draws its order, and whose operations, in every world of a class, yield one value each, and leave a world of the class. -/
theorem wp_region_class {P : Program} {C : World → Prop} {id : Nat} {Q : Exit → Act → World → Prop} {a : Act} {w : World} {l : List Oper} (hm : P.follows .mixedOrders = true) (hB : Region.lexB .any l.toArray = true) (hC : C w.drew)
    (h : wpQuiet P l.toArray C (fun a' => ∀ w', C w' → Q .normal a' w') l a) : (Code.region id l.toArray true).wp P Q a w :=
  wp_region_quiet (C := C) hm hB hC (by simpa using h)

/-- A Fault in two cells of a block. -/
def FaultAt (w : World) (b : Nat) (p : ByteArray) (v : Value) : Prop := w.heap[b]? = some (.cells #[.string p, v] 51 (0, 0))
theorem FaultAt.below {w w' : World} {B b : Nat} {p : ByteArray} {v : Value} (h : FaultAt w b p v) (hb : Below B w w') (hB : b < B) : FaultAt w' b p v := (hb.block _ hB).trans h
theorem FaultAt.lt {w : World} {b : Nat} {p : ByteArray} {v : Value} (h : FaultAt w b p v) : b < w.heap.size := (Array.getElem?_eq_some_iff.1 h).1

theorem unwrap_from {W : World} {b : Nat} {p : ByteArray} {v : Value} (h : FaultAt W b p v) (wx : World) (hb : Below W.heap.size W wx) :
    Calls Tryd.prog 22 #[.pointer (some ⟨b, 0, none⟩)] wx fun r w' => r = .returned v ∧ Below W.heap.size W w' :=
  (unwrap_any b p v wx (h.below hb h.lt)).mono fun _ _ ⟨a, e⟩ => ⟨a, e ▸ hb⟩
theorem unwrapN_from {W : World} (wx : World) (hb : Below W.heap.size W wx) :
    Calls Tryd.prog 22 #[.pointer none] wx fun r w' => r = .returned .nilIface ∧ Below W.heap.size W w' :=
  (unwrap_none wx).mono fun _ _ ⟨a, e⟩ => ⟨a, e ▸ hb⟩
theorem errorN_from {W : World} (wx : World) (hb : Below W.heap.size W wx) :
    Calls Tryd.prog 23 #[.pointer none] wx fun r w' => r = .returned (.string ⟨#[]⟩) ∧ Below W.heap.size W w' :=
  (error_none wx).mono fun _ _ ⟨a, e⟩ => ⟨a, e ▸ hb⟩
theorem text_one (e : End) (p : ByteArray) : (⟨(textOf e [p]).toArray⟩ : ByteArray) = p ++ ⟨(58 :: 32 :: whatOf e).toArray⟩ := by
  rw [text_cons, show textOf e [] = whatOf e from by rw [text_pre]; rfl, List.append_assoc, ← ba_append, ← ba_eq]
  rfl
theorem dec8' : whatOf (End.num 8) = [101, 114, 114, 111, 114, 32, 56] := by
  have e : Lib.itoa 8 = [56] := by
    rw [Lib.itoa, if_neg (by decide)]; exact dec8
  rw [show whatOf (End.num 8) = [101, 114, 114, 111, 114, 32] ++ Lib.itoa 8 from rfl, e]
  rfl
theorem dec20' : whatOf End.nil = [101, 114, 114, 111, 114, 32, 50, 48] := by
  have e : Lib.itoa 20 = [50, 48] := by
    rw [Lib.itoa, if_neg (by decide)]
    show Lib.decDigits 20 = _
    rw [Lib.decDigits, dif_neg (by decide), show 20 / 10 = 2 from rfl, Lib.decDigits, dif_pos (by decide)]
    rfl
  rw [show whatOf End.nil = [101, 114, 114, 111, 114, 32] ++ Lib.itoa 20 from rfl, e]
  rfl
theorem error8_from {W : World} {b : Nat} {p : ByteArray} (h : FaultAt W b p (.iface 29 (.int .i64 8))) (hG : Glob W) (hp : p.size ≤ reachBytes) (wx : World) (hb : Below W.heap.size W wx) :
    Calls Tryd.prog 23 #[.pointer (some ⟨b, 0, none⟩)] wx fun r w' => r = .returned (.string (p ++ ⟨#[58, 32, 101, 114, 114, 111, 114, 32, 56]⟩)) ∧ Below W.heap.size W w' := by
  have hl : (textOf (End.num 8) [p]).length ≤ 281474976710656 := by
    unfold reachBytes at hp
    rw [text_cons, show textOf (End.num 8) [] = whatOf (End.num 8) from by rw [text_pre]; rfl, dec8']
    have : p.data.toList.length = p.size := rfl
    simp only [List.length_append, List.length_cons, List.length_nil]
    omega
  have := error_any b p [] (End.num 8) (b + 1) wx ⟨b, _, rfl, by omega, h.below hb h.lt, rfl⟩ (Nat.le_trans h.lt hb.size) (by simp) (hG.under hb) (by decide) (by decide) hl
  rw [text_one, dec8'] at this
  exact from_of hb this
theorem error20_from {W : World} {b : Nat} {p : ByteArray} (h : FaultAt W b p .nilIface) (hG : Glob W) (hp : p.size ≤ reachBytes) (wx : World) (hb : Below W.heap.size W wx) :
    Calls Tryd.prog 23 #[.pointer (some ⟨b, 0, none⟩)] wx fun r w' => r = .returned (.string (p ++ ⟨#[58, 32, 101, 114, 114, 111, 114, 32, 50, 48]⟩)) ∧ Below W.heap.size W w' := by
  have hl : (textOf End.nil [p]).length ≤ 281474976710656 := by
    unfold reachBytes at hp
    rw [text_cons, show textOf End.nil [] = whatOf End.nil from by rw [text_pre]; rfl, dec20']
    have : p.data.toList.length = p.size := rfl
    simp only [List.length_append, List.length_cons, List.length_nil]
    omega
  have := error_any b p [] End.nil (b + 1) wx ⟨b, _, rfl, by omega, h.below hb h.lt, rfl⟩ (Nat.le_trans h.lt hb.size) (by simp) (hG.under hb) (by decide) (by decide) hl
  rw [text_one, dec20'] at this
  exact from_of hb this

set_option maxRecDepth 100000 in
set_option maxHeartbeats 2000000 in
theorem walk_many (ak : Bool) (x y : ByteArray) (k : Int) (A : Option Addr) (c : Nat) (l : List ByteArray) (p : ByteArray) (w : World) (hG : Glob w) (hm : l.length ≤ maxLen) (hs : ∀ p ∈ l, p.size ≤ maxLen) (hr : RowS w 0 w.heap.size A l) (hf : fewB l = false) :
    Calls Tryd.prog 7 #[.string p, .agg #[.bool ak, .string x, .string y, .int .i32 k, .slice A l.length c]] w fun e w' => e = .returned (.bool true) ∧ Below w.heap.size w w' := by
  have HBX := Lib.hid (show Below w.heap.size w (w.alloc (.cells #[.bool ak, .string x, .string y, .int .i32 k, .slice A l.length c] 24)) from (Below.refl _ w).alloc (Nat.le_refl _) _)
  have HG := Lib.hid hG
  have HR := Lib.hid hr
  have HS := Lib.hid hs
  have HF := Lib.hid hf
  clear hG hr hs hf
  go_enter Tryd.func7, Tryd.ntmps7
  go_wp2_with fail
  refine (live_any _ (HG.out.under HBX.out)).mono ?_
  rintro e w1 ⟨rfl, hb⟩
  have hB1 : Below w.heap.size w w1 := HBX.out.trans (hb.mono (by simp))
  have hz : w1.heap[w.heap.size]? = some (.cells #[.bool ak, .string x, .string y, .int .i32 k, .slice A l.length c] 24 (0, 0)) := (hb.block _ (by simp)).trans (heap_alloc_new w _)
  have c0 := cell_at (o := 0) hz rfl
  have c1 := cell_at (o := 1) hz rfl
  have c2 := cell_at (o := 2) hz rfl
  have c3 := cell_at (o := 3) hz rfl
  have c4 := cell_at (o := 4) hz rfl
  have HB1 := Lib.hid hB1
  clear hz hb hB1
  go_wp2_with fail
  refine (few_any ak x y k A _ c l 0 w.heap.size w1 rfl hm HS.out (HR.out.below HB1.out (Nat.le_refl _)) HB1.out.size).mono ?_
  rw [HF.out]
  rintro e w2 ⟨rfl, hb⟩
  have HB2 := Lib.hid (HB1.out.trans (hb.mono HB1.out.size))
  clear hb c0 c1 c2 c3 c4
  go_wp2_with fail
  refine (live_any _ (HG.out.under HB2.out)).mono ?_
  rintro e w3 ⟨rfl, hb⟩
  have HB3 := Lib.hid (HB2.out.trans (hb.mono HB2.out.size))
  clear hb
  go_wp2
  go_ret
  exact ⟨rfl, HB3.out⟩

set_option maxRecDepth 100000 in
set_option maxHeartbeats 2000000 in
theorem walk_some (ak : Bool) (x y : ByteArray) (k : Int) (A : Option Addr) (c : Nat) (l : List ByteArray) (p : ByteArray) (w : World) (hG : Glob w) (h0 : -2147483648 ≤ k) (h1 : k ≤ 2147483647) (hm : l.length ≤ maxLen) (hs : ∀ p ∈ l, p.size ≤ maxLen) (hr : RowS w 0 w.heap.size A l) (hf : fewB l = true)
    (hp : p.size ≤ reachBytes) (hk : ak = true ∨ k ≠ 0) :
    Calls Tryd.prog 7 #[.string p, .agg #[.bool ak, .string x, .string y, .int .i32 k, .slice A l.length c]] w fun e w' => e = .returned (.bool true) ∧ Below w.heap.size w w' := by
  have HBX := Lib.hid (show Below w.heap.size w (w.alloc (.cells #[.bool ak, .string x, .string y, .int .i32 k, .slice A l.length c] 24)) from (Below.refl _ w).alloc (Nat.le_refl _) _)
  have HG := Lib.hid hG
  have HR := Lib.hid hr
  have HS := Lib.hid hs
  have HF := Lib.hid hf
  have HK := Lib.hid (And.intro hk (And.intro h0 h1))
  clear hG hr hs hf hk h0 h1
  go_enter Tryd.func7, Tryd.ntmps7
  go_wp2_with fail
  refine (live_any _ (HG.out.under HBX.out)).mono ?_
  rintro e w1 ⟨rfl, hb⟩
  have HB1 := Lib.hid (HBX.out.trans (hb.mono (by simp)))
  have HM1 := Lib.hid ((MadeAt.new w ak x y k A l.length c).below hb (by simp))
  have c0 := HM1.out.c0
  have c1 := HM1.out.c1
  have c2 := HM1.out.c2
  have c3 := HM1.out.c3
  have c4 := HM1.out.c4
  clear hb
  go_wp2_with fail
  refine (few_any ak x y k A _ c l 0 w.heap.size w1 rfl hm HS.out (HR.out.below HB1.out (Nat.le_refl _)) HB1.out.size).mono ?_
  rw [HF.out]
  rintro e w2 ⟨rfl, hb⟩
  have HB2 := Lib.hid (HB1.out.trans (hb.mono HB1.out.size))
  have HM2 := Lib.hid (HM1.out.below hb HM1.out.lt)
  clear hb c0 c1 c2 c3 c4 HM1 HB1 HBX
  have c0 := HM2.out.c0
  have c1 := HM2.out.c1
  have c2 := HM2.out.c2
  have c3 := HM2.out.c3
  have c4 := HM2.out.c4
  go_wp2_with fail
  refine (make_from ak x y k A c l HK.out.1 HK.out.2.1 HK.out.2.2 hm HR.out HB2.out).mono ?_
  rintro r w3 ⟨T, z, rfl, hE, hb, hbW⟩
  have HE3 := Lib.hid hE
  clear hE
  have HB3 := Lib.hid hbW
  have HM3 := Lib.hid (HM2.out.below hb HM2.out.lt)
  clear hb hbW c0 c1 c2 c3 c4 HM2 HB2
  go_upto_region 5 with fail
  obtain ⟨w4, hw⟩ : ∃ wy, w3.alloc (.cells #[.string p, .iface T z] 51) = wy := ⟨_, rfl⟩
  rw [hw]
  have hb : Below w3.heap.size w3 w4 := by rw [← hw]; exact (Below.refl _ _).alloc (Nat.le_refl _) _
  have HF4 := Lib.hid (show FaultAt w4 w3.heap.size p (.iface T z) from by rw [← hw]; exact heap_alloc_new _ _)
  have HB4 := Lib.hid (HB3.out.trans (hb.mono HB3.out.size))
  have HM4 := Lib.hid (HM3.out.below hb HM3.out.lt)
  have HE4 := Lib.hid ((HE3.out.below hb (Nat.le_refl _)).wide hb.size)
  clear hw hb HM3 HB3
  generalize w3.heap.size = g1 at *
  go_wp2_with fail
  refine (of_num 8 _ (by decide)).mono ?_
  rintro r w9 ⟨rfl, rfl⟩
  go_upto_region 6 with fail
  obtain ⟨w5, hw⟩ : ∃ wy, w4.alloc (.cells #[.string p, .iface 29 (.int .i64 8)] 51) = wy := ⟨_, rfl⟩
  rw [hw]
  have hb : Below w4.heap.size w4 w5 := by rw [← hw]; exact (Below.refl _ _).alloc (Nat.le_refl _) _
  have HF5 := Lib.hid (HF4.out.below hb HF4.out.lt)
  have HH5 := Lib.hid (show FaultAt w5 w4.heap.size p (.iface 29 (.int .i64 8)) from by rw [← hw]; exact heap_alloc_new _ _)
  have HB5 := Lib.hid (HB4.out.trans (hb.mono HB4.out.size))
  have HM5 := Lib.hid (HM4.out.below hb HM4.out.lt)
  have HE5 := Lib.hid ((HE4.out.below hb (Nat.le_refl _)).wide hb.size)
  clear hw hb HM4 HB4 HF4
  generalize w4.heap.size = g2 at *
  have c0 := HM5.out.c0
  have c1 := HM5.out.c1
  have c2 := HM5.out.c2
  have c3 := HM5.out.c3
  have c4 := HM5.out.c4
  go_wp2_with fail
  refine (should_from ak x y k A c l HK.out.1 HK.out.2.1 HK.out.2.2 HF.out HR.out HB5.out).mono ?_
  rintro r w6 ⟨A2, c2, rfl, hR, hb, hbW⟩
  clear c0 c1 c3 c4
  go_upto_region 7 with fail
  obtain ⟨w7, hw⟩ : ∃ wy, w6.alloc (.cells #[.bool true, .slice A2 l.length c2, .int .i64 (codeOf (endM ak x y k)), .bool (needOf (endM ak x y k)).2.2, .string (needOf (endM ak x y k)).1, .string (needOf (endM ak x y k)).2.1] 33) = wy := ⟨_, rfl⟩
  rw [hw]
  have hb7 : Below w6.heap.size w6 w7 := by rw [← hw]; exact (Below.refl _ _).alloc (Nat.le_refl _) _
  have hb' : Below w5.heap.size w5 w7 := hb.trans (hb7.mono hb.size)
  have HSH := Lib.hid (show ShouldAt w7 w6.heap.size true A2 l.length c2 (codeOf (endM ak x y k)) (needOf (endM ak x y k)).2.2 (needOf (endM ak x y k)).1 (needOf (endM ak x y k)).2.1 from by rw [← hw]; exact heap_alloc_new _ _)
  have HF7 := Lib.hid (HF5.out.below hb' HF5.out.lt)
  have HH7 := Lib.hid (HH5.out.below hb' HH5.out.lt)
  have HB7 := Lib.hid (HB5.out.trans (hb'.mono HB5.out.size))
  have HG7 := Lib.hid (HG.out.under HB7.out)
  have HE7 := Lib.hid ((HE5.out.below hb' (Nat.le_refl _)).wide hb'.size)
  have HSOME := Lib.hid (show some? (endM ak x y k) l from .inr (endM_some HK.out.1))
  clear hw hb hb' hb7 hbW hR HM5 HB5 HF5 HH5
  generalize w6.heap.size = g3 at *
  generalize endM ak x y k = e at *
  have hpl : p.size ≤ 140737488351232 := by
    have := hp
    unfold reachBytes at this
    omega
  have HUF := Lib.hid (unwrap_from HF7.out)
  have HUN := Lib.hid (unwrapN_from (W := w7))
  have HEN := Lib.hid (errorN_from (W := w7))
  have HEG := Lib.hid (error8_from HH7.out HG7.out hp)
  have HCODE := Lib.hid (code_from HE7.out HSOME.out HG7.out)
  have keep : ∀ w', Below w7.heap.size w7 w' → w'.cell? ⟨g3, 0, none⟩ = some (.bool true) ∧ w'.cell? ⟨g3, 1, none⟩ = some (.slice A2 l.length c2) ∧ w'.cell? ⟨g3, 2, none⟩ = some (.int .i64 (codeOf e)) ∧ w'.cell? ⟨g3, 3, none⟩ = some (.bool (needOf e).2.2) ∧ w'.cell? ⟨g3, 4, none⟩ = some (.string (needOf e).1) ∧ w'.cell? ⟨g3, 5, none⟩ = some (.string (needOf e).2.1) ∧ Below w7.heap.size w7 w' := fun w' h => by
    have m := (HSH.out.below h HSH.out.lt).cells
    exact ⟨m.1, m.2.1, m.2.2.1, m.2.2.2.1, m.2.2.2.2.1, m.2.2.2.2.2, h⟩
  have KEEP := Lib.hid keep
  obtain ⟨s0, s1, s2, s3, s4, s5, _⟩ := keep _ (Below.refl _ _)
  clear keep
  have hno : ¬ (9223372036854775807 < p.size + 9) := by omega
  have hno' : ¬ (9223372036854775807 < p.size + 10) := by omega
  clear s0 s1 s2 s3 s4 s5
  refine wp_region_class (C := fun w' => Below w7.heap.size w7 w') (by kernel_rfl) (by kernel_rfl) (Below.refl _ _).drew ?_
  repeat (quiet_step (first | (intro _; rfl) | (intro hw; rw [(KEEP.out _ hw).1]; exact ⟨rfl, rfl⟩) | (intro hw; rw [(KEEP.out _ hw).2.2.1]; exact ⟨rfl, rfl⟩) | (intro hw; with_reducible exact HUF.out _ hw) | (intro hw; with_reducible exact HUN.out _ hw) | (intro hw; with_reducible exact HCODE.out _ hw) | (intro hw; with_reducible exact HEN.out _ hw) | (intro hw; with_reducible exact HEG.out _ hw)))
  refine wpQuiet_nil ?_
  intro w8 hb6
  have HB8 := Lib.hid (HB7.out.trans (hb6.mono HB7.out.size))
  clear hb6
  go_wp2_with fail
  go_ret
  exact ⟨rfl, HB8.out⟩

set_option maxRecDepth 100000 in
set_option maxHeartbeats 2000000 in
theorem walk_none (x y : ByteArray) (A : Option Addr) (c : Nat) (l : List ByteArray) (p : ByteArray) (w : World) (hG : Glob w) (hm : l.length ≤ maxLen) (hs : ∀ p ∈ l, p.size ≤ maxLen) (hr : RowS w 0 w.heap.size A l) (hf : fewB l = true)
    (hp : p.size ≤ reachBytes) :
    Calls Tryd.prog 7 #[.string p, .agg #[.bool false, .string x, .string y, .int .i32 0, .slice A l.length c]] w fun e w' => e = .returned (.bool true) ∧ Below w.heap.size w w' := by
  have HBX := Lib.hid (show Below w.heap.size w (w.alloc (.cells #[.bool false, .string x, .string y, .int .i32 0, .slice A l.length c] 24)) from (Below.refl _ w).alloc (Nat.le_refl _) _)
  have HG := Lib.hid hG
  have HR := Lib.hid hr
  have HS := Lib.hid hs
  have HF := Lib.hid hf
  clear hG hr hs hf
  go_enter Tryd.func7, Tryd.ntmps7
  go_wp2_with fail
  refine (live_any _ (HG.out.under HBX.out)).mono ?_
  rintro e w1 ⟨rfl, hb⟩
  have HB1 := Lib.hid (HBX.out.trans (hb.mono (by simp)))
  have HM1 := Lib.hid ((MadeAt.new w false x y 0 A l.length c).below hb (by simp))
  have c0 := HM1.out.c0
  have c1 := HM1.out.c1
  have c2 := HM1.out.c2
  have c3 := HM1.out.c3
  have c4 := HM1.out.c4
  clear hb
  go_wp2_with fail
  refine (few_any false x y 0 A _ c l 0 w.heap.size w1 rfl hm HS.out (HR.out.below HB1.out (Nat.le_refl _)) HB1.out.size).mono ?_
  rw [HF.out]
  rintro e w2 ⟨rfl, hb⟩
  have HB2 := Lib.hid (HB1.out.trans (hb.mono HB1.out.size))
  have HM2 := Lib.hid (HM1.out.below hb HM1.out.lt)
  clear hb c0 c1 c2 c3 c4 HM1 HB1 HBX
  have c0 := HM2.out.c0
  have c1 := HM2.out.c1
  have c2 := HM2.out.c2
  have c3 := HM2.out.c3
  have c4 := HM2.out.c4
  go_wp2_with fail
  refine (make0_from x y A c l hm HR.out HB2.out).mono ?_
  rintro r w3 ⟨rfl, hb, hbW⟩
  have HB3 := Lib.hid hbW
  have HM3 := Lib.hid (HM2.out.below hb HM2.out.lt)
  clear hb hbW c0 c1 c2 c3 c4 HM2 HB2
  go_upto_region 5 with fail
  obtain ⟨w4, hw⟩ : ∃ wy, w3.alloc (.cells #[.string p, .nilIface] 51) = wy := ⟨_, rfl⟩
  rw [hw]
  have hb : Below w3.heap.size w3 w4 := by rw [← hw]; exact (Below.refl _ _).alloc (Nat.le_refl _) _
  have HF4 := Lib.hid (show FaultAt w4 w3.heap.size p (.nilIface) from by rw [← hw]; exact heap_alloc_new _ _)
  have HB4 := Lib.hid (HB3.out.trans (hb.mono HB3.out.size))
  have HM4 := Lib.hid (HM3.out.below hb HM3.out.lt)
  clear hw hb HM3 HB3
  generalize w3.heap.size = g1 at *
  go_wp2_with fail
  refine (of_num 8 _ (by decide)).mono ?_
  rintro r w9 ⟨rfl, rfl⟩
  go_upto_region 6 with fail
  obtain ⟨w5, hw⟩ : ∃ wy, w4.alloc (.cells #[.string p, .iface 29 (.int .i64 8)] 51) = wy := ⟨_, rfl⟩
  rw [hw]
  have hb : Below w4.heap.size w4 w5 := by rw [← hw]; exact (Below.refl _ _).alloc (Nat.le_refl _) _
  have HF5 := Lib.hid (HF4.out.below hb HF4.out.lt)
  have HH5 := Lib.hid (show FaultAt w5 w4.heap.size p (.iface 29 (.int .i64 8)) from by rw [← hw]; exact heap_alloc_new _ _)
  have HB5 := Lib.hid (HB4.out.trans (hb.mono HB4.out.size))
  have HM5 := Lib.hid (HM4.out.below hb HM4.out.lt)
  clear hw hb HM4 HB4 HF4
  generalize w4.heap.size = g2 at *
  have c0 := HM5.out.c0
  have c1 := HM5.out.c1
  have c2 := HM5.out.c2
  have c3 := HM5.out.c3
  have c4 := HM5.out.c4
  go_wp2_with fail
  refine (should0_from x y A c l HF.out HR.out HB5.out).mono ?_
  rintro r w6 ⟨A2, c2, rfl, hb, hbW⟩
  clear c0 c1 c3 c4
  go_upto_region 7 with fail
  obtain ⟨w7, hw⟩ : ∃ wy, w6.alloc (.cells #[.bool false, .slice A2 0 c2, .int .i64 0, .bool false, .string ⟨#[]⟩, .string ⟨#[]⟩] 33) = wy := ⟨_, rfl⟩
  rw [hw]
  have hb7 : Below w6.heap.size w6 w7 := by rw [← hw]; exact (Below.refl _ _).alloc (Nat.le_refl _) _
  have hb' : Below w5.heap.size w5 w7 := hb.trans (hb7.mono hb.size)
  have HSH := Lib.hid (show ShouldAt w7 w6.heap.size false A2 0 c2 0 false ⟨#[]⟩ ⟨#[]⟩ from by rw [← hw]; exact heap_alloc_new _ _)
  have HF7 := Lib.hid (HF5.out.below hb' HF5.out.lt)
  have HH7 := Lib.hid (HH5.out.below hb' HH5.out.lt)
  have HB7 := Lib.hid (HB5.out.trans (hb'.mono HB5.out.size))
  have HG7 := Lib.hid (HG.out.under HB7.out)
  clear hw hb hb' hb7 hbW HM5 HB5 HF5 HH5
  generalize w6.heap.size = g3 at *
  have hpl : p.size ≤ 140737488351232 := by
    have := hp
    unfold reachBytes at this
    omega
  have HUF := Lib.hid (unwrap_from HF7.out)
  have HUN := Lib.hid (unwrapN_from (W := w7))
  have HEN := Lib.hid (errorN_from (W := w7))
  have HEG := Lib.hid (error8_from HH7.out HG7.out hp)
  have HCODE := Lib.hid (code0_from (W := w7))
  have HEF := Lib.hid (error20_from HF7.out HG7.out hp)
  have keep : ∀ w', Below w7.heap.size w7 w' → w'.cell? ⟨g3, 0, none⟩ = some (.bool false) ∧ w'.cell? ⟨g3, 1, none⟩ = some (.slice A2 0 c2) ∧ w'.cell? ⟨g3, 2, none⟩ = some (.int .i64 0) ∧ w'.cell? ⟨g3, 3, none⟩ = some (.bool false) ∧ w'.cell? ⟨g3, 4, none⟩ = some (.string ⟨#[]⟩) ∧ w'.cell? ⟨g3, 5, none⟩ = some (.string ⟨#[]⟩) ∧ Below w7.heap.size w7 w' := fun w' h => by
    have m := (HSH.out.below h HSH.out.lt).cells
    exact ⟨m.1, m.2.1, m.2.2.1, m.2.2.2.1, m.2.2.2.2.1, m.2.2.2.2.2, h⟩
  have KEEP := Lib.hid keep
  obtain ⟨s0, s1, s2, s3, s4, s5, _⟩ := keep _ (Below.refl _ _)
  clear keep
  have hno : ¬ (9223372036854775807 < p.size + 9) := by omega
  have hno' : ¬ (9223372036854775807 < p.size + 10) := by omega
  clear s0 s1 s2 s3 s4 s5
  refine wp_region_class (C := fun w' => Below w7.heap.size w7 w') (by kernel_rfl) (by kernel_rfl) (Below.refl _ _).drew ?_
  repeat (quiet_step (first | (intro _; rfl) | (intro hw; rw [(KEEP.out _ hw).1]; exact ⟨rfl, rfl⟩) | (intro hw; rw [(KEEP.out _ hw).2.2.1]; exact ⟨rfl, rfl⟩) | (intro hw; with_reducible exact HUF.out _ hw) | (intro hw; with_reducible exact HUN.out _ hw) | (intro hw; with_reducible exact HCODE.out _ hw) | (intro hw; with_reducible exact HEN.out _ hw) | (intro hw; with_reducible exact HEG.out _ hw) | (intro hw; with_reducible exact HEF.out _ hw)))
  refine wpQuiet_nil ?_
  intro w8 hb6
  have HB8 := Lib.hid (HB7.out.trans (hb6.mono HB7.out.size))
  clear hb6
  go_wp2_with fail
  go_ret
  exact ⟨rfl, HB8.out⟩

theorem walk (p : ByteArray) (ak : Bool) (x y : ByteArray) (k : Int) (A : Option Addr) (c : Nat) (l : List ByteArray) (w : World) (hG : Glob w) (hp : p.size ≤ reachBytes) (h0 : -2147483648 ≤ k) (h1 : k ≤ 2147483647) (hm : l.length ≤ maxLen) (hs : ∀ p ∈ l, p.size ≤ maxLen) (hr : RowS w 0 w.heap.size A l) :
    Calls Tryd.prog 7 #[.string p, .agg #[.bool ak, .string x, .string y, .int .i32 k, .slice A l.length c]] w fun e w' => e = .returned (.bool true) ∧ Below w.heap.size w w' := by
  by_cases hf : fewB l = true
  · by_cases hk : ak = true ∨ k ≠ 0
    · exact walk_some ak x y k A c l p w hG h0 h1 hm hs hr hf hp hk
    · obtain ⟨rfl, rfl⟩ : ak = false ∧ k = 0 := by
        rw [not_or] at hk
        exact ⟨by simpa using hk.1, by simpa using hk.2⟩
      exact walk_none x y A c l p w hG hm hs hr hf hp
  · exact walk_many ak x y k A c l p w hG hm hs hr (by simpa using hf)
end Go.Proofs.YtdlmnhpmdidkeaaDoor.faultFields
