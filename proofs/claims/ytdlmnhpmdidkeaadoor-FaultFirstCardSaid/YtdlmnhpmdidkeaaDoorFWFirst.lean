/-
  The walk of FaultFirst.
-/
import Derived.Test.YtdlmnhpmdidkeaaDoorFSome
import Derived.Deep.RegionHeld3
import Derived.Deep.DeepCutAuto
namespace Go.Proofs.YtdlmnhpmdidkeaaDoor.faultFirst
open Go.RowKit

/-- The three arguments in their boxes, in a world behind w. -/
structure Three (w wi : World) (ak1 : Bool) (x1 y1 : ByteArray) (k1 : Int) (A1 : Option Addr) (n1 c1 : Nat) (ak2 : Bool) (x2 y2 : ByteArray) (k2 : Int) (A2 : Option Addr) (n2 c2 : Nat) (ak3 : Bool) (x3 y3 : ByteArray) (k3 : Int) (A3 : Option Addr) (n3 c3 : Nat) : Prop where
  b : Below w.heap.size w wi
  m1 : MadeAt wi w.heap.size ak1 x1 y1 k1 A1 n1 c1
  m2 : MadeAt wi (w.heap.size + 1) ak2 x2 y2 k2 A2 n2 c2
  m3 : MadeAt wi (w.heap.size + 1 + 1) ak3 x3 y3 k3 A3 n3 c3
section
variable {w wi wj : World} {ak1 ak2 ak3 : Bool} {x1 y1 x2 y2 x3 y3 : ByteArray} {k1 k2 k3 : Int} {A1 A2 A3 : Option Addr} {n1 c1 n2 c2 n3 c3 : Nat}
theorem Three.start (hb : Below (((w.alloc (.cells #[.bool ak1, .string x1, .string y1, .int .i32 k1, .slice A1 n1 c1] 24)).alloc (.cells #[.bool ak2, .string x2, .string y2, .int .i32 k2, .slice A2 n2 c2] 24)).alloc (.cells #[.bool ak3, .string x3, .string y3, .int .i32 k3, .slice A3 n3 c3] 24)).heap.size
    (((w.alloc (.cells #[.bool ak1, .string x1, .string y1, .int .i32 k1, .slice A1 n1 c1] 24)).alloc (.cells #[.bool ak2, .string x2, .string y2, .int .i32 k2, .slice A2 n2 c2] 24)).alloc (.cells #[.bool ak3, .string x3, .string y3, .int .i32 k3, .slice A3 n3 c3] 24)) wi) :
    Three w wi ak1 x1 y1 k1 A1 n1 c1 ak2 x2 y2 k2 A2 n2 c2 ak3 x3 y3 k3 A3 n3 c3 := by
  have e2 : (w.alloc (.cells #[.bool ak1, .string x1, .string y1, .int .i32 k1, .slice A1 n1 c1] 24)).heap.size = w.heap.size + 1 := by simp
  have e3 : ((w.alloc (.cells #[.bool ak1, .string x1, .string y1, .int .i32 k1, .slice A1 n1 c1] 24)).alloc (.cells #[.bool ak2, .string x2, .string y2, .int .i32 k2, .slice A2 n2 c2] 24)).heap.size = w.heap.size + 1 + 1 := by simp
  refine ⟨((((Below.refl _ w).alloc (Nat.le_refl _) _).alloc (by simp) _).alloc (by simp; omega) _).trans (hb.mono (by simp; omega)), ?_, ?_, ?_⟩
  · exact (((MadeAt.new w _ _ _ _ _ _ _).below ((Below.refl _ _).alloc (Nat.le_refl _) _) (by simp)).below ((Below.refl _ _).alloc (Nat.le_refl _) _) (by simp; omega)).below hb (by simp; omega)
  · have h := MadeAt.new (w.alloc (.cells #[.bool ak1, .string x1, .string y1, .int .i32 k1, .slice A1 n1 c1] 24)) ak2 x2 y2 k2 A2 n2 c2
    rw [e2] at h
    exact (h.below ((Below.refl _ _).alloc (Nat.le_refl _) _) (by simp)).below hb (by simp)
  · have h := MadeAt.new ((w.alloc (.cells #[.bool ak1, .string x1, .string y1, .int .i32 k1, .slice A1 n1 c1] 24)).alloc (.cells #[.bool ak2, .string x2, .string y2, .int .i32 k2, .slice A2 n2 c2] 24)) ak3 x3 y3 k3 A3 n3 c3
    rw [e3] at h
    exact h.below hb (by simp)
theorem Three.below (h : Three w wi ak1 x1 y1 k1 A1 n1 c1 ak2 x2 y2 k2 A2 n2 c2 ak3 x3 y3 k3 A3 n3 c3) (hb : Below wi.heap.size wi wj) : Three w wj ak1 x1 y1 k1 A1 n1 c1 ak2 x2 y2 k2 A2 n2 c2 ak3 x3 y3 k3 A3 n3 c3 :=
  ⟨h.b.trans (hb.mono h.b.size), h.m1.below hb h.m1.lt, h.m2.below hb h.m2.lt, h.m3.below hb h.m3.lt⟩
theorem Three.cells (h : Three w wi ak1 x1 y1 k1 A1 n1 c1 ak2 x2 y2 k2 A2 n2 c2 ak3 x3 y3 k3 A3 n3 c3) :
    wi.cell? ⟨w.heap.size, 0, none⟩ = some (.bool ak1) ∧ wi.cell? ⟨w.heap.size, 1, none⟩ = some (.string x1) ∧ wi.cell? ⟨w.heap.size, 2, none⟩ = some (.string y1) ∧ wi.cell? ⟨w.heap.size, 3, none⟩ = some (.int .i32 k1) ∧ wi.cell? ⟨w.heap.size, 4, none⟩ = some (.slice A1 n1 c1) ∧
    wi.cell? ⟨w.heap.size + 1, 0, none⟩ = some (.bool ak2) ∧ wi.cell? ⟨w.heap.size + 1, 1, none⟩ = some (.string x2) ∧ wi.cell? ⟨w.heap.size + 1, 2, none⟩ = some (.string y2) ∧ wi.cell? ⟨w.heap.size + 1, 3, none⟩ = some (.int .i32 k2) ∧ wi.cell? ⟨w.heap.size + 1, 4, none⟩ = some (.slice A2 n2 c2) ∧
    wi.cell? ⟨w.heap.size + 1 + 1, 0, none⟩ = some (.bool ak3) ∧ wi.cell? ⟨w.heap.size + 1 + 1, 1, none⟩ = some (.string x3) ∧ wi.cell? ⟨w.heap.size + 1 + 1, 2, none⟩ = some (.string y3) ∧ wi.cell? ⟨w.heap.size + 1 + 1, 3, none⟩ = some (.int .i32 k3) ∧ wi.cell? ⟨w.heap.size + 1 + 1, 4, none⟩ = some (.slice A3 n3 c3) :=
  ⟨h.m1.c0, h.m1.c1, h.m1.c2, h.m1.c3, h.m1.c4, h.m2.c0, h.m2.c1, h.m2.c2, h.m2.c3, h.m2.c4, h.m3.c0, h.m3.c1, h.m3.c2, h.m3.c3, h.m3.c4⟩
theorem madeAt_set6 {b g : Nat} {ak : Bool} {x y : ByteArray} {k : Int} {A : Option Addr} {n c : Nat} (h : MadeAt w b ak x y k A n c) (hne : b ≠ g) (v0 v1 v2 v3 v4 v5 : Value) :
    MadeAt ((((((w.setCell ⟨g, 0, none⟩ v0).setCell ⟨g, 1, none⟩ v1).setCell ⟨g, 2, none⟩ v2).setCell ⟨g, 3, none⟩ v3).setCell ⟨g, 4, none⟩ v4).setCell ⟨g, 5, none⟩ v5) b ak x y k A n c := by
  have s : ∀ (w : World) (o : Nat) (v : Value), (w.setCell ⟨g, o, none⟩ v).heap[b]? = w.heap[b]? := by
    intro w o v
    simp only [World.setCell, Array.getElem?_modify]
    rw [if_neg (fun h => hne h.symm)]
  unfold MadeAt at *
  rw [s, s, s, s, s, s]
  exact h
theorem Three.set6 {g : Nat} (h : Three w wi ak1 x1 y1 k1 A1 n1 c1 ak2 x2 y2 k2 A2 n2 c2 ak3 x3 y3 k3 A3 n3 c3) (hg : w.heap.size + 1 + 1 < g) (v0 v1 v2 v3 v4 v5 : Value) :
    Three w ((((((wi.setCell ⟨g, 0, none⟩ v0).setCell ⟨g, 1, none⟩ v1).setCell ⟨g, 2, none⟩ v2).setCell ⟨g, 3, none⟩ v3).setCell ⟨g, 4, none⟩ v4).setCell ⟨g, 5, none⟩ v5) ak1 x1 y1 k1 A1 n1 c1 ak2 x2 y2 k2 A2 n2 c2 ak3 x3 y3 k3 A3 n3 c3 :=
  ⟨below_set6 h.b (by omega) _ _ _ _ _ _, madeAt_set6 h.m1 (by omega) _ _ _ _ _ _, madeAt_set6 h.m2 (by omega) _ _ _ _ _ _, madeAt_set6 h.m3 (by omega) _ _ _ _ _ _⟩
end
set_option maxRecDepth 100000 in
set_option maxHeartbeats 4000000 in
theorem walk_many1 (ak1 : Bool) (k1 : Int) (x1 y1 : ByteArray) (A1 : Option Addr) (c1 : Nat) (l1 : List ByteArray) (ak2 : Bool) (k2 : Int) (x2 y2 : ByteArray) (A2 : Option Addr) (c2 : Nat) (l2 : List ByteArray) (ak3 : Bool) (k3 : Int) (x3 y3 : ByteArray) (A3 : Option Addr) (c3 : Nat) (l3 : List ByteArray) (w : World) (hG : Glob w)
    (hm1 : l1.length ≤ maxLen) (hs1 : ∀ p ∈ l1, p.size ≤ maxLen) (hr1 : RowS w 0 w.heap.size A1 l1) (hf1 : fewB l1 = false)
    (hm2 : l2.length ≤ maxLen) (hs2 : ∀ p ∈ l2, p.size ≤ maxLen) (hr2 : RowS w 0 w.heap.size A2 l2)
    (hm3 : l3.length ≤ maxLen) (hs3 : ∀ p ∈ l3, p.size ≤ maxLen) (hr3 : RowS w 0 w.heap.size A3 l3) :
    Calls Tryd.prog 5 #[.agg #[.bool ak1, .string x1, .string y1, .int .i32 k1, .slice A1 l1.length c1], .agg #[.bool ak2, .string x2, .string y2, .int .i32 k2, .slice A2 l2.length c2], .agg #[.bool ak3, .string x3, .string y3, .int .i32 k3, .slice A3 l3.length c3]] w fun e w' => e = .returned (.bool true) ∧ Below w.heap.size w w' := by
  have HBX := Lib.hid (show Below w.heap.size w (((w.alloc (.cells #[.bool ak1, .string x1, .string y1, .int .i32 k1, .slice A1 l1.length c1] 24)).alloc (.cells #[.bool ak2, .string x2, .string y2, .int .i32 k2, .slice A2 l2.length c2] 24)).alloc (.cells #[.bool ak3, .string x3, .string y3, .int .i32 k3, .slice A3 l3.length c3] 24)) from (((Below.refl _ w).alloc (Nat.le_refl _) _).alloc (by simp) _).alloc (by simp; omega) _)
  have HG := Lib.hid hG
  clear hG
  have HR1 := Lib.hid hr1
  have HS1 := Lib.hid (And.intro hm1 hs1)
  clear hr1 hm1 hs1
  have HF1 := Lib.hid hf1
  clear hf1
  have HR2 := Lib.hid hr2
  have HS2 := Lib.hid (And.intro hm2 hs2)
  clear hr2 hm2 hs2
  have HR3 := Lib.hid hr3
  have HS3 := Lib.hid (And.intro hm3 hs3)
  clear hr3 hm3 hs3
  go_enter Tryd.func5, Tryd.ntmps5
  go_wp2_with fail
  refine (live_any _ (HG.out.under HBX.out)).mono ?_
  rintro e w1 ⟨rfl, hb⟩
  have HT1 := Lib.hid (Three.start hb)
  obtain ⟨c10, c11, c12, c13, c14, c20, c21, c22, c23, c24, c30, c31, c32, c33, c34⟩ := HT1.out.cells
  clear hb HBX
  go_wp2_with fail
  refine (few_any ak1 x1 y1 k1 A1 _ c1 l1 0 w.heap.size w1 rfl HS1.out.1 HS1.out.2 (HR1.out.below HT1.out.b (Nat.le_refl _)) HT1.out.b.size).mono ?_
  rw [HF1.out]
  rintro e w2 ⟨rfl, hb⟩
  have HT2 := Lib.hid (HT1.out.below hb)
  clear hb c10 c11 c12 c13 c14 c20 c21 c22 c23 c24 c30 c31 c32 c33 c34
  go_wp2_with fail
  refine (live_any _ (HG.out.under HT2.out.b)).mono ?_
  rintro e w9 ⟨rfl, hb⟩
  have HB9 := Lib.hid (HT2.out.b.trans (hb.mono HT2.out.b.size))
  clear hb
  go_wp2
  go_ret
  exact ⟨rfl, HB9.out⟩


set_option maxRecDepth 100000 in
set_option maxHeartbeats 4000000 in
theorem walk_many2 (ak1 : Bool) (k1 : Int) (x1 y1 : ByteArray) (A1 : Option Addr) (c1 : Nat) (l1 : List ByteArray) (ak2 : Bool) (k2 : Int) (x2 y2 : ByteArray) (A2 : Option Addr) (c2 : Nat) (l2 : List ByteArray) (ak3 : Bool) (k3 : Int) (x3 y3 : ByteArray) (A3 : Option Addr) (c3 : Nat) (l3 : List ByteArray) (w : World) (hG : Glob w)
    (hm1 : l1.length ≤ maxLen) (hs1 : ∀ p ∈ l1, p.size ≤ maxLen) (hr1 : RowS w 0 w.heap.size A1 l1) (hf1 : fewB l1 = true)
    (hm2 : l2.length ≤ maxLen) (hs2 : ∀ p ∈ l2, p.size ≤ maxLen) (hr2 : RowS w 0 w.heap.size A2 l2) (hf2 : fewB l2 = false)
    (hm3 : l3.length ≤ maxLen) (hs3 : ∀ p ∈ l3, p.size ≤ maxLen) (hr3 : RowS w 0 w.heap.size A3 l3) :
    Calls Tryd.prog 5 #[.agg #[.bool ak1, .string x1, .string y1, .int .i32 k1, .slice A1 l1.length c1], .agg #[.bool ak2, .string x2, .string y2, .int .i32 k2, .slice A2 l2.length c2], .agg #[.bool ak3, .string x3, .string y3, .int .i32 k3, .slice A3 l3.length c3]] w fun e w' => e = .returned (.bool true) ∧ Below w.heap.size w w' := by
  have HBX := Lib.hid (show Below w.heap.size w (((w.alloc (.cells #[.bool ak1, .string x1, .string y1, .int .i32 k1, .slice A1 l1.length c1] 24)).alloc (.cells #[.bool ak2, .string x2, .string y2, .int .i32 k2, .slice A2 l2.length c2] 24)).alloc (.cells #[.bool ak3, .string x3, .string y3, .int .i32 k3, .slice A3 l3.length c3] 24)) from (((Below.refl _ w).alloc (Nat.le_refl _) _).alloc (by simp) _).alloc (by simp; omega) _)
  have HG := Lib.hid hG
  clear hG
  have HR1 := Lib.hid hr1
  have HS1 := Lib.hid (And.intro hm1 hs1)
  clear hr1 hm1 hs1
  have HF1 := Lib.hid hf1
  clear hf1
  have HR2 := Lib.hid hr2
  have HS2 := Lib.hid (And.intro hm2 hs2)
  clear hr2 hm2 hs2
  have HF2 := Lib.hid hf2
  clear hf2
  have HR3 := Lib.hid hr3
  have HS3 := Lib.hid (And.intro hm3 hs3)
  clear hr3 hm3 hs3
  go_enter Tryd.func5, Tryd.ntmps5
  go_wp2_with fail
  refine (live_any _ (HG.out.under HBX.out)).mono ?_
  rintro e w1 ⟨rfl, hb⟩
  have HT1 := Lib.hid (Three.start hb)
  obtain ⟨c10, c11, c12, c13, c14, c20, c21, c22, c23, c24, c30, c31, c32, c33, c34⟩ := HT1.out.cells
  clear hb HBX
  go_wp2_with fail
  refine (few_any ak1 x1 y1 k1 A1 _ c1 l1 0 w.heap.size w1 rfl HS1.out.1 HS1.out.2 (HR1.out.below HT1.out.b (Nat.le_refl _)) HT1.out.b.size).mono ?_
  rw [HF1.out]
  rintro e w2 ⟨rfl, hb⟩
  have HT2 := Lib.hid (HT1.out.below hb)
  clear hb c10 c11 c12 c13 c14 c20 c21 c22 c23 c24 c30 c31 c32 c33 c34
  obtain ⟨c10, c11, c12, c13, c14, c20, c21, c22, c23, c24, c30, c31, c32, c33, c34⟩ := HT2.out.cells
  go_wp2_with fail
  refine (few_any ak2 x2 y2 k2 A2 _ c2 l2 0 w.heap.size w2 rfl HS2.out.1 HS2.out.2 (HR2.out.below HT2.out.b (Nat.le_refl _)) HT2.out.b.size).mono ?_
  rw [HF2.out]
  rintro e w3 ⟨rfl, hb⟩
  have HT3 := Lib.hid (HT2.out.below hb)
  clear hb c10 c11 c12 c13 c14 c20 c21 c22 c23 c24 c30 c31 c32 c33 c34
  go_wp2_with fail
  refine (live_any _ (HG.out.under HT3.out.b)).mono ?_
  rintro e w9 ⟨rfl, hb⟩
  have HB9 := Lib.hid (HT3.out.b.trans (hb.mono HT3.out.b.size))
  clear hb
  go_wp2
  go_ret
  exact ⟨rfl, HB9.out⟩


set_option maxRecDepth 100000 in
set_option maxHeartbeats 4000000 in
theorem walk_many3 (ak1 : Bool) (k1 : Int) (x1 y1 : ByteArray) (A1 : Option Addr) (c1 : Nat) (l1 : List ByteArray) (ak2 : Bool) (k2 : Int) (x2 y2 : ByteArray) (A2 : Option Addr) (c2 : Nat) (l2 : List ByteArray) (ak3 : Bool) (k3 : Int) (x3 y3 : ByteArray) (A3 : Option Addr) (c3 : Nat) (l3 : List ByteArray) (w : World) (hG : Glob w)
    (hm1 : l1.length ≤ maxLen) (hs1 : ∀ p ∈ l1, p.size ≤ maxLen) (hr1 : RowS w 0 w.heap.size A1 l1) (hf1 : fewB l1 = true)
    (hm2 : l2.length ≤ maxLen) (hs2 : ∀ p ∈ l2, p.size ≤ maxLen) (hr2 : RowS w 0 w.heap.size A2 l2) (hf2 : fewB l2 = true)
    (hm3 : l3.length ≤ maxLen) (hs3 : ∀ p ∈ l3, p.size ≤ maxLen) (hr3 : RowS w 0 w.heap.size A3 l3) (hf3 : fewB l3 = false) :
    Calls Tryd.prog 5 #[.agg #[.bool ak1, .string x1, .string y1, .int .i32 k1, .slice A1 l1.length c1], .agg #[.bool ak2, .string x2, .string y2, .int .i32 k2, .slice A2 l2.length c2], .agg #[.bool ak3, .string x3, .string y3, .int .i32 k3, .slice A3 l3.length c3]] w fun e w' => e = .returned (.bool true) ∧ Below w.heap.size w w' := by
  have HBX := Lib.hid (show Below w.heap.size w (((w.alloc (.cells #[.bool ak1, .string x1, .string y1, .int .i32 k1, .slice A1 l1.length c1] 24)).alloc (.cells #[.bool ak2, .string x2, .string y2, .int .i32 k2, .slice A2 l2.length c2] 24)).alloc (.cells #[.bool ak3, .string x3, .string y3, .int .i32 k3, .slice A3 l3.length c3] 24)) from (((Below.refl _ w).alloc (Nat.le_refl _) _).alloc (by simp) _).alloc (by simp; omega) _)
  have HG := Lib.hid hG
  clear hG
  have HR1 := Lib.hid hr1
  have HS1 := Lib.hid (And.intro hm1 hs1)
  clear hr1 hm1 hs1
  have HF1 := Lib.hid hf1
  clear hf1
  have HR2 := Lib.hid hr2
  have HS2 := Lib.hid (And.intro hm2 hs2)
  clear hr2 hm2 hs2
  have HF2 := Lib.hid hf2
  clear hf2
  have HR3 := Lib.hid hr3
  have HS3 := Lib.hid (And.intro hm3 hs3)
  clear hr3 hm3 hs3
  have HF3 := Lib.hid hf3
  clear hf3
  go_enter Tryd.func5, Tryd.ntmps5
  go_wp2_with fail
  refine (live_any _ (HG.out.under HBX.out)).mono ?_
  rintro e w1 ⟨rfl, hb⟩
  have HT1 := Lib.hid (Three.start hb)
  obtain ⟨c10, c11, c12, c13, c14, c20, c21, c22, c23, c24, c30, c31, c32, c33, c34⟩ := HT1.out.cells
  clear hb HBX
  go_wp2_with fail
  refine (few_any ak1 x1 y1 k1 A1 _ c1 l1 0 w.heap.size w1 rfl HS1.out.1 HS1.out.2 (HR1.out.below HT1.out.b (Nat.le_refl _)) HT1.out.b.size).mono ?_
  rw [HF1.out]
  rintro e w2 ⟨rfl, hb⟩
  have HT2 := Lib.hid (HT1.out.below hb)
  clear hb c10 c11 c12 c13 c14 c20 c21 c22 c23 c24 c30 c31 c32 c33 c34
  obtain ⟨c10, c11, c12, c13, c14, c20, c21, c22, c23, c24, c30, c31, c32, c33, c34⟩ := HT2.out.cells
  go_wp2_with fail
  refine (few_any ak2 x2 y2 k2 A2 _ c2 l2 0 w.heap.size w2 rfl HS2.out.1 HS2.out.2 (HR2.out.below HT2.out.b (Nat.le_refl _)) HT2.out.b.size).mono ?_
  rw [HF2.out]
  rintro e w3 ⟨rfl, hb⟩
  have HT3 := Lib.hid (HT2.out.below hb)
  clear hb c10 c11 c12 c13 c14 c20 c21 c22 c23 c24 c30 c31 c32 c33 c34
  obtain ⟨c10, c11, c12, c13, c14, c20, c21, c22, c23, c24, c30, c31, c32, c33, c34⟩ := HT3.out.cells
  go_wp2_with fail
  refine (few_any ak3 x3 y3 k3 A3 _ c3 l3 0 w.heap.size w3 rfl HS3.out.1 HS3.out.2 (HR3.out.below HT3.out.b (Nat.le_refl _)) HT3.out.b.size).mono ?_
  rw [HF3.out]
  rintro e w4 ⟨rfl, hb⟩
  have HT4 := Lib.hid (HT3.out.below hb)
  clear hb c10 c11 c12 c13 c14 c20 c21 c22 c23 c24 c30 c31 c32 c33 c34
  go_wp2_with fail
  refine (live_any _ (HG.out.under HT4.out.b)).mono ?_
  rintro e w9 ⟨rfl, hb⟩
  have HB9 := Lib.hid (HT4.out.b.trans (hb.mono HT4.out.b.size))
  clear hb
  go_wp2
  go_ret
  exact ⟨rfl, HB9.out⟩

set_option maxRecDepth 100000 in
set_option maxHeartbeats 4000000 in
theorem walk_sss (ak1 : Bool) (k1 : Int) (x1 y1 : ByteArray) (A1 : Option Addr) (c1 : Nat) (l1 : List ByteArray) (ak2 : Bool) (k2 : Int) (x2 y2 : ByteArray) (A2 : Option Addr) (c2 : Nat) (l2 : List ByteArray) (ak3 : Bool) (k3 : Int) (x3 y3 : ByteArray) (A3 : Option Addr) (c3 : Nat) (l3 : List ByteArray) (w : World) (hG : Glob w)
    (hm1 : l1.length ≤ maxLen) (hs1 : ∀ p ∈ l1, p.size ≤ maxLen) (hr1 : RowS w 0 w.heap.size A1 l1) (hf1 : fewB l1 = true) (hk1 : ak1 = true ∨ k1 ≠ 0) (p1 : -2147483648 ≤ k1) (q1 : k1 ≤ 2147483647)
    (hm2 : l2.length ≤ maxLen) (hs2 : ∀ p ∈ l2, p.size ≤ maxLen) (hr2 : RowS w 0 w.heap.size A2 l2) (hf2 : fewB l2 = true) (hk2 : ak2 = true ∨ k2 ≠ 0) (p2 : -2147483648 ≤ k2) (q2 : k2 ≤ 2147483647)
    (hm3 : l3.length ≤ maxLen) (hs3 : ∀ p ∈ l3, p.size ≤ maxLen) (hr3 : RowS w 0 w.heap.size A3 l3) (hf3 : fewB l3 = true) (hk3 : ak3 = true ∨ k3 ≠ 0) (p3 : -2147483648 ≤ k3) (q3 : k3 ≤ 2147483647) :
    Calls Tryd.prog 5 #[.agg #[.bool ak1, .string x1, .string y1, .int .i32 k1, .slice A1 l1.length c1], .agg #[.bool ak2, .string x2, .string y2, .int .i32 k2, .slice A2 l2.length c2], .agg #[.bool ak3, .string x3, .string y3, .int .i32 k3, .slice A3 l3.length c3]] w fun e w' => e = .returned (.bool true) ∧ Below w.heap.size w w' := by
  have HBX := Lib.hid (show Below w.heap.size w (((w.alloc (.cells #[.bool ak1, .string x1, .string y1, .int .i32 k1, .slice A1 l1.length c1] 24)).alloc (.cells #[.bool ak2, .string x2, .string y2, .int .i32 k2, .slice A2 l2.length c2] 24)).alloc (.cells #[.bool ak3, .string x3, .string y3, .int .i32 k3, .slice A3 l3.length c3] 24)) from (((Below.refl _ w).alloc (Nat.le_refl _) _).alloc (by simp) _).alloc (by simp; omega) _)
  have HG := Lib.hid hG
  clear hG
  have HR1 := Lib.hid hr1
  have HS1 := Lib.hid (And.intro hm1 hs1)
  clear hr1 hm1 hs1
  have HF1 := Lib.hid hf1
  clear hf1
  have HK1 := Lib.hid (And.intro hk1 (And.intro p1 q1))
  clear hk1 p1 q1
  have HR2 := Lib.hid hr2
  have HS2 := Lib.hid (And.intro hm2 hs2)
  clear hr2 hm2 hs2
  have HF2 := Lib.hid hf2
  clear hf2
  have HK2 := Lib.hid (And.intro hk2 (And.intro p2 q2))
  clear hk2 p2 q2
  have HR3 := Lib.hid hr3
  have HS3 := Lib.hid (And.intro hm3 hs3)
  clear hr3 hm3 hs3
  have HF3 := Lib.hid hf3
  clear hf3
  have HK3 := Lib.hid (And.intro hk3 (And.intro p3 q3))
  clear hk3 p3 q3
  go_enter Tryd.func5, Tryd.ntmps5
  go_wp2_with fail
  refine (live_any _ (HG.out.under HBX.out)).mono ?_
  rintro e w1 ⟨rfl, hb⟩
  have HT1 := Lib.hid (Three.start hb)
  obtain ⟨c10, c11, c12, c13, c14, c20, c21, c22, c23, c24, c30, c31, c32, c33, c34⟩ := HT1.out.cells
  clear hb HBX
  go_wp2_with fail
  refine (few_any ak1 x1 y1 k1 A1 _ c1 l1 0 w.heap.size w1 rfl HS1.out.1 HS1.out.2 (HR1.out.below HT1.out.b (Nat.le_refl _)) HT1.out.b.size).mono ?_
  rw [HF1.out]
  rintro e w2 ⟨rfl, hb⟩
  have HT2 := Lib.hid (HT1.out.below hb)
  clear hb c10 c11 c12 c13 c14 c20 c21 c22 c23 c24 c30 c31 c32 c33 c34
  obtain ⟨c10, c11, c12, c13, c14, c20, c21, c22, c23, c24, c30, c31, c32, c33, c34⟩ := HT2.out.cells
  go_wp2_with fail
  refine (few_any ak2 x2 y2 k2 A2 _ c2 l2 0 w.heap.size w2 rfl HS2.out.1 HS2.out.2 (HR2.out.below HT2.out.b (Nat.le_refl _)) HT2.out.b.size).mono ?_
  rw [HF2.out]
  rintro e w3 ⟨rfl, hb⟩
  have HT3 := Lib.hid (HT2.out.below hb)
  clear hb c10 c11 c12 c13 c14 c20 c21 c22 c23 c24 c30 c31 c32 c33 c34
  obtain ⟨c10, c11, c12, c13, c14, c20, c21, c22, c23, c24, c30, c31, c32, c33, c34⟩ := HT3.out.cells
  go_wp2_with fail
  refine (few_any ak3 x3 y3 k3 A3 _ c3 l3 0 w.heap.size w3 rfl HS3.out.1 HS3.out.2 (HR3.out.below HT3.out.b (Nat.le_refl _)) HT3.out.b.size).mono ?_
  rw [HF3.out]
  rintro e w4 ⟨rfl, hb⟩
  have HT4 := Lib.hid (HT3.out.below hb)
  clear hb c10 c11 c12 c13 c14 c20 c21 c22 c23 c24 c30 c31 c32 c33 c34
  obtain ⟨c10, c11, c12, c13, c14, c20, c21, c22, c23, c24, c30, c31, c32, c33, c34⟩ := HT4.out.cells
  go_wp2_with fail
  refine (should_from ak1 x1 y1 k1 A1 c1 l1 HK1.out.1 HK1.out.2.1 HK1.out.2.2 HF1.out HR1.out HT4.out.b).mono ?_
  rintro e w5 ⟨X1, d1, rfl, hx1, hb, _⟩
  have HT5 := Lib.hid (HT4.out.below hb)
  clear hb c10 c11 c12 c13 c14 c20 c21 c22 c23 c24 c30 c31 c32 c33 c34
  go_upto_region 4 with fail
  obtain ⟨w6, hw6⟩ : ∃ w6, w5.alloc (.cells #[.bool true, .slice X1 l1.length d1, .int .i64 (codeOf (endM ak1 x1 y1 k1)), .bool (needOf (endM ak1 x1 y1 k1)).2.2, .string (needOf (endM ak1 x1 y1 k1)).1, .string (needOf (endM ak1 x1 y1 k1)).2.1] 33) = w6 := ⟨_, rfl⟩
  rw [hw6]
  have hb6 : Below w5.heap.size w5 w6 := by rw [← hw6]; exact (Below.refl _ _).alloc (Nat.le_refl _) _
  have hsh : ShouldAt w6 w5.heap.size true X1 l1.length d1 (codeOf (endM ak1 x1 y1 k1)) (needOf (endM ak1 x1 y1 k1)).2.2 (needOf (endM ak1 x1 y1 k1)).1 (needOf (endM ak1 x1 y1 k1)).2.1 := by rw [← hw6]; exact heap_alloc_new _ _
  have hg3 : w.heap.size + 1 + 1 < w5.heap.size := HT5.out.m3.lt
  have HT6 := Lib.hid (HT5.out.below hb6)
  have HX := Lib.hid ((hx1.below hb6 (Nat.le_refl _)).wide (Nat.zero_le _) hb6.size)
  clear hx1
  clear hw6 hb6
  generalize w5.heap.size = g at *
  obtain ⟨s0, s1, s2, s3, s4, s5⟩ := hsh.cells
  have HSH := Lib.hid hsh
  clear hsh
  go_upto_region 8 with fail
  clear s0 s1 s2 s3 s4 s5
  have HR1X := Lib.hid ((HR1.out.below HT6.out.b (Nat.le_refl _)).wide (Nat.le_refl _) HT6.out.b.size)
  have HR2X := Lib.hid ((HR2.out.below HT6.out.b (Nat.le_refl _)).wide (Nat.le_refl _) HT6.out.b.size)
  have HR3X := Lib.hid ((HR3.out.below HT6.out.b (Nat.le_refl _)).wide (Nat.le_refl _) HT6.out.b.size)
  have keep : ∀ w', Below w6.heap.size w6 w' → w'.cell? ⟨w.heap.size, 0, none⟩ = some (.bool ak1) ∧ w'.cell? ⟨w.heap.size, 1, none⟩ = some (.string x1) ∧ w'.cell? ⟨w.heap.size, 2, none⟩ = some (.string y1) ∧ w'.cell? ⟨w.heap.size, 3, none⟩ = some (.int .i32 k1) ∧ w'.cell? ⟨w.heap.size, 4, none⟩ = some (.slice A1 l1.length c1) ∧ w'.cell? ⟨w.heap.size + 1, 0, none⟩ = some (.bool ak2) ∧ w'.cell? ⟨w.heap.size + 1, 1, none⟩ = some (.string x2) ∧ w'.cell? ⟨w.heap.size + 1, 2, none⟩ = some (.string y2) ∧ w'.cell? ⟨w.heap.size + 1, 3, none⟩ = some (.int .i32 k2) ∧ w'.cell? ⟨w.heap.size + 1, 4, none⟩ = some (.slice A2 l2.length c2) ∧ w'.cell? ⟨w.heap.size + 1 + 1, 0, none⟩ = some (.bool ak3) ∧ w'.cell? ⟨w.heap.size + 1 + 1, 1, none⟩ = some (.string x3) ∧ w'.cell? ⟨w.heap.size + 1 + 1, 2, none⟩ = some (.string y3) ∧ w'.cell? ⟨w.heap.size + 1 + 1, 3, none⟩ = some (.int .i32 k3) ∧ w'.cell? ⟨w.heap.size + 1 + 1, 4, none⟩ = some (.slice A3 l3.length c3) ∧ Below w6.heap.size w6 w' := fun w' h => by
    have t := (HT6.out.below h).cells
    exact ⟨t.1, t.2.1, t.2.2.1, t.2.2.2.1, t.2.2.2.2.1, t.2.2.2.2.2.1, t.2.2.2.2.2.2.1, t.2.2.2.2.2.2.2.1, t.2.2.2.2.2.2.2.2.1, t.2.2.2.2.2.2.2.2.2.1, t.2.2.2.2.2.2.2.2.2.2.1, t.2.2.2.2.2.2.2.2.2.2.2.1, t.2.2.2.2.2.2.2.2.2.2.2.2.1, t.2.2.2.2.2.2.2.2.2.2.2.2.2.1, t.2.2.2.2.2.2.2.2.2.2.2.2.2.2, h⟩
  have KEEP := Lib.hid keep
  obtain ⟨c10, c11, c12, c13, c14, c20, c21, c22, c23, c24, c30, c31, c32, c33, c34, _⟩ := keep _ (Below.refl _ _)
  clear keep
  go_region_held3 (fun w' => w'.cell? ⟨w.heap.size, 0, none⟩ = some (.bool ak1) ∧ w'.cell? ⟨w.heap.size, 1, none⟩ = some (.string x1) ∧ w'.cell? ⟨w.heap.size, 2, none⟩ = some (.string y1) ∧ w'.cell? ⟨w.heap.size, 3, none⟩ = some (.int .i32 k1) ∧ w'.cell? ⟨w.heap.size, 4, none⟩ = some (.slice A1 l1.length c1) ∧ w'.cell? ⟨w.heap.size + 1, 0, none⟩ = some (.bool ak2) ∧ w'.cell? ⟨w.heap.size + 1, 1, none⟩ = some (.string x2) ∧ w'.cell? ⟨w.heap.size + 1, 2, none⟩ = some (.string y2) ∧ w'.cell? ⟨w.heap.size + 1, 3, none⟩ = some (.int .i32 k2) ∧ w'.cell? ⟨w.heap.size + 1, 4, none⟩ = some (.slice A2 l2.length c2) ∧ w'.cell? ⟨w.heap.size + 1 + 1, 0, none⟩ = some (.bool ak3) ∧ w'.cell? ⟨w.heap.size + 1 + 1, 1, none⟩ = some (.string x3) ∧ w'.cell? ⟨w.heap.size + 1 + 1, 2, none⟩ = some (.string y3) ∧ w'.cell? ⟨w.heap.size + 1 + 1, 3, none⟩ = some (.int .i32 k3) ∧ w'.cell? ⟨w.heap.size + 1 + 1, 4, none⟩ = some (.slice A3 l3.length c3) ∧ Below w6.heap.size w6 w')
    (first | with_reducible exact KEEP.out _ (Below.alloc hB3 (Below.size hB3) _) | with_reducible exact KEEP.out _ hB3 | with_reducible exact KEEP.out _ hB2 | with_reducible exact KEEP.out _ hB1 | with_reducible exact KEEP.out _ (Below.refl _ _).drew)
    (first
      | (go_at_call 10; (with_reducible refine (make_from ak1 x1 y1 k1 A1 c1 l1 HK1.out.1 HK1.out.2.1 HK1.out.2.2 HS1.out.1 HR1X.out (by go_split_ands; assumption)).mono ?_); rintro r u1 ⟨T1, z1, rfl, hE1, hb1, hB1⟩)
      | (go_at_call 10; (with_reducible refine (make_from ak2 x2 y2 k2 A2 c2 l2 HK2.out.1 HK2.out.2.1 HK2.out.2.2 HS2.out.1 HR2X.out (by go_split_ands; assumption)).mono ?_); rintro r u2 ⟨T2, z2, rfl, hE2, hb2, hB2⟩)
      | (go_at_call 10; (with_reducible refine (make_from ak3 x3 y3 k3 A3 c3 l3 HK3.out.1 HK3.out.2.1 HK3.out.2.2 HS3.out.1 HR3X.out (by go_split_ands; assumption)).mono ?_); rintro r u3 ⟨T3, z3, rfl, hE3, hb3, hB3⟩)
      | (go_at_call 20; refine (first_a T1 z1 _ _ _ _ (heap_alloc_new _ _)).mono ?_; rintro r u4 ⟨rfl, rfl⟩))
  go_upto_region 9 with fail
  obtain ⟨wz, hwz⟩ : ∃ wz, u3.alloc (.cells #[.iface T1 z1, .nilIface, .iface T2 z2, .iface T3 z3] 27) = wz := ⟨_, rfl⟩
  rw [hwz]
  have hbz : Below u3.heap.size u3 wz := by rw [← hwz]; exact (Below.refl _ _).alloc (Nat.le_refl _) _
  have hbx := hB3.trans (hbz.mono hB3.size)
  have HZ := Lib.hid (HT6.out.b.trans (hbx.mono HT6.out.b.size))
  have HGZ := Lib.hid (HG.out.under HZ.out)
  have hsz := HSH.out.below hbx HSH.out.lt
  have HSZ := Lib.hid hsz
  have HXZ := Lib.hid ((HX.out.below hbx (Nat.le_refl _)).wide (Nat.le_refl _) hbx.size)
  have HEZ := Lib.hid ((((((hE1.below hb2 (Nat.le_refl _)).wide hb2.size).below hb3 (Nat.le_refl _)).wide hb3.size).below hbz (Nat.le_refl _)).wide hbz.size)
  have HSOME := Lib.hid (show some? (endM ak1 x1 y1 k1) l1 from .inr (endM_some HK1.out.1))
  have HCB := Lib.hid (codeM_le (ak := ak1) (x := x1) (y := y1) HK1.out.2.1 HK1.out.2.2)
  have HCODE := Lib.hid (code_from HEZ.out HSOME.out HGZ.out)
  have HTEXT := Lib.hid (text_from HEZ.out HSOME.out HGZ.out HF1.out HCB.out.1 HCB.out.2)
  have HREF := Lib.hid (refText_from d1 (needOf (endM ak1 x1 y1 k1)).1 (needOf (endM ak1 x1 y1 k1)).2.1 HXZ.out HF1.out HCB.out.1 HCB.out.2)
  have keep2 : ∀ w', Below wz.heap.size wz w' → w'.cell? ⟨g, 0, none⟩ = some (.bool true) ∧ w'.cell? ⟨g, 1, none⟩ = some (.slice X1 l1.length d1) ∧ w'.cell? ⟨g, 2, none⟩ = some (.int .i64 (codeOf (endM ak1 x1 y1 k1))) ∧ w'.cell? ⟨g, 3, none⟩ = some (.bool (needOf (endM ak1 x1 y1 k1)).2.2) ∧ w'.cell? ⟨g, 4, none⟩ = some (.string (needOf (endM ak1 x1 y1 k1)).1) ∧ w'.cell? ⟨g, 5, none⟩ = some (.string (needOf (endM ak1 x1 y1 k1)).2.1) ∧ Below wz.heap.size wz w' := fun w' h => by
    have m := (HSZ.out.below h HSZ.out.lt).cells
    exact ⟨m.1, m.2.1, m.2.2.1, m.2.2.2.1, m.2.2.2.2.1, m.2.2.2.2.2, h⟩
  have KEEP2 := Lib.hid keep2
  clear hb1 hb2 hb3 hB1 hB2 hB3 hbz hbx hsz hwz KEEP c10 c11 c12 c13 c14 c20 c21 c22 c23 c24 c30 c31 c32 c33 c34
  clear hE1 hE2 hE3
  generalize endM ak1 x1 y1 k1 = e at *
  obtain ⟨s0, s1, s2, s3, s4, s5, _⟩ := keep2 _ (Below.refl _ _)
  clear keep2
  go_region_held3 (fun w' => w'.cell? ⟨g, 0, none⟩ = some (.bool true) ∧ w'.cell? ⟨g, 1, none⟩ = some (.slice X1 l1.length d1) ∧ w'.cell? ⟨g, 2, none⟩ = some (.int .i64 (codeOf e)) ∧ w'.cell? ⟨g, 3, none⟩ = some (.bool (needOf e).2.2) ∧ w'.cell? ⟨g, 4, none⟩ = some (.string (needOf e).1) ∧ w'.cell? ⟨g, 5, none⟩ = some (.string (needOf e).2.1) ∧ Below wz.heap.size wz w')
    (first | with_reducible exact KEEP2.out _ hb6 | with_reducible exact KEEP2.out _ (Below.refl _ _).drew)
    (first
      | (go_at_call 13; refine (HCODE.out _ (by go_split_ands; assumption)).mono ?_; rintro r w' ⟨rfl, hb6⟩)
      | (go_at_call 16; refine (HTEXT.out _ (by go_split_ands; assumption)).mono ?_; rintro r w' ⟨rfl, hb6⟩)
      | (go_at_call 17; refine (HREF.out _ (by go_split_ands; assumption)).mono ?_; rintro r w' ⟨rfl, hb6⟩)
      | (go_at_call 20; refine (first_none _).mono ?_; rintro r w' ⟨rfl, rfl⟩))
  go_wp2_with fail
  go_ret
  exact ⟨rfl, HZ.out.trans (hb6.mono HZ.out.size)⟩

set_option maxRecDepth 100000 in
set_option maxHeartbeats 4000000 in
theorem walk_ssn (ak1 : Bool) (k1 : Int) (x1 y1 : ByteArray) (A1 : Option Addr) (c1 : Nat) (l1 : List ByteArray) (ak2 : Bool) (k2 : Int) (x2 y2 : ByteArray) (A2 : Option Addr) (c2 : Nat) (l2 : List ByteArray) (x3 y3 : ByteArray) (A3 : Option Addr) (c3 : Nat) (l3 : List ByteArray) (w : World) (hG : Glob w)
    (hm1 : l1.length ≤ maxLen) (hs1 : ∀ p ∈ l1, p.size ≤ maxLen) (hr1 : RowS w 0 w.heap.size A1 l1) (hf1 : fewB l1 = true) (hk1 : ak1 = true ∨ k1 ≠ 0) (p1 : -2147483648 ≤ k1) (q1 : k1 ≤ 2147483647)
    (hm2 : l2.length ≤ maxLen) (hs2 : ∀ p ∈ l2, p.size ≤ maxLen) (hr2 : RowS w 0 w.heap.size A2 l2) (hf2 : fewB l2 = true) (hk2 : ak2 = true ∨ k2 ≠ 0) (p2 : -2147483648 ≤ k2) (q2 : k2 ≤ 2147483647)
    (hm3 : l3.length ≤ maxLen) (hs3 : ∀ p ∈ l3, p.size ≤ maxLen) (hr3 : RowS w 0 w.heap.size A3 l3) (hf3 : fewB l3 = true) :
    Calls Tryd.prog 5 #[.agg #[.bool ak1, .string x1, .string y1, .int .i32 k1, .slice A1 l1.length c1], .agg #[.bool ak2, .string x2, .string y2, .int .i32 k2, .slice A2 l2.length c2], .agg #[.bool false, .string x3, .string y3, .int .i32 0, .slice A3 l3.length c3]] w fun e w' => e = .returned (.bool true) ∧ Below w.heap.size w w' := by
  have HBX := Lib.hid (show Below w.heap.size w (((w.alloc (.cells #[.bool ak1, .string x1, .string y1, .int .i32 k1, .slice A1 l1.length c1] 24)).alloc (.cells #[.bool ak2, .string x2, .string y2, .int .i32 k2, .slice A2 l2.length c2] 24)).alloc (.cells #[.bool false, .string x3, .string y3, .int .i32 0, .slice A3 l3.length c3] 24)) from (((Below.refl _ w).alloc (Nat.le_refl _) _).alloc (by simp) _).alloc (by simp; omega) _)
  have HG := Lib.hid hG
  clear hG
  have HR1 := Lib.hid hr1
  have HS1 := Lib.hid (And.intro hm1 hs1)
  clear hr1 hm1 hs1
  have HF1 := Lib.hid hf1
  clear hf1
  have HK1 := Lib.hid (And.intro hk1 (And.intro p1 q1))
  clear hk1 p1 q1
  have HR2 := Lib.hid hr2
  have HS2 := Lib.hid (And.intro hm2 hs2)
  clear hr2 hm2 hs2
  have HF2 := Lib.hid hf2
  clear hf2
  have HK2 := Lib.hid (And.intro hk2 (And.intro p2 q2))
  clear hk2 p2 q2
  have HR3 := Lib.hid hr3
  have HS3 := Lib.hid (And.intro hm3 hs3)
  clear hr3 hm3 hs3
  have HF3 := Lib.hid hf3
  clear hf3
  go_enter Tryd.func5, Tryd.ntmps5
  go_wp2_with fail
  refine (live_any _ (HG.out.under HBX.out)).mono ?_
  rintro e w1 ⟨rfl, hb⟩
  have HT1 := Lib.hid (Three.start hb)
  obtain ⟨c10, c11, c12, c13, c14, c20, c21, c22, c23, c24, c30, c31, c32, c33, c34⟩ := HT1.out.cells
  clear hb HBX
  go_wp2_with fail
  refine (few_any ak1 x1 y1 k1 A1 _ c1 l1 0 w.heap.size w1 rfl HS1.out.1 HS1.out.2 (HR1.out.below HT1.out.b (Nat.le_refl _)) HT1.out.b.size).mono ?_
  rw [HF1.out]
  rintro e w2 ⟨rfl, hb⟩
  have HT2 := Lib.hid (HT1.out.below hb)
  clear hb c10 c11 c12 c13 c14 c20 c21 c22 c23 c24 c30 c31 c32 c33 c34
  obtain ⟨c10, c11, c12, c13, c14, c20, c21, c22, c23, c24, c30, c31, c32, c33, c34⟩ := HT2.out.cells
  go_wp2_with fail
  refine (few_any ak2 x2 y2 k2 A2 _ c2 l2 0 w.heap.size w2 rfl HS2.out.1 HS2.out.2 (HR2.out.below HT2.out.b (Nat.le_refl _)) HT2.out.b.size).mono ?_
  rw [HF2.out]
  rintro e w3 ⟨rfl, hb⟩
  have HT3 := Lib.hid (HT2.out.below hb)
  clear hb c10 c11 c12 c13 c14 c20 c21 c22 c23 c24 c30 c31 c32 c33 c34
  obtain ⟨c10, c11, c12, c13, c14, c20, c21, c22, c23, c24, c30, c31, c32, c33, c34⟩ := HT3.out.cells
  go_wp2_with fail
  refine (few_any false x3 y3 0 A3 _ c3 l3 0 w.heap.size w3 rfl HS3.out.1 HS3.out.2 (HR3.out.below HT3.out.b (Nat.le_refl _)) HT3.out.b.size).mono ?_
  rw [HF3.out]
  rintro e w4 ⟨rfl, hb⟩
  have HT4 := Lib.hid (HT3.out.below hb)
  clear hb c10 c11 c12 c13 c14 c20 c21 c22 c23 c24 c30 c31 c32 c33 c34
  obtain ⟨c10, c11, c12, c13, c14, c20, c21, c22, c23, c24, c30, c31, c32, c33, c34⟩ := HT4.out.cells
  go_wp2_with fail
  refine (should_from ak1 x1 y1 k1 A1 c1 l1 HK1.out.1 HK1.out.2.1 HK1.out.2.2 HF1.out HR1.out HT4.out.b).mono ?_
  rintro e w5 ⟨X1, d1, rfl, hx1, hb, _⟩
  have HT5 := Lib.hid (HT4.out.below hb)
  clear hb c10 c11 c12 c13 c14 c20 c21 c22 c23 c24 c30 c31 c32 c33 c34
  go_upto_region 4 with fail
  obtain ⟨w6, hw6⟩ : ∃ w6, w5.alloc (.cells #[.bool true, .slice X1 l1.length d1, .int .i64 (codeOf (endM ak1 x1 y1 k1)), .bool (needOf (endM ak1 x1 y1 k1)).2.2, .string (needOf (endM ak1 x1 y1 k1)).1, .string (needOf (endM ak1 x1 y1 k1)).2.1] 33) = w6 := ⟨_, rfl⟩
  rw [hw6]
  have hb6 : Below w5.heap.size w5 w6 := by rw [← hw6]; exact (Below.refl _ _).alloc (Nat.le_refl _) _
  have hsh : ShouldAt w6 w5.heap.size true X1 l1.length d1 (codeOf (endM ak1 x1 y1 k1)) (needOf (endM ak1 x1 y1 k1)).2.2 (needOf (endM ak1 x1 y1 k1)).1 (needOf (endM ak1 x1 y1 k1)).2.1 := by rw [← hw6]; exact heap_alloc_new _ _
  have hg3 : w.heap.size + 1 + 1 < w5.heap.size := HT5.out.m3.lt
  have HT6 := Lib.hid (HT5.out.below hb6)
  have HX := Lib.hid ((hx1.below hb6 (Nat.le_refl _)).wide (Nat.zero_le _) hb6.size)
  clear hx1
  clear hw6 hb6
  generalize w5.heap.size = g at *
  obtain ⟨s0, s1, s2, s3, s4, s5⟩ := hsh.cells
  have HSH := Lib.hid hsh
  clear hsh
  go_upto_region 8 with fail
  clear s0 s1 s2 s3 s4 s5
  have HR1X := Lib.hid ((HR1.out.below HT6.out.b (Nat.le_refl _)).wide (Nat.le_refl _) HT6.out.b.size)
  have HR2X := Lib.hid ((HR2.out.below HT6.out.b (Nat.le_refl _)).wide (Nat.le_refl _) HT6.out.b.size)
  have HR3X := Lib.hid ((HR3.out.below HT6.out.b (Nat.le_refl _)).wide (Nat.le_refl _) HT6.out.b.size)
  have keep : ∀ w', Below w6.heap.size w6 w' → w'.cell? ⟨w.heap.size, 0, none⟩ = some (.bool ak1) ∧ w'.cell? ⟨w.heap.size, 1, none⟩ = some (.string x1) ∧ w'.cell? ⟨w.heap.size, 2, none⟩ = some (.string y1) ∧ w'.cell? ⟨w.heap.size, 3, none⟩ = some (.int .i32 k1) ∧ w'.cell? ⟨w.heap.size, 4, none⟩ = some (.slice A1 l1.length c1) ∧ w'.cell? ⟨w.heap.size + 1, 0, none⟩ = some (.bool ak2) ∧ w'.cell? ⟨w.heap.size + 1, 1, none⟩ = some (.string x2) ∧ w'.cell? ⟨w.heap.size + 1, 2, none⟩ = some (.string y2) ∧ w'.cell? ⟨w.heap.size + 1, 3, none⟩ = some (.int .i32 k2) ∧ w'.cell? ⟨w.heap.size + 1, 4, none⟩ = some (.slice A2 l2.length c2) ∧ w'.cell? ⟨w.heap.size + 1 + 1, 0, none⟩ = some (.bool false) ∧ w'.cell? ⟨w.heap.size + 1 + 1, 1, none⟩ = some (.string x3) ∧ w'.cell? ⟨w.heap.size + 1 + 1, 2, none⟩ = some (.string y3) ∧ w'.cell? ⟨w.heap.size + 1 + 1, 3, none⟩ = some (.int .i32 0) ∧ w'.cell? ⟨w.heap.size + 1 + 1, 4, none⟩ = some (.slice A3 l3.length c3) ∧ Below w6.heap.size w6 w' := fun w' h => by
    have t := (HT6.out.below h).cells
    exact ⟨t.1, t.2.1, t.2.2.1, t.2.2.2.1, t.2.2.2.2.1, t.2.2.2.2.2.1, t.2.2.2.2.2.2.1, t.2.2.2.2.2.2.2.1, t.2.2.2.2.2.2.2.2.1, t.2.2.2.2.2.2.2.2.2.1, t.2.2.2.2.2.2.2.2.2.2.1, t.2.2.2.2.2.2.2.2.2.2.2.1, t.2.2.2.2.2.2.2.2.2.2.2.2.1, t.2.2.2.2.2.2.2.2.2.2.2.2.2.1, t.2.2.2.2.2.2.2.2.2.2.2.2.2.2, h⟩
  have KEEP := Lib.hid keep
  obtain ⟨c10, c11, c12, c13, c14, c20, c21, c22, c23, c24, c30, c31, c32, c33, c34, _⟩ := keep _ (Below.refl _ _)
  clear keep
  go_region_held3 (fun w' => w'.cell? ⟨w.heap.size, 0, none⟩ = some (.bool ak1) ∧ w'.cell? ⟨w.heap.size, 1, none⟩ = some (.string x1) ∧ w'.cell? ⟨w.heap.size, 2, none⟩ = some (.string y1) ∧ w'.cell? ⟨w.heap.size, 3, none⟩ = some (.int .i32 k1) ∧ w'.cell? ⟨w.heap.size, 4, none⟩ = some (.slice A1 l1.length c1) ∧ w'.cell? ⟨w.heap.size + 1, 0, none⟩ = some (.bool ak2) ∧ w'.cell? ⟨w.heap.size + 1, 1, none⟩ = some (.string x2) ∧ w'.cell? ⟨w.heap.size + 1, 2, none⟩ = some (.string y2) ∧ w'.cell? ⟨w.heap.size + 1, 3, none⟩ = some (.int .i32 k2) ∧ w'.cell? ⟨w.heap.size + 1, 4, none⟩ = some (.slice A2 l2.length c2) ∧ w'.cell? ⟨w.heap.size + 1 + 1, 0, none⟩ = some (.bool false) ∧ w'.cell? ⟨w.heap.size + 1 + 1, 1, none⟩ = some (.string x3) ∧ w'.cell? ⟨w.heap.size + 1 + 1, 2, none⟩ = some (.string y3) ∧ w'.cell? ⟨w.heap.size + 1 + 1, 3, none⟩ = some (.int .i32 0) ∧ w'.cell? ⟨w.heap.size + 1 + 1, 4, none⟩ = some (.slice A3 l3.length c3) ∧ Below w6.heap.size w6 w')
    (first | with_reducible exact KEEP.out _ (Below.alloc hB3 (Below.size hB3) _) | with_reducible exact KEEP.out _ hB3 | with_reducible exact KEEP.out _ hB2 | with_reducible exact KEEP.out _ hB1 | with_reducible exact KEEP.out _ (Below.refl _ _).drew)
    (first
      | (go_at_call 10; (with_reducible refine (make_from ak1 x1 y1 k1 A1 c1 l1 HK1.out.1 HK1.out.2.1 HK1.out.2.2 HS1.out.1 HR1X.out (by go_split_ands; assumption)).mono ?_); rintro r u1 ⟨T1, z1, rfl, hE1, hb1, hB1⟩)
      | (go_at_call 10; (with_reducible refine (make_from ak2 x2 y2 k2 A2 c2 l2 HK2.out.1 HK2.out.2.1 HK2.out.2.2 HS2.out.1 HR2X.out (by go_split_ands; assumption)).mono ?_); rintro r u2 ⟨T2, z2, rfl, hE2, hb2, hB2⟩)
      | (go_at_call 10; (with_reducible refine (make0_from x3 y3 A3 c3 l3 HS3.out.1 HR3X.out (by go_split_ands; assumption)).mono ?_); rintro r u3 ⟨rfl, hb3, hB3⟩)
      | (go_at_call 20; refine (first_a T1 z1 _ _ _ _ (heap_alloc_new _ _)).mono ?_; rintro r u4 ⟨rfl, rfl⟩))
  go_upto_region 9 with fail
  obtain ⟨wz, hwz⟩ : ∃ wz, u3.alloc (.cells #[.iface T1 z1, .nilIface, .iface T2 z2, .nilIface] 27) = wz := ⟨_, rfl⟩
  rw [hwz]
  have hbz : Below u3.heap.size u3 wz := by rw [← hwz]; exact (Below.refl _ _).alloc (Nat.le_refl _) _
  have hbx := hB3.trans (hbz.mono hB3.size)
  have HZ := Lib.hid (HT6.out.b.trans (hbx.mono HT6.out.b.size))
  have HGZ := Lib.hid (HG.out.under HZ.out)
  have hsz := HSH.out.below hbx HSH.out.lt
  have HSZ := Lib.hid hsz
  have HXZ := Lib.hid ((HX.out.below hbx (Nat.le_refl _)).wide (Nat.le_refl _) hbx.size)
  have HEZ := Lib.hid ((((((hE1.below hb2 (Nat.le_refl _)).wide hb2.size).below hb3 (Nat.le_refl _)).wide hb3.size).below hbz (Nat.le_refl _)).wide hbz.size)
  have HSOME := Lib.hid (show some? (endM ak1 x1 y1 k1) l1 from .inr (endM_some HK1.out.1))
  have HCB := Lib.hid (codeM_le (ak := ak1) (x := x1) (y := y1) HK1.out.2.1 HK1.out.2.2)
  have HCODE := Lib.hid (code_from HEZ.out HSOME.out HGZ.out)
  have HTEXT := Lib.hid (text_from HEZ.out HSOME.out HGZ.out HF1.out HCB.out.1 HCB.out.2)
  have HREF := Lib.hid (refText_from d1 (needOf (endM ak1 x1 y1 k1)).1 (needOf (endM ak1 x1 y1 k1)).2.1 HXZ.out HF1.out HCB.out.1 HCB.out.2)
  have keep2 : ∀ w', Below wz.heap.size wz w' → w'.cell? ⟨g, 0, none⟩ = some (.bool true) ∧ w'.cell? ⟨g, 1, none⟩ = some (.slice X1 l1.length d1) ∧ w'.cell? ⟨g, 2, none⟩ = some (.int .i64 (codeOf (endM ak1 x1 y1 k1))) ∧ w'.cell? ⟨g, 3, none⟩ = some (.bool (needOf (endM ak1 x1 y1 k1)).2.2) ∧ w'.cell? ⟨g, 4, none⟩ = some (.string (needOf (endM ak1 x1 y1 k1)).1) ∧ w'.cell? ⟨g, 5, none⟩ = some (.string (needOf (endM ak1 x1 y1 k1)).2.1) ∧ Below wz.heap.size wz w' := fun w' h => by
    have m := (HSZ.out.below h HSZ.out.lt).cells
    exact ⟨m.1, m.2.1, m.2.2.1, m.2.2.2.1, m.2.2.2.2.1, m.2.2.2.2.2, h⟩
  have KEEP2 := Lib.hid keep2
  clear hb1 hb2 hb3 hB1 hB2 hB3 hbz hbx hsz hwz KEEP c10 c11 c12 c13 c14 c20 c21 c22 c23 c24 c30 c31 c32 c33 c34
  clear hE1 hE2
  generalize endM ak1 x1 y1 k1 = e at *
  obtain ⟨s0, s1, s2, s3, s4, s5, _⟩ := keep2 _ (Below.refl _ _)
  clear keep2
  go_region_held3 (fun w' => w'.cell? ⟨g, 0, none⟩ = some (.bool true) ∧ w'.cell? ⟨g, 1, none⟩ = some (.slice X1 l1.length d1) ∧ w'.cell? ⟨g, 2, none⟩ = some (.int .i64 (codeOf e)) ∧ w'.cell? ⟨g, 3, none⟩ = some (.bool (needOf e).2.2) ∧ w'.cell? ⟨g, 4, none⟩ = some (.string (needOf e).1) ∧ w'.cell? ⟨g, 5, none⟩ = some (.string (needOf e).2.1) ∧ Below wz.heap.size wz w')
    (first | with_reducible exact KEEP2.out _ hb6 | with_reducible exact KEEP2.out _ (Below.refl _ _).drew)
    (first
      | (go_at_call 13; refine (HCODE.out _ (by go_split_ands; assumption)).mono ?_; rintro r w' ⟨rfl, hb6⟩)
      | (go_at_call 16; refine (HTEXT.out _ (by go_split_ands; assumption)).mono ?_; rintro r w' ⟨rfl, hb6⟩)
      | (go_at_call 17; refine (HREF.out _ (by go_split_ands; assumption)).mono ?_; rintro r w' ⟨rfl, hb6⟩)
      | (go_at_call 20; refine (first_none _).mono ?_; rintro r w' ⟨rfl, rfl⟩))
  go_wp2_with fail
  go_ret
  exact ⟨rfl, HZ.out.trans (hb6.mono HZ.out.size)⟩

set_option maxRecDepth 100000 in
set_option maxHeartbeats 4000000 in
theorem walk_sns (ak1 : Bool) (k1 : Int) (x1 y1 : ByteArray) (A1 : Option Addr) (c1 : Nat) (l1 : List ByteArray) (x2 y2 : ByteArray) (A2 : Option Addr) (c2 : Nat) (l2 : List ByteArray) (ak3 : Bool) (k3 : Int) (x3 y3 : ByteArray) (A3 : Option Addr) (c3 : Nat) (l3 : List ByteArray) (w : World) (hG : Glob w)
    (hm1 : l1.length ≤ maxLen) (hs1 : ∀ p ∈ l1, p.size ≤ maxLen) (hr1 : RowS w 0 w.heap.size A1 l1) (hf1 : fewB l1 = true) (hk1 : ak1 = true ∨ k1 ≠ 0) (p1 : -2147483648 ≤ k1) (q1 : k1 ≤ 2147483647)
    (hm2 : l2.length ≤ maxLen) (hs2 : ∀ p ∈ l2, p.size ≤ maxLen) (hr2 : RowS w 0 w.heap.size A2 l2) (hf2 : fewB l2 = true)
    (hm3 : l3.length ≤ maxLen) (hs3 : ∀ p ∈ l3, p.size ≤ maxLen) (hr3 : RowS w 0 w.heap.size A3 l3) (hf3 : fewB l3 = true) (hk3 : ak3 = true ∨ k3 ≠ 0) (p3 : -2147483648 ≤ k3) (q3 : k3 ≤ 2147483647) :
    Calls Tryd.prog 5 #[.agg #[.bool ak1, .string x1, .string y1, .int .i32 k1, .slice A1 l1.length c1], .agg #[.bool false, .string x2, .string y2, .int .i32 0, .slice A2 l2.length c2], .agg #[.bool ak3, .string x3, .string y3, .int .i32 k3, .slice A3 l3.length c3]] w fun e w' => e = .returned (.bool true) ∧ Below w.heap.size w w' := by
  have HBX := Lib.hid (show Below w.heap.size w (((w.alloc (.cells #[.bool ak1, .string x1, .string y1, .int .i32 k1, .slice A1 l1.length c1] 24)).alloc (.cells #[.bool false, .string x2, .string y2, .int .i32 0, .slice A2 l2.length c2] 24)).alloc (.cells #[.bool ak3, .string x3, .string y3, .int .i32 k3, .slice A3 l3.length c3] 24)) from (((Below.refl _ w).alloc (Nat.le_refl _) _).alloc (by simp) _).alloc (by simp; omega) _)
  have HG := Lib.hid hG
  clear hG
  have HR1 := Lib.hid hr1
  have HS1 := Lib.hid (And.intro hm1 hs1)
  clear hr1 hm1 hs1
  have HF1 := Lib.hid hf1
  clear hf1
  have HK1 := Lib.hid (And.intro hk1 (And.intro p1 q1))
  clear hk1 p1 q1
  have HR2 := Lib.hid hr2
  have HS2 := Lib.hid (And.intro hm2 hs2)
  clear hr2 hm2 hs2
  have HF2 := Lib.hid hf2
  clear hf2
  have HR3 := Lib.hid hr3
  have HS3 := Lib.hid (And.intro hm3 hs3)
  clear hr3 hm3 hs3
  have HF3 := Lib.hid hf3
  clear hf3
  have HK3 := Lib.hid (And.intro hk3 (And.intro p3 q3))
  clear hk3 p3 q3
  go_enter Tryd.func5, Tryd.ntmps5
  go_wp2_with fail
  refine (live_any _ (HG.out.under HBX.out)).mono ?_
  rintro e w1 ⟨rfl, hb⟩
  have HT1 := Lib.hid (Three.start hb)
  obtain ⟨c10, c11, c12, c13, c14, c20, c21, c22, c23, c24, c30, c31, c32, c33, c34⟩ := HT1.out.cells
  clear hb HBX
  go_wp2_with fail
  refine (few_any ak1 x1 y1 k1 A1 _ c1 l1 0 w.heap.size w1 rfl HS1.out.1 HS1.out.2 (HR1.out.below HT1.out.b (Nat.le_refl _)) HT1.out.b.size).mono ?_
  rw [HF1.out]
  rintro e w2 ⟨rfl, hb⟩
  have HT2 := Lib.hid (HT1.out.below hb)
  clear hb c10 c11 c12 c13 c14 c20 c21 c22 c23 c24 c30 c31 c32 c33 c34
  obtain ⟨c10, c11, c12, c13, c14, c20, c21, c22, c23, c24, c30, c31, c32, c33, c34⟩ := HT2.out.cells
  go_wp2_with fail
  refine (few_any false x2 y2 0 A2 _ c2 l2 0 w.heap.size w2 rfl HS2.out.1 HS2.out.2 (HR2.out.below HT2.out.b (Nat.le_refl _)) HT2.out.b.size).mono ?_
  rw [HF2.out]
  rintro e w3 ⟨rfl, hb⟩
  have HT3 := Lib.hid (HT2.out.below hb)
  clear hb c10 c11 c12 c13 c14 c20 c21 c22 c23 c24 c30 c31 c32 c33 c34
  obtain ⟨c10, c11, c12, c13, c14, c20, c21, c22, c23, c24, c30, c31, c32, c33, c34⟩ := HT3.out.cells
  go_wp2_with fail
  refine (few_any ak3 x3 y3 k3 A3 _ c3 l3 0 w.heap.size w3 rfl HS3.out.1 HS3.out.2 (HR3.out.below HT3.out.b (Nat.le_refl _)) HT3.out.b.size).mono ?_
  rw [HF3.out]
  rintro e w4 ⟨rfl, hb⟩
  have HT4 := Lib.hid (HT3.out.below hb)
  clear hb c10 c11 c12 c13 c14 c20 c21 c22 c23 c24 c30 c31 c32 c33 c34
  obtain ⟨c10, c11, c12, c13, c14, c20, c21, c22, c23, c24, c30, c31, c32, c33, c34⟩ := HT4.out.cells
  go_wp2_with fail
  refine (should_from ak1 x1 y1 k1 A1 c1 l1 HK1.out.1 HK1.out.2.1 HK1.out.2.2 HF1.out HR1.out HT4.out.b).mono ?_
  rintro e w5 ⟨X1, d1, rfl, hx1, hb, _⟩
  have HT5 := Lib.hid (HT4.out.below hb)
  clear hb c10 c11 c12 c13 c14 c20 c21 c22 c23 c24 c30 c31 c32 c33 c34
  go_upto_region 4 with fail
  obtain ⟨w6, hw6⟩ : ∃ w6, w5.alloc (.cells #[.bool true, .slice X1 l1.length d1, .int .i64 (codeOf (endM ak1 x1 y1 k1)), .bool (needOf (endM ak1 x1 y1 k1)).2.2, .string (needOf (endM ak1 x1 y1 k1)).1, .string (needOf (endM ak1 x1 y1 k1)).2.1] 33) = w6 := ⟨_, rfl⟩
  rw [hw6]
  have hb6 : Below w5.heap.size w5 w6 := by rw [← hw6]; exact (Below.refl _ _).alloc (Nat.le_refl _) _
  have hsh : ShouldAt w6 w5.heap.size true X1 l1.length d1 (codeOf (endM ak1 x1 y1 k1)) (needOf (endM ak1 x1 y1 k1)).2.2 (needOf (endM ak1 x1 y1 k1)).1 (needOf (endM ak1 x1 y1 k1)).2.1 := by rw [← hw6]; exact heap_alloc_new _ _
  have hg3 : w.heap.size + 1 + 1 < w5.heap.size := HT5.out.m3.lt
  have HT6 := Lib.hid (HT5.out.below hb6)
  have HX := Lib.hid ((hx1.below hb6 (Nat.le_refl _)).wide (Nat.zero_le _) hb6.size)
  clear hx1
  clear hw6 hb6
  generalize w5.heap.size = g at *
  obtain ⟨s0, s1, s2, s3, s4, s5⟩ := hsh.cells
  have HSH := Lib.hid hsh
  clear hsh
  go_upto_region 8 with fail
  clear s0 s1 s2 s3 s4 s5
  have HR1X := Lib.hid ((HR1.out.below HT6.out.b (Nat.le_refl _)).wide (Nat.le_refl _) HT6.out.b.size)
  have HR2X := Lib.hid ((HR2.out.below HT6.out.b (Nat.le_refl _)).wide (Nat.le_refl _) HT6.out.b.size)
  have HR3X := Lib.hid ((HR3.out.below HT6.out.b (Nat.le_refl _)).wide (Nat.le_refl _) HT6.out.b.size)
  have keep : ∀ w', Below w6.heap.size w6 w' → w'.cell? ⟨w.heap.size, 0, none⟩ = some (.bool ak1) ∧ w'.cell? ⟨w.heap.size, 1, none⟩ = some (.string x1) ∧ w'.cell? ⟨w.heap.size, 2, none⟩ = some (.string y1) ∧ w'.cell? ⟨w.heap.size, 3, none⟩ = some (.int .i32 k1) ∧ w'.cell? ⟨w.heap.size, 4, none⟩ = some (.slice A1 l1.length c1) ∧ w'.cell? ⟨w.heap.size + 1, 0, none⟩ = some (.bool false) ∧ w'.cell? ⟨w.heap.size + 1, 1, none⟩ = some (.string x2) ∧ w'.cell? ⟨w.heap.size + 1, 2, none⟩ = some (.string y2) ∧ w'.cell? ⟨w.heap.size + 1, 3, none⟩ = some (.int .i32 0) ∧ w'.cell? ⟨w.heap.size + 1, 4, none⟩ = some (.slice A2 l2.length c2) ∧ w'.cell? ⟨w.heap.size + 1 + 1, 0, none⟩ = some (.bool ak3) ∧ w'.cell? ⟨w.heap.size + 1 + 1, 1, none⟩ = some (.string x3) ∧ w'.cell? ⟨w.heap.size + 1 + 1, 2, none⟩ = some (.string y3) ∧ w'.cell? ⟨w.heap.size + 1 + 1, 3, none⟩ = some (.int .i32 k3) ∧ w'.cell? ⟨w.heap.size + 1 + 1, 4, none⟩ = some (.slice A3 l3.length c3) ∧ Below w6.heap.size w6 w' := fun w' h => by
    have t := (HT6.out.below h).cells
    exact ⟨t.1, t.2.1, t.2.2.1, t.2.2.2.1, t.2.2.2.2.1, t.2.2.2.2.2.1, t.2.2.2.2.2.2.1, t.2.2.2.2.2.2.2.1, t.2.2.2.2.2.2.2.2.1, t.2.2.2.2.2.2.2.2.2.1, t.2.2.2.2.2.2.2.2.2.2.1, t.2.2.2.2.2.2.2.2.2.2.2.1, t.2.2.2.2.2.2.2.2.2.2.2.2.1, t.2.2.2.2.2.2.2.2.2.2.2.2.2.1, t.2.2.2.2.2.2.2.2.2.2.2.2.2.2, h⟩
  have KEEP := Lib.hid keep
  obtain ⟨c10, c11, c12, c13, c14, c20, c21, c22, c23, c24, c30, c31, c32, c33, c34, _⟩ := keep _ (Below.refl _ _)
  clear keep
  go_region_held3 (fun w' => w'.cell? ⟨w.heap.size, 0, none⟩ = some (.bool ak1) ∧ w'.cell? ⟨w.heap.size, 1, none⟩ = some (.string x1) ∧ w'.cell? ⟨w.heap.size, 2, none⟩ = some (.string y1) ∧ w'.cell? ⟨w.heap.size, 3, none⟩ = some (.int .i32 k1) ∧ w'.cell? ⟨w.heap.size, 4, none⟩ = some (.slice A1 l1.length c1) ∧ w'.cell? ⟨w.heap.size + 1, 0, none⟩ = some (.bool false) ∧ w'.cell? ⟨w.heap.size + 1, 1, none⟩ = some (.string x2) ∧ w'.cell? ⟨w.heap.size + 1, 2, none⟩ = some (.string y2) ∧ w'.cell? ⟨w.heap.size + 1, 3, none⟩ = some (.int .i32 0) ∧ w'.cell? ⟨w.heap.size + 1, 4, none⟩ = some (.slice A2 l2.length c2) ∧ w'.cell? ⟨w.heap.size + 1 + 1, 0, none⟩ = some (.bool ak3) ∧ w'.cell? ⟨w.heap.size + 1 + 1, 1, none⟩ = some (.string x3) ∧ w'.cell? ⟨w.heap.size + 1 + 1, 2, none⟩ = some (.string y3) ∧ w'.cell? ⟨w.heap.size + 1 + 1, 3, none⟩ = some (.int .i32 k3) ∧ w'.cell? ⟨w.heap.size + 1 + 1, 4, none⟩ = some (.slice A3 l3.length c3) ∧ Below w6.heap.size w6 w')
    (first | with_reducible exact KEEP.out _ (Below.alloc hB3 (Below.size hB3) _) | with_reducible exact KEEP.out _ hB3 | with_reducible exact KEEP.out _ hB2 | with_reducible exact KEEP.out _ hB1 | with_reducible exact KEEP.out _ (Below.refl _ _).drew)
    (first
      | (go_at_call 10; (with_reducible refine (make_from ak1 x1 y1 k1 A1 c1 l1 HK1.out.1 HK1.out.2.1 HK1.out.2.2 HS1.out.1 HR1X.out (by go_split_ands; assumption)).mono ?_); rintro r u1 ⟨T1, z1, rfl, hE1, hb1, hB1⟩)
      | (go_at_call 10; (with_reducible refine (make0_from x2 y2 A2 c2 l2 HS2.out.1 HR2X.out (by go_split_ands; assumption)).mono ?_); rintro r u2 ⟨rfl, hb2, hB2⟩)
      | (go_at_call 10; (with_reducible refine (make_from ak3 x3 y3 k3 A3 c3 l3 HK3.out.1 HK3.out.2.1 HK3.out.2.2 HS3.out.1 HR3X.out (by go_split_ands; assumption)).mono ?_); rintro r u3 ⟨T3, z3, rfl, hE3, hb3, hB3⟩)
      | (go_at_call 20; refine (first_a T1 z1 _ _ _ _ (heap_alloc_new _ _)).mono ?_; rintro r u4 ⟨rfl, rfl⟩))
  go_upto_region 9 with fail
  obtain ⟨wz, hwz⟩ : ∃ wz, u3.alloc (.cells #[.iface T1 z1, .nilIface, .nilIface, .iface T3 z3] 27) = wz := ⟨_, rfl⟩
  rw [hwz]
  have hbz : Below u3.heap.size u3 wz := by rw [← hwz]; exact (Below.refl _ _).alloc (Nat.le_refl _) _
  have hbx := hB3.trans (hbz.mono hB3.size)
  have HZ := Lib.hid (HT6.out.b.trans (hbx.mono HT6.out.b.size))
  have HGZ := Lib.hid (HG.out.under HZ.out)
  have hsz := HSH.out.below hbx HSH.out.lt
  have HSZ := Lib.hid hsz
  have HXZ := Lib.hid ((HX.out.below hbx (Nat.le_refl _)).wide (Nat.le_refl _) hbx.size)
  have HEZ := Lib.hid ((((((hE1.below hb2 (Nat.le_refl _)).wide hb2.size).below hb3 (Nat.le_refl _)).wide hb3.size).below hbz (Nat.le_refl _)).wide hbz.size)
  have HSOME := Lib.hid (show some? (endM ak1 x1 y1 k1) l1 from .inr (endM_some HK1.out.1))
  have HCB := Lib.hid (codeM_le (ak := ak1) (x := x1) (y := y1) HK1.out.2.1 HK1.out.2.2)
  have HCODE := Lib.hid (code_from HEZ.out HSOME.out HGZ.out)
  have HTEXT := Lib.hid (text_from HEZ.out HSOME.out HGZ.out HF1.out HCB.out.1 HCB.out.2)
  have HREF := Lib.hid (refText_from d1 (needOf (endM ak1 x1 y1 k1)).1 (needOf (endM ak1 x1 y1 k1)).2.1 HXZ.out HF1.out HCB.out.1 HCB.out.2)
  have keep2 : ∀ w', Below wz.heap.size wz w' → w'.cell? ⟨g, 0, none⟩ = some (.bool true) ∧ w'.cell? ⟨g, 1, none⟩ = some (.slice X1 l1.length d1) ∧ w'.cell? ⟨g, 2, none⟩ = some (.int .i64 (codeOf (endM ak1 x1 y1 k1))) ∧ w'.cell? ⟨g, 3, none⟩ = some (.bool (needOf (endM ak1 x1 y1 k1)).2.2) ∧ w'.cell? ⟨g, 4, none⟩ = some (.string (needOf (endM ak1 x1 y1 k1)).1) ∧ w'.cell? ⟨g, 5, none⟩ = some (.string (needOf (endM ak1 x1 y1 k1)).2.1) ∧ Below wz.heap.size wz w' := fun w' h => by
    have m := (HSZ.out.below h HSZ.out.lt).cells
    exact ⟨m.1, m.2.1, m.2.2.1, m.2.2.2.1, m.2.2.2.2.1, m.2.2.2.2.2, h⟩
  have KEEP2 := Lib.hid keep2
  clear hb1 hb2 hb3 hB1 hB2 hB3 hbz hbx hsz hwz KEEP c10 c11 c12 c13 c14 c20 c21 c22 c23 c24 c30 c31 c32 c33 c34
  clear hE1 hE3
  generalize endM ak1 x1 y1 k1 = e at *
  obtain ⟨s0, s1, s2, s3, s4, s5, _⟩ := keep2 _ (Below.refl _ _)
  clear keep2
  go_region_held3 (fun w' => w'.cell? ⟨g, 0, none⟩ = some (.bool true) ∧ w'.cell? ⟨g, 1, none⟩ = some (.slice X1 l1.length d1) ∧ w'.cell? ⟨g, 2, none⟩ = some (.int .i64 (codeOf e)) ∧ w'.cell? ⟨g, 3, none⟩ = some (.bool (needOf e).2.2) ∧ w'.cell? ⟨g, 4, none⟩ = some (.string (needOf e).1) ∧ w'.cell? ⟨g, 5, none⟩ = some (.string (needOf e).2.1) ∧ Below wz.heap.size wz w')
    (first | with_reducible exact KEEP2.out _ hb6 | with_reducible exact KEEP2.out _ (Below.refl _ _).drew)
    (first
      | (go_at_call 13; refine (HCODE.out _ (by go_split_ands; assumption)).mono ?_; rintro r w' ⟨rfl, hb6⟩)
      | (go_at_call 16; refine (HTEXT.out _ (by go_split_ands; assumption)).mono ?_; rintro r w' ⟨rfl, hb6⟩)
      | (go_at_call 17; refine (HREF.out _ (by go_split_ands; assumption)).mono ?_; rintro r w' ⟨rfl, hb6⟩)
      | (go_at_call 20; refine (first_none _).mono ?_; rintro r w' ⟨rfl, rfl⟩))
  go_wp2_with fail
  go_ret
  exact ⟨rfl, HZ.out.trans (hb6.mono HZ.out.size)⟩

set_option maxRecDepth 100000 in
set_option maxHeartbeats 4000000 in
theorem walk_snn (ak1 : Bool) (k1 : Int) (x1 y1 : ByteArray) (A1 : Option Addr) (c1 : Nat) (l1 : List ByteArray) (x2 y2 : ByteArray) (A2 : Option Addr) (c2 : Nat) (l2 : List ByteArray) (x3 y3 : ByteArray) (A3 : Option Addr) (c3 : Nat) (l3 : List ByteArray) (w : World) (hG : Glob w)
    (hm1 : l1.length ≤ maxLen) (hs1 : ∀ p ∈ l1, p.size ≤ maxLen) (hr1 : RowS w 0 w.heap.size A1 l1) (hf1 : fewB l1 = true) (hk1 : ak1 = true ∨ k1 ≠ 0) (p1 : -2147483648 ≤ k1) (q1 : k1 ≤ 2147483647)
    (hm2 : l2.length ≤ maxLen) (hs2 : ∀ p ∈ l2, p.size ≤ maxLen) (hr2 : RowS w 0 w.heap.size A2 l2) (hf2 : fewB l2 = true)
    (hm3 : l3.length ≤ maxLen) (hs3 : ∀ p ∈ l3, p.size ≤ maxLen) (hr3 : RowS w 0 w.heap.size A3 l3) (hf3 : fewB l3 = true) :
    Calls Tryd.prog 5 #[.agg #[.bool ak1, .string x1, .string y1, .int .i32 k1, .slice A1 l1.length c1], .agg #[.bool false, .string x2, .string y2, .int .i32 0, .slice A2 l2.length c2], .agg #[.bool false, .string x3, .string y3, .int .i32 0, .slice A3 l3.length c3]] w fun e w' => e = .returned (.bool true) ∧ Below w.heap.size w w' := by
  have HBX := Lib.hid (show Below w.heap.size w (((w.alloc (.cells #[.bool ak1, .string x1, .string y1, .int .i32 k1, .slice A1 l1.length c1] 24)).alloc (.cells #[.bool false, .string x2, .string y2, .int .i32 0, .slice A2 l2.length c2] 24)).alloc (.cells #[.bool false, .string x3, .string y3, .int .i32 0, .slice A3 l3.length c3] 24)) from (((Below.refl _ w).alloc (Nat.le_refl _) _).alloc (by simp) _).alloc (by simp; omega) _)
  have HG := Lib.hid hG
  clear hG
  have HR1 := Lib.hid hr1
  have HS1 := Lib.hid (And.intro hm1 hs1)
  clear hr1 hm1 hs1
  have HF1 := Lib.hid hf1
  clear hf1
  have HK1 := Lib.hid (And.intro hk1 (And.intro p1 q1))
  clear hk1 p1 q1
  have HR2 := Lib.hid hr2
  have HS2 := Lib.hid (And.intro hm2 hs2)
  clear hr2 hm2 hs2
  have HF2 := Lib.hid hf2
  clear hf2
  have HR3 := Lib.hid hr3
  have HS3 := Lib.hid (And.intro hm3 hs3)
  clear hr3 hm3 hs3
  have HF3 := Lib.hid hf3
  clear hf3
  go_enter Tryd.func5, Tryd.ntmps5
  go_wp2_with fail
  refine (live_any _ (HG.out.under HBX.out)).mono ?_
  rintro e w1 ⟨rfl, hb⟩
  have HT1 := Lib.hid (Three.start hb)
  obtain ⟨c10, c11, c12, c13, c14, c20, c21, c22, c23, c24, c30, c31, c32, c33, c34⟩ := HT1.out.cells
  clear hb HBX
  go_wp2_with fail
  refine (few_any ak1 x1 y1 k1 A1 _ c1 l1 0 w.heap.size w1 rfl HS1.out.1 HS1.out.2 (HR1.out.below HT1.out.b (Nat.le_refl _)) HT1.out.b.size).mono ?_
  rw [HF1.out]
  rintro e w2 ⟨rfl, hb⟩
  have HT2 := Lib.hid (HT1.out.below hb)
  clear hb c10 c11 c12 c13 c14 c20 c21 c22 c23 c24 c30 c31 c32 c33 c34
  obtain ⟨c10, c11, c12, c13, c14, c20, c21, c22, c23, c24, c30, c31, c32, c33, c34⟩ := HT2.out.cells
  go_wp2_with fail
  refine (few_any false x2 y2 0 A2 _ c2 l2 0 w.heap.size w2 rfl HS2.out.1 HS2.out.2 (HR2.out.below HT2.out.b (Nat.le_refl _)) HT2.out.b.size).mono ?_
  rw [HF2.out]
  rintro e w3 ⟨rfl, hb⟩
  have HT3 := Lib.hid (HT2.out.below hb)
  clear hb c10 c11 c12 c13 c14 c20 c21 c22 c23 c24 c30 c31 c32 c33 c34
  obtain ⟨c10, c11, c12, c13, c14, c20, c21, c22, c23, c24, c30, c31, c32, c33, c34⟩ := HT3.out.cells
  go_wp2_with fail
  refine (few_any false x3 y3 0 A3 _ c3 l3 0 w.heap.size w3 rfl HS3.out.1 HS3.out.2 (HR3.out.below HT3.out.b (Nat.le_refl _)) HT3.out.b.size).mono ?_
  rw [HF3.out]
  rintro e w4 ⟨rfl, hb⟩
  have HT4 := Lib.hid (HT3.out.below hb)
  clear hb c10 c11 c12 c13 c14 c20 c21 c22 c23 c24 c30 c31 c32 c33 c34
  obtain ⟨c10, c11, c12, c13, c14, c20, c21, c22, c23, c24, c30, c31, c32, c33, c34⟩ := HT4.out.cells
  go_wp2_with fail
  refine (should_from ak1 x1 y1 k1 A1 c1 l1 HK1.out.1 HK1.out.2.1 HK1.out.2.2 HF1.out HR1.out HT4.out.b).mono ?_
  rintro e w5 ⟨X1, d1, rfl, hx1, hb, _⟩
  have HT5 := Lib.hid (HT4.out.below hb)
  clear hb c10 c11 c12 c13 c14 c20 c21 c22 c23 c24 c30 c31 c32 c33 c34
  go_upto_region 4 with fail
  obtain ⟨w6, hw6⟩ : ∃ w6, w5.alloc (.cells #[.bool true, .slice X1 l1.length d1, .int .i64 (codeOf (endM ak1 x1 y1 k1)), .bool (needOf (endM ak1 x1 y1 k1)).2.2, .string (needOf (endM ak1 x1 y1 k1)).1, .string (needOf (endM ak1 x1 y1 k1)).2.1] 33) = w6 := ⟨_, rfl⟩
  rw [hw6]
  have hb6 : Below w5.heap.size w5 w6 := by rw [← hw6]; exact (Below.refl _ _).alloc (Nat.le_refl _) _
  have hsh : ShouldAt w6 w5.heap.size true X1 l1.length d1 (codeOf (endM ak1 x1 y1 k1)) (needOf (endM ak1 x1 y1 k1)).2.2 (needOf (endM ak1 x1 y1 k1)).1 (needOf (endM ak1 x1 y1 k1)).2.1 := by rw [← hw6]; exact heap_alloc_new _ _
  have hg3 : w.heap.size + 1 + 1 < w5.heap.size := HT5.out.m3.lt
  have HT6 := Lib.hid (HT5.out.below hb6)
  have HX := Lib.hid ((hx1.below hb6 (Nat.le_refl _)).wide (Nat.zero_le _) hb6.size)
  clear hx1
  clear hw6 hb6
  generalize w5.heap.size = g at *
  obtain ⟨s0, s1, s2, s3, s4, s5⟩ := hsh.cells
  have HSH := Lib.hid hsh
  clear hsh
  go_upto_region 8 with fail
  clear s0 s1 s2 s3 s4 s5
  have HR1X := Lib.hid ((HR1.out.below HT6.out.b (Nat.le_refl _)).wide (Nat.le_refl _) HT6.out.b.size)
  have HR2X := Lib.hid ((HR2.out.below HT6.out.b (Nat.le_refl _)).wide (Nat.le_refl _) HT6.out.b.size)
  have HR3X := Lib.hid ((HR3.out.below HT6.out.b (Nat.le_refl _)).wide (Nat.le_refl _) HT6.out.b.size)
  have keep : ∀ w', Below w6.heap.size w6 w' → w'.cell? ⟨w.heap.size, 0, none⟩ = some (.bool ak1) ∧ w'.cell? ⟨w.heap.size, 1, none⟩ = some (.string x1) ∧ w'.cell? ⟨w.heap.size, 2, none⟩ = some (.string y1) ∧ w'.cell? ⟨w.heap.size, 3, none⟩ = some (.int .i32 k1) ∧ w'.cell? ⟨w.heap.size, 4, none⟩ = some (.slice A1 l1.length c1) ∧ w'.cell? ⟨w.heap.size + 1, 0, none⟩ = some (.bool false) ∧ w'.cell? ⟨w.heap.size + 1, 1, none⟩ = some (.string x2) ∧ w'.cell? ⟨w.heap.size + 1, 2, none⟩ = some (.string y2) ∧ w'.cell? ⟨w.heap.size + 1, 3, none⟩ = some (.int .i32 0) ∧ w'.cell? ⟨w.heap.size + 1, 4, none⟩ = some (.slice A2 l2.length c2) ∧ w'.cell? ⟨w.heap.size + 1 + 1, 0, none⟩ = some (.bool false) ∧ w'.cell? ⟨w.heap.size + 1 + 1, 1, none⟩ = some (.string x3) ∧ w'.cell? ⟨w.heap.size + 1 + 1, 2, none⟩ = some (.string y3) ∧ w'.cell? ⟨w.heap.size + 1 + 1, 3, none⟩ = some (.int .i32 0) ∧ w'.cell? ⟨w.heap.size + 1 + 1, 4, none⟩ = some (.slice A3 l3.length c3) ∧ Below w6.heap.size w6 w' := fun w' h => by
    have t := (HT6.out.below h).cells
    exact ⟨t.1, t.2.1, t.2.2.1, t.2.2.2.1, t.2.2.2.2.1, t.2.2.2.2.2.1, t.2.2.2.2.2.2.1, t.2.2.2.2.2.2.2.1, t.2.2.2.2.2.2.2.2.1, t.2.2.2.2.2.2.2.2.2.1, t.2.2.2.2.2.2.2.2.2.2.1, t.2.2.2.2.2.2.2.2.2.2.2.1, t.2.2.2.2.2.2.2.2.2.2.2.2.1, t.2.2.2.2.2.2.2.2.2.2.2.2.2.1, t.2.2.2.2.2.2.2.2.2.2.2.2.2.2, h⟩
  have KEEP := Lib.hid keep
  obtain ⟨c10, c11, c12, c13, c14, c20, c21, c22, c23, c24, c30, c31, c32, c33, c34, _⟩ := keep _ (Below.refl _ _)
  clear keep
  go_region_held3 (fun w' => w'.cell? ⟨w.heap.size, 0, none⟩ = some (.bool ak1) ∧ w'.cell? ⟨w.heap.size, 1, none⟩ = some (.string x1) ∧ w'.cell? ⟨w.heap.size, 2, none⟩ = some (.string y1) ∧ w'.cell? ⟨w.heap.size, 3, none⟩ = some (.int .i32 k1) ∧ w'.cell? ⟨w.heap.size, 4, none⟩ = some (.slice A1 l1.length c1) ∧ w'.cell? ⟨w.heap.size + 1, 0, none⟩ = some (.bool false) ∧ w'.cell? ⟨w.heap.size + 1, 1, none⟩ = some (.string x2) ∧ w'.cell? ⟨w.heap.size + 1, 2, none⟩ = some (.string y2) ∧ w'.cell? ⟨w.heap.size + 1, 3, none⟩ = some (.int .i32 0) ∧ w'.cell? ⟨w.heap.size + 1, 4, none⟩ = some (.slice A2 l2.length c2) ∧ w'.cell? ⟨w.heap.size + 1 + 1, 0, none⟩ = some (.bool false) ∧ w'.cell? ⟨w.heap.size + 1 + 1, 1, none⟩ = some (.string x3) ∧ w'.cell? ⟨w.heap.size + 1 + 1, 2, none⟩ = some (.string y3) ∧ w'.cell? ⟨w.heap.size + 1 + 1, 3, none⟩ = some (.int .i32 0) ∧ w'.cell? ⟨w.heap.size + 1 + 1, 4, none⟩ = some (.slice A3 l3.length c3) ∧ Below w6.heap.size w6 w')
    (first | with_reducible exact KEEP.out _ (Below.alloc hB3 (Below.size hB3) _) | with_reducible exact KEEP.out _ hB3 | with_reducible exact KEEP.out _ hB2 | with_reducible exact KEEP.out _ hB1 | with_reducible exact KEEP.out _ (Below.refl _ _).drew)
    (first
      | (go_at_call 10; (with_reducible refine (make_from ak1 x1 y1 k1 A1 c1 l1 HK1.out.1 HK1.out.2.1 HK1.out.2.2 HS1.out.1 HR1X.out (by go_split_ands; assumption)).mono ?_); rintro r u1 ⟨T1, z1, rfl, hE1, hb1, hB1⟩)
      | (go_at_call 10; (with_reducible refine (make0_from x2 y2 A2 c2 l2 HS2.out.1 HR2X.out (by go_split_ands; assumption)).mono ?_); rintro r u2 ⟨rfl, hb2, hB2⟩)
      | (go_at_call 10; (with_reducible refine (make0_from x3 y3 A3 c3 l3 HS3.out.1 HR3X.out (by go_split_ands; assumption)).mono ?_); rintro r u3 ⟨rfl, hb3, hB3⟩)
      | (go_at_call 20; refine (first_a T1 z1 _ _ _ _ (heap_alloc_new _ _)).mono ?_; rintro r u4 ⟨rfl, rfl⟩))
  go_upto_region 9 with fail
  obtain ⟨wz, hwz⟩ : ∃ wz, u3.alloc (.cells #[.iface T1 z1, .nilIface, .nilIface, .nilIface] 27) = wz := ⟨_, rfl⟩
  rw [hwz]
  have hbz : Below u3.heap.size u3 wz := by rw [← hwz]; exact (Below.refl _ _).alloc (Nat.le_refl _) _
  have hbx := hB3.trans (hbz.mono hB3.size)
  have HZ := Lib.hid (HT6.out.b.trans (hbx.mono HT6.out.b.size))
  have HGZ := Lib.hid (HG.out.under HZ.out)
  have hsz := HSH.out.below hbx HSH.out.lt
  have HSZ := Lib.hid hsz
  have HXZ := Lib.hid ((HX.out.below hbx (Nat.le_refl _)).wide (Nat.le_refl _) hbx.size)
  have HEZ := Lib.hid ((((((hE1.below hb2 (Nat.le_refl _)).wide hb2.size).below hb3 (Nat.le_refl _)).wide hb3.size).below hbz (Nat.le_refl _)).wide hbz.size)
  have HSOME := Lib.hid (show some? (endM ak1 x1 y1 k1) l1 from .inr (endM_some HK1.out.1))
  have HCB := Lib.hid (codeM_le (ak := ak1) (x := x1) (y := y1) HK1.out.2.1 HK1.out.2.2)
  have HCODE := Lib.hid (code_from HEZ.out HSOME.out HGZ.out)
  have HTEXT := Lib.hid (text_from HEZ.out HSOME.out HGZ.out HF1.out HCB.out.1 HCB.out.2)
  have HREF := Lib.hid (refText_from d1 (needOf (endM ak1 x1 y1 k1)).1 (needOf (endM ak1 x1 y1 k1)).2.1 HXZ.out HF1.out HCB.out.1 HCB.out.2)
  have keep2 : ∀ w', Below wz.heap.size wz w' → w'.cell? ⟨g, 0, none⟩ = some (.bool true) ∧ w'.cell? ⟨g, 1, none⟩ = some (.slice X1 l1.length d1) ∧ w'.cell? ⟨g, 2, none⟩ = some (.int .i64 (codeOf (endM ak1 x1 y1 k1))) ∧ w'.cell? ⟨g, 3, none⟩ = some (.bool (needOf (endM ak1 x1 y1 k1)).2.2) ∧ w'.cell? ⟨g, 4, none⟩ = some (.string (needOf (endM ak1 x1 y1 k1)).1) ∧ w'.cell? ⟨g, 5, none⟩ = some (.string (needOf (endM ak1 x1 y1 k1)).2.1) ∧ Below wz.heap.size wz w' := fun w' h => by
    have m := (HSZ.out.below h HSZ.out.lt).cells
    exact ⟨m.1, m.2.1, m.2.2.1, m.2.2.2.1, m.2.2.2.2.1, m.2.2.2.2.2, h⟩
  have KEEP2 := Lib.hid keep2
  clear hb1 hb2 hb3 hB1 hB2 hB3 hbz hbx hsz hwz KEEP c10 c11 c12 c13 c14 c20 c21 c22 c23 c24 c30 c31 c32 c33 c34
  clear hE1
  generalize endM ak1 x1 y1 k1 = e at *
  obtain ⟨s0, s1, s2, s3, s4, s5, _⟩ := keep2 _ (Below.refl _ _)
  clear keep2
  go_region_held3 (fun w' => w'.cell? ⟨g, 0, none⟩ = some (.bool true) ∧ w'.cell? ⟨g, 1, none⟩ = some (.slice X1 l1.length d1) ∧ w'.cell? ⟨g, 2, none⟩ = some (.int .i64 (codeOf e)) ∧ w'.cell? ⟨g, 3, none⟩ = some (.bool (needOf e).2.2) ∧ w'.cell? ⟨g, 4, none⟩ = some (.string (needOf e).1) ∧ w'.cell? ⟨g, 5, none⟩ = some (.string (needOf e).2.1) ∧ Below wz.heap.size wz w')
    (first | with_reducible exact KEEP2.out _ hb6 | with_reducible exact KEEP2.out _ (Below.refl _ _).drew)
    (first
      | (go_at_call 13; refine (HCODE.out _ (by go_split_ands; assumption)).mono ?_; rintro r w' ⟨rfl, hb6⟩)
      | (go_at_call 16; refine (HTEXT.out _ (by go_split_ands; assumption)).mono ?_; rintro r w' ⟨rfl, hb6⟩)
      | (go_at_call 17; refine (HREF.out _ (by go_split_ands; assumption)).mono ?_; rintro r w' ⟨rfl, hb6⟩)
      | (go_at_call 20; refine (first_none _).mono ?_; rintro r w' ⟨rfl, rfl⟩))
  go_wp2_with fail
  go_ret
  exact ⟨rfl, HZ.out.trans (hb6.mono HZ.out.size)⟩

set_option maxRecDepth 100000 in
set_option maxHeartbeats 4000000 in
theorem walk_nss (x1 y1 : ByteArray) (A1 : Option Addr) (c1 : Nat) (l1 : List ByteArray) (ak2 : Bool) (k2 : Int) (x2 y2 : ByteArray) (A2 : Option Addr) (c2 : Nat) (l2 : List ByteArray) (ak3 : Bool) (k3 : Int) (x3 y3 : ByteArray) (A3 : Option Addr) (c3 : Nat) (l3 : List ByteArray) (w : World) (hG : Glob w)
    (hm1 : l1.length ≤ maxLen) (hs1 : ∀ p ∈ l1, p.size ≤ maxLen) (hr1 : RowS w 0 w.heap.size A1 l1) (hf1 : fewB l1 = true)
    (hm2 : l2.length ≤ maxLen) (hs2 : ∀ p ∈ l2, p.size ≤ maxLen) (hr2 : RowS w 0 w.heap.size A2 l2) (hf2 : fewB l2 = true) (hk2 : ak2 = true ∨ k2 ≠ 0) (p2 : -2147483648 ≤ k2) (q2 : k2 ≤ 2147483647)
    (hm3 : l3.length ≤ maxLen) (hs3 : ∀ p ∈ l3, p.size ≤ maxLen) (hr3 : RowS w 0 w.heap.size A3 l3) (hf3 : fewB l3 = true) (hk3 : ak3 = true ∨ k3 ≠ 0) (p3 : -2147483648 ≤ k3) (q3 : k3 ≤ 2147483647) :
    Calls Tryd.prog 5 #[.agg #[.bool false, .string x1, .string y1, .int .i32 0, .slice A1 l1.length c1], .agg #[.bool ak2, .string x2, .string y2, .int .i32 k2, .slice A2 l2.length c2], .agg #[.bool ak3, .string x3, .string y3, .int .i32 k3, .slice A3 l3.length c3]] w fun e w' => e = .returned (.bool true) ∧ Below w.heap.size w w' := by
  have HBX := Lib.hid (show Below w.heap.size w (((w.alloc (.cells #[.bool false, .string x1, .string y1, .int .i32 0, .slice A1 l1.length c1] 24)).alloc (.cells #[.bool ak2, .string x2, .string y2, .int .i32 k2, .slice A2 l2.length c2] 24)).alloc (.cells #[.bool ak3, .string x3, .string y3, .int .i32 k3, .slice A3 l3.length c3] 24)) from (((Below.refl _ w).alloc (Nat.le_refl _) _).alloc (by simp) _).alloc (by simp; omega) _)
  have HG := Lib.hid hG
  clear hG
  have HR1 := Lib.hid hr1
  have HS1 := Lib.hid (And.intro hm1 hs1)
  clear hr1 hm1 hs1
  have HF1 := Lib.hid hf1
  clear hf1
  have HR2 := Lib.hid hr2
  have HS2 := Lib.hid (And.intro hm2 hs2)
  clear hr2 hm2 hs2
  have HF2 := Lib.hid hf2
  clear hf2
  have HK2 := Lib.hid (And.intro hk2 (And.intro p2 q2))
  clear hk2 p2 q2
  have HR3 := Lib.hid hr3
  have HS3 := Lib.hid (And.intro hm3 hs3)
  clear hr3 hm3 hs3
  have HF3 := Lib.hid hf3
  clear hf3
  have HK3 := Lib.hid (And.intro hk3 (And.intro p3 q3))
  clear hk3 p3 q3
  go_enter Tryd.func5, Tryd.ntmps5
  go_wp2_with fail
  refine (live_any _ (HG.out.under HBX.out)).mono ?_
  rintro e w1 ⟨rfl, hb⟩
  have HT1 := Lib.hid (Three.start hb)
  obtain ⟨c10, c11, c12, c13, c14, c20, c21, c22, c23, c24, c30, c31, c32, c33, c34⟩ := HT1.out.cells
  clear hb HBX
  go_wp2_with fail
  refine (few_any false x1 y1 0 A1 _ c1 l1 0 w.heap.size w1 rfl HS1.out.1 HS1.out.2 (HR1.out.below HT1.out.b (Nat.le_refl _)) HT1.out.b.size).mono ?_
  rw [HF1.out]
  rintro e w2 ⟨rfl, hb⟩
  have HT2 := Lib.hid (HT1.out.below hb)
  clear hb c10 c11 c12 c13 c14 c20 c21 c22 c23 c24 c30 c31 c32 c33 c34
  obtain ⟨c10, c11, c12, c13, c14, c20, c21, c22, c23, c24, c30, c31, c32, c33, c34⟩ := HT2.out.cells
  go_wp2_with fail
  refine (few_any ak2 x2 y2 k2 A2 _ c2 l2 0 w.heap.size w2 rfl HS2.out.1 HS2.out.2 (HR2.out.below HT2.out.b (Nat.le_refl _)) HT2.out.b.size).mono ?_
  rw [HF2.out]
  rintro e w3 ⟨rfl, hb⟩
  have HT3 := Lib.hid (HT2.out.below hb)
  clear hb c10 c11 c12 c13 c14 c20 c21 c22 c23 c24 c30 c31 c32 c33 c34
  obtain ⟨c10, c11, c12, c13, c14, c20, c21, c22, c23, c24, c30, c31, c32, c33, c34⟩ := HT3.out.cells
  go_wp2_with fail
  refine (few_any ak3 x3 y3 k3 A3 _ c3 l3 0 w.heap.size w3 rfl HS3.out.1 HS3.out.2 (HR3.out.below HT3.out.b (Nat.le_refl _)) HT3.out.b.size).mono ?_
  rw [HF3.out]
  rintro e w4 ⟨rfl, hb⟩
  have HT4 := Lib.hid (HT3.out.below hb)
  clear hb c10 c11 c12 c13 c14 c20 c21 c22 c23 c24 c30 c31 c32 c33 c34
  obtain ⟨c10, c11, c12, c13, c14, c20, c21, c22, c23, c24, c30, c31, c32, c33, c34⟩ := HT4.out.cells
  go_wp2_with fail
  refine (should0_from x1 y1 A1 c1 l1 HF1.out HR1.out HT4.out.b).mono ?_
  rintro e w5 ⟨X1, d1, rfl, hb, _⟩
  have HT5 := Lib.hid (HT4.out.below hb)
  clear hb c10 c11 c12 c13 c14 c20 c21 c22 c23 c24 c30 c31 c32 c33 c34
  go_upto_region 4 with fail
  obtain ⟨w6, hw6⟩ : ∃ w6, w5.alloc (.cells #[.bool false, .slice X1 0 d1, .int .i64 0, .bool false, .string ⟨#[]⟩, .string ⟨#[]⟩] 33) = w6 := ⟨_, rfl⟩
  rw [hw6]
  have hb6 : Below w5.heap.size w5 w6 := by rw [← hw6]; exact (Below.refl _ _).alloc (Nat.le_refl _) _
  have hsh : ShouldAt w6 w5.heap.size false X1 0 d1 0 false ⟨#[]⟩ ⟨#[]⟩ := by rw [← hw6]; exact heap_alloc_new _ _
  have hg3 : w.heap.size + 1 + 1 < w5.heap.size := HT5.out.m3.lt
  have HT6 := Lib.hid (HT5.out.below hb6)
  clear hw6 hb6
  generalize w5.heap.size = g at *
  obtain ⟨c10, c11, c12, c13, c14, c20, c21, c22, c23, c24, c30, c31, c32, c33, c34⟩ := HT6.out.cells
  obtain ⟨s0, s1, s2, s3, s4, s5⟩ := hsh.cells
  have HSH := Lib.hid hsh
  clear hsh
  go_wp2_with fail
  refine (should_from ak2 x2 y2 k2 A2 c2 l2 HK2.out.1 HK2.out.2.1 HK2.out.2.2 HF2.out HR2.out HT6.out.b).mono ?_
  rintro e w7 ⟨X2, d2, rfl, hx2, hb, _⟩
  have hsh := HSH.out.below hb HSH.out.lt
  have HT7 := Lib.hid (HT6.out.below hb)
  clear c10 c11 c12 c13 c14 c20 c21 c22 c23 c24 c30 c31 c32 c33 c34 s0 s1 s2 s3 s4 s5
  obtain ⟨s0, s1, s2, s3, s4, s5⟩ := hsh.cells
  have g0 := hsh.frozen 0
  have g1 := hsh.frozen 1
  have g2 := hsh.frozen 2
  have g3 := hsh.frozen 3
  have g4 := hsh.frozen 4
  have g5 := hsh.frozen 5
  have HSHN := Lib.hid hsh
  have HBN := Lib.hid (And.intro hb (And.intro HSH.out.lt HT6.out.b.size))
  clear hsh hb HSH
  go_upto_region 6 with fail
  obtain ⟨w8, hw⟩ : ∃ wy, ((((((w7.setCell ⟨g, 0, none⟩ (.bool true)).setCell ⟨g, 1, none⟩ (.slice X2 l2.length d2)).setCell ⟨g, 2, none⟩ (.int .i64 (codeOf (endM ak2 x2 y2 k2)))).setCell ⟨g, 3, none⟩ (.bool (needOf (endM ak2 x2 y2 k2)).2.2)).setCell ⟨g, 4, none⟩ (.string (needOf (endM ak2 x2 y2 k2)).1)).setCell ⟨g, 5, none⟩ (.string (needOf (endM ak2 x2 y2 k2)).2.1)) = wy := ⟨_, rfl⟩
  rw [hw]
  have hsh : ShouldAt w8 g true X2 l2.length d2 (codeOf (endM ak2 x2 y2 k2)) (needOf (endM ak2 x2 y2 k2)).2.2 (needOf (endM ak2 x2 y2 k2)).1 (needOf (endM ak2 x2 y2 k2)).2.1 := by rw [← hw]; exact set6 HSHN.out _ _ _ _ _ _
  have HT8 := Lib.hid (show Three w w8 false x1 y1 0 A1 l1.length c1 ak2 x2 y2 k2 A2 l2.length c2 ak3 x3 y3 k3 A3 l3.length c3 from by rw [← hw]; exact Three.set6 HT7.out hg3 _ _ _ _ _ _)
  have HX := Lib.hid (show RowS w8 0 w8.heap.size X2 l2 from by rw [← hw]; exact (rowS_set6 hx2 (.inl HBN.out.2.1) _ _ _ _ _ _).wide (Nat.zero_le _) (by simp [World.setCell]))
  clear hx2
  clear hw HSHN HBN s0 s1 s2 s3 s4 s5 g0 g1 g2 g3 g4 g5
  obtain ⟨s0, s1, s2, s3, s4, s5⟩ := hsh.cells
  have HSH := Lib.hid hsh
  clear hsh
  go_upto_region 8 with fail
  clear s0 s1 s2 s3 s4 s5
  have HR1X := Lib.hid ((HR1.out.below HT8.out.b (Nat.le_refl _)).wide (Nat.le_refl _) HT8.out.b.size)
  have HR2X := Lib.hid ((HR2.out.below HT8.out.b (Nat.le_refl _)).wide (Nat.le_refl _) HT8.out.b.size)
  have HR3X := Lib.hid ((HR3.out.below HT8.out.b (Nat.le_refl _)).wide (Nat.le_refl _) HT8.out.b.size)
  have keep : ∀ w', Below w8.heap.size w8 w' → w'.cell? ⟨w.heap.size, 0, none⟩ = some (.bool false) ∧ w'.cell? ⟨w.heap.size, 1, none⟩ = some (.string x1) ∧ w'.cell? ⟨w.heap.size, 2, none⟩ = some (.string y1) ∧ w'.cell? ⟨w.heap.size, 3, none⟩ = some (.int .i32 0) ∧ w'.cell? ⟨w.heap.size, 4, none⟩ = some (.slice A1 l1.length c1) ∧ w'.cell? ⟨w.heap.size + 1, 0, none⟩ = some (.bool ak2) ∧ w'.cell? ⟨w.heap.size + 1, 1, none⟩ = some (.string x2) ∧ w'.cell? ⟨w.heap.size + 1, 2, none⟩ = some (.string y2) ∧ w'.cell? ⟨w.heap.size + 1, 3, none⟩ = some (.int .i32 k2) ∧ w'.cell? ⟨w.heap.size + 1, 4, none⟩ = some (.slice A2 l2.length c2) ∧ w'.cell? ⟨w.heap.size + 1 + 1, 0, none⟩ = some (.bool ak3) ∧ w'.cell? ⟨w.heap.size + 1 + 1, 1, none⟩ = some (.string x3) ∧ w'.cell? ⟨w.heap.size + 1 + 1, 2, none⟩ = some (.string y3) ∧ w'.cell? ⟨w.heap.size + 1 + 1, 3, none⟩ = some (.int .i32 k3) ∧ w'.cell? ⟨w.heap.size + 1 + 1, 4, none⟩ = some (.slice A3 l3.length c3) ∧ Below w8.heap.size w8 w' := fun w' h => by
    have t := (HT8.out.below h).cells
    exact ⟨t.1, t.2.1, t.2.2.1, t.2.2.2.1, t.2.2.2.2.1, t.2.2.2.2.2.1, t.2.2.2.2.2.2.1, t.2.2.2.2.2.2.2.1, t.2.2.2.2.2.2.2.2.1, t.2.2.2.2.2.2.2.2.2.1, t.2.2.2.2.2.2.2.2.2.2.1, t.2.2.2.2.2.2.2.2.2.2.2.1, t.2.2.2.2.2.2.2.2.2.2.2.2.1, t.2.2.2.2.2.2.2.2.2.2.2.2.2.1, t.2.2.2.2.2.2.2.2.2.2.2.2.2.2, h⟩
  have KEEP := Lib.hid keep
  obtain ⟨c10, c11, c12, c13, c14, c20, c21, c22, c23, c24, c30, c31, c32, c33, c34, _⟩ := keep _ (Below.refl _ _)
  clear keep
  go_region_held3 (fun w' => w'.cell? ⟨w.heap.size, 0, none⟩ = some (.bool false) ∧ w'.cell? ⟨w.heap.size, 1, none⟩ = some (.string x1) ∧ w'.cell? ⟨w.heap.size, 2, none⟩ = some (.string y1) ∧ w'.cell? ⟨w.heap.size, 3, none⟩ = some (.int .i32 0) ∧ w'.cell? ⟨w.heap.size, 4, none⟩ = some (.slice A1 l1.length c1) ∧ w'.cell? ⟨w.heap.size + 1, 0, none⟩ = some (.bool ak2) ∧ w'.cell? ⟨w.heap.size + 1, 1, none⟩ = some (.string x2) ∧ w'.cell? ⟨w.heap.size + 1, 2, none⟩ = some (.string y2) ∧ w'.cell? ⟨w.heap.size + 1, 3, none⟩ = some (.int .i32 k2) ∧ w'.cell? ⟨w.heap.size + 1, 4, none⟩ = some (.slice A2 l2.length c2) ∧ w'.cell? ⟨w.heap.size + 1 + 1, 0, none⟩ = some (.bool ak3) ∧ w'.cell? ⟨w.heap.size + 1 + 1, 1, none⟩ = some (.string x3) ∧ w'.cell? ⟨w.heap.size + 1 + 1, 2, none⟩ = some (.string y3) ∧ w'.cell? ⟨w.heap.size + 1 + 1, 3, none⟩ = some (.int .i32 k3) ∧ w'.cell? ⟨w.heap.size + 1 + 1, 4, none⟩ = some (.slice A3 l3.length c3) ∧ Below w8.heap.size w8 w')
    (first | with_reducible exact KEEP.out _ (Below.alloc hB3 (Below.size hB3) _) | with_reducible exact KEEP.out _ hB3 | with_reducible exact KEEP.out _ hB2 | with_reducible exact KEEP.out _ hB1 | with_reducible exact KEEP.out _ (Below.refl _ _).drew)
    (first
      | (go_at_call 10; (with_reducible refine (make0_from x1 y1 A1 c1 l1 HS1.out.1 HR1X.out (by go_split_ands; assumption)).mono ?_); rintro r u1 ⟨rfl, hb1, hB1⟩)
      | (go_at_call 10; (with_reducible refine (make_from ak2 x2 y2 k2 A2 c2 l2 HK2.out.1 HK2.out.2.1 HK2.out.2.2 HS2.out.1 HR2X.out (by go_split_ands; assumption)).mono ?_); rintro r u2 ⟨T2, z2, rfl, hE2, hb2, hB2⟩)
      | (go_at_call 10; (with_reducible refine (make_from ak3 x3 y3 k3 A3 c3 l3 HK3.out.1 HK3.out.2.1 HK3.out.2.2 HS3.out.1 HR3X.out (by go_split_ands; assumption)).mono ?_); rintro r u3 ⟨T3, z3, rfl, hE3, hb3, hB3⟩)
      | (go_at_call 20; refine (first_b T2 z2 _ _ _ (heap_alloc_new _ _)).mono ?_; rintro r u4 ⟨rfl, rfl⟩))
  go_upto_region 9 with fail
  obtain ⟨wz, hwz⟩ : ∃ wz, u3.alloc (.cells #[.nilIface, .nilIface, .iface T2 z2, .iface T3 z3] 27) = wz := ⟨_, rfl⟩
  rw [hwz]
  have hbz : Below u3.heap.size u3 wz := by rw [← hwz]; exact (Below.refl _ _).alloc (Nat.le_refl _) _
  have hbx := hB3.trans (hbz.mono hB3.size)
  have HZ := Lib.hid (HT8.out.b.trans (hbx.mono HT8.out.b.size))
  have HGZ := Lib.hid (HG.out.under HZ.out)
  have hsz := HSH.out.below hbx HSH.out.lt
  have HSZ := Lib.hid hsz
  have HXZ := Lib.hid ((HX.out.below hbx (Nat.le_refl _)).wide (Nat.le_refl _) hbx.size)
  have HEZ := Lib.hid ((((hE2.below hb3 (Nat.le_refl _)).wide hb3.size).below hbz (Nat.le_refl _)).wide hbz.size)
  have HSOME := Lib.hid (show some? (endM ak2 x2 y2 k2) l2 from .inr (endM_some HK2.out.1))
  have HCB := Lib.hid (codeM_le (ak := ak2) (x := x2) (y := y2) HK2.out.2.1 HK2.out.2.2)
  have HCODE := Lib.hid (code_from HEZ.out HSOME.out HGZ.out)
  have HTEXT := Lib.hid (text_from HEZ.out HSOME.out HGZ.out HF2.out HCB.out.1 HCB.out.2)
  have HREF := Lib.hid (refText_from d2 (needOf (endM ak2 x2 y2 k2)).1 (needOf (endM ak2 x2 y2 k2)).2.1 HXZ.out HF2.out HCB.out.1 HCB.out.2)
  have keep2 : ∀ w', Below wz.heap.size wz w' → w'.cell? ⟨g, 0, none⟩ = some (.bool true) ∧ w'.cell? ⟨g, 1, none⟩ = some (.slice X2 l2.length d2) ∧ w'.cell? ⟨g, 2, none⟩ = some (.int .i64 (codeOf (endM ak2 x2 y2 k2))) ∧ w'.cell? ⟨g, 3, none⟩ = some (.bool (needOf (endM ak2 x2 y2 k2)).2.2) ∧ w'.cell? ⟨g, 4, none⟩ = some (.string (needOf (endM ak2 x2 y2 k2)).1) ∧ w'.cell? ⟨g, 5, none⟩ = some (.string (needOf (endM ak2 x2 y2 k2)).2.1) ∧ Below wz.heap.size wz w' := fun w' h => by
    have m := (HSZ.out.below h HSZ.out.lt).cells
    exact ⟨m.1, m.2.1, m.2.2.1, m.2.2.2.1, m.2.2.2.2.1, m.2.2.2.2.2, h⟩
  have KEEP2 := Lib.hid keep2
  clear hb1 hb2 hb3 hB1 hB2 hB3 hbz hbx hsz hwz KEEP c10 c11 c12 c13 c14 c20 c21 c22 c23 c24 c30 c31 c32 c33 c34
  clear hE2 hE3
  generalize endM ak2 x2 y2 k2 = e at *
  obtain ⟨s0, s1, s2, s3, s4, s5, _⟩ := keep2 _ (Below.refl _ _)
  clear keep2
  go_region_held3 (fun w' => w'.cell? ⟨g, 0, none⟩ = some (.bool true) ∧ w'.cell? ⟨g, 1, none⟩ = some (.slice X2 l2.length d2) ∧ w'.cell? ⟨g, 2, none⟩ = some (.int .i64 (codeOf e)) ∧ w'.cell? ⟨g, 3, none⟩ = some (.bool (needOf e).2.2) ∧ w'.cell? ⟨g, 4, none⟩ = some (.string (needOf e).1) ∧ w'.cell? ⟨g, 5, none⟩ = some (.string (needOf e).2.1) ∧ Below wz.heap.size wz w')
    (first | with_reducible exact KEEP2.out _ hb6 | with_reducible exact KEEP2.out _ (Below.refl _ _).drew)
    (first
      | (go_at_call 13; refine (HCODE.out _ (by go_split_ands; assumption)).mono ?_; rintro r w' ⟨rfl, hb6⟩)
      | (go_at_call 16; refine (HTEXT.out _ (by go_split_ands; assumption)).mono ?_; rintro r w' ⟨rfl, hb6⟩)
      | (go_at_call 17; refine (HREF.out _ (by go_split_ands; assumption)).mono ?_; rintro r w' ⟨rfl, hb6⟩)
      | (go_at_call 20; refine (first_none _).mono ?_; rintro r w' ⟨rfl, rfl⟩))
  go_wp2_with fail
  go_ret
  exact ⟨rfl, HZ.out.trans (hb6.mono HZ.out.size)⟩

set_option maxRecDepth 100000 in
set_option maxHeartbeats 4000000 in
theorem walk_nsn (x1 y1 : ByteArray) (A1 : Option Addr) (c1 : Nat) (l1 : List ByteArray) (ak2 : Bool) (k2 : Int) (x2 y2 : ByteArray) (A2 : Option Addr) (c2 : Nat) (l2 : List ByteArray) (x3 y3 : ByteArray) (A3 : Option Addr) (c3 : Nat) (l3 : List ByteArray) (w : World) (hG : Glob w)
    (hm1 : l1.length ≤ maxLen) (hs1 : ∀ p ∈ l1, p.size ≤ maxLen) (hr1 : RowS w 0 w.heap.size A1 l1) (hf1 : fewB l1 = true)
    (hm2 : l2.length ≤ maxLen) (hs2 : ∀ p ∈ l2, p.size ≤ maxLen) (hr2 : RowS w 0 w.heap.size A2 l2) (hf2 : fewB l2 = true) (hk2 : ak2 = true ∨ k2 ≠ 0) (p2 : -2147483648 ≤ k2) (q2 : k2 ≤ 2147483647)
    (hm3 : l3.length ≤ maxLen) (hs3 : ∀ p ∈ l3, p.size ≤ maxLen) (hr3 : RowS w 0 w.heap.size A3 l3) (hf3 : fewB l3 = true) :
    Calls Tryd.prog 5 #[.agg #[.bool false, .string x1, .string y1, .int .i32 0, .slice A1 l1.length c1], .agg #[.bool ak2, .string x2, .string y2, .int .i32 k2, .slice A2 l2.length c2], .agg #[.bool false, .string x3, .string y3, .int .i32 0, .slice A3 l3.length c3]] w fun e w' => e = .returned (.bool true) ∧ Below w.heap.size w w' := by
  have HBX := Lib.hid (show Below w.heap.size w (((w.alloc (.cells #[.bool false, .string x1, .string y1, .int .i32 0, .slice A1 l1.length c1] 24)).alloc (.cells #[.bool ak2, .string x2, .string y2, .int .i32 k2, .slice A2 l2.length c2] 24)).alloc (.cells #[.bool false, .string x3, .string y3, .int .i32 0, .slice A3 l3.length c3] 24)) from (((Below.refl _ w).alloc (Nat.le_refl _) _).alloc (by simp) _).alloc (by simp; omega) _)
  have HG := Lib.hid hG
  clear hG
  have HR1 := Lib.hid hr1
  have HS1 := Lib.hid (And.intro hm1 hs1)
  clear hr1 hm1 hs1
  have HF1 := Lib.hid hf1
  clear hf1
  have HR2 := Lib.hid hr2
  have HS2 := Lib.hid (And.intro hm2 hs2)
  clear hr2 hm2 hs2
  have HF2 := Lib.hid hf2
  clear hf2
  have HK2 := Lib.hid (And.intro hk2 (And.intro p2 q2))
  clear hk2 p2 q2
  have HR3 := Lib.hid hr3
  have HS3 := Lib.hid (And.intro hm3 hs3)
  clear hr3 hm3 hs3
  have HF3 := Lib.hid hf3
  clear hf3
  go_enter Tryd.func5, Tryd.ntmps5
  go_wp2_with fail
  refine (live_any _ (HG.out.under HBX.out)).mono ?_
  rintro e w1 ⟨rfl, hb⟩
  have HT1 := Lib.hid (Three.start hb)
  obtain ⟨c10, c11, c12, c13, c14, c20, c21, c22, c23, c24, c30, c31, c32, c33, c34⟩ := HT1.out.cells
  clear hb HBX
  go_wp2_with fail
  refine (few_any false x1 y1 0 A1 _ c1 l1 0 w.heap.size w1 rfl HS1.out.1 HS1.out.2 (HR1.out.below HT1.out.b (Nat.le_refl _)) HT1.out.b.size).mono ?_
  rw [HF1.out]
  rintro e w2 ⟨rfl, hb⟩
  have HT2 := Lib.hid (HT1.out.below hb)
  clear hb c10 c11 c12 c13 c14 c20 c21 c22 c23 c24 c30 c31 c32 c33 c34
  obtain ⟨c10, c11, c12, c13, c14, c20, c21, c22, c23, c24, c30, c31, c32, c33, c34⟩ := HT2.out.cells
  go_wp2_with fail
  refine (few_any ak2 x2 y2 k2 A2 _ c2 l2 0 w.heap.size w2 rfl HS2.out.1 HS2.out.2 (HR2.out.below HT2.out.b (Nat.le_refl _)) HT2.out.b.size).mono ?_
  rw [HF2.out]
  rintro e w3 ⟨rfl, hb⟩
  have HT3 := Lib.hid (HT2.out.below hb)
  clear hb c10 c11 c12 c13 c14 c20 c21 c22 c23 c24 c30 c31 c32 c33 c34
  obtain ⟨c10, c11, c12, c13, c14, c20, c21, c22, c23, c24, c30, c31, c32, c33, c34⟩ := HT3.out.cells
  go_wp2_with fail
  refine (few_any false x3 y3 0 A3 _ c3 l3 0 w.heap.size w3 rfl HS3.out.1 HS3.out.2 (HR3.out.below HT3.out.b (Nat.le_refl _)) HT3.out.b.size).mono ?_
  rw [HF3.out]
  rintro e w4 ⟨rfl, hb⟩
  have HT4 := Lib.hid (HT3.out.below hb)
  clear hb c10 c11 c12 c13 c14 c20 c21 c22 c23 c24 c30 c31 c32 c33 c34
  obtain ⟨c10, c11, c12, c13, c14, c20, c21, c22, c23, c24, c30, c31, c32, c33, c34⟩ := HT4.out.cells
  go_wp2_with fail
  refine (should0_from x1 y1 A1 c1 l1 HF1.out HR1.out HT4.out.b).mono ?_
  rintro e w5 ⟨X1, d1, rfl, hb, _⟩
  have HT5 := Lib.hid (HT4.out.below hb)
  clear hb c10 c11 c12 c13 c14 c20 c21 c22 c23 c24 c30 c31 c32 c33 c34
  go_upto_region 4 with fail
  obtain ⟨w6, hw6⟩ : ∃ w6, w5.alloc (.cells #[.bool false, .slice X1 0 d1, .int .i64 0, .bool false, .string ⟨#[]⟩, .string ⟨#[]⟩] 33) = w6 := ⟨_, rfl⟩
  rw [hw6]
  have hb6 : Below w5.heap.size w5 w6 := by rw [← hw6]; exact (Below.refl _ _).alloc (Nat.le_refl _) _
  have hsh : ShouldAt w6 w5.heap.size false X1 0 d1 0 false ⟨#[]⟩ ⟨#[]⟩ := by rw [← hw6]; exact heap_alloc_new _ _
  have hg3 : w.heap.size + 1 + 1 < w5.heap.size := HT5.out.m3.lt
  have HT6 := Lib.hid (HT5.out.below hb6)
  clear hw6 hb6
  generalize w5.heap.size = g at *
  obtain ⟨c10, c11, c12, c13, c14, c20, c21, c22, c23, c24, c30, c31, c32, c33, c34⟩ := HT6.out.cells
  obtain ⟨s0, s1, s2, s3, s4, s5⟩ := hsh.cells
  have HSH := Lib.hid hsh
  clear hsh
  go_wp2_with fail
  refine (should_from ak2 x2 y2 k2 A2 c2 l2 HK2.out.1 HK2.out.2.1 HK2.out.2.2 HF2.out HR2.out HT6.out.b).mono ?_
  rintro e w7 ⟨X2, d2, rfl, hx2, hb, _⟩
  have hsh := HSH.out.below hb HSH.out.lt
  have HT7 := Lib.hid (HT6.out.below hb)
  clear c10 c11 c12 c13 c14 c20 c21 c22 c23 c24 c30 c31 c32 c33 c34 s0 s1 s2 s3 s4 s5
  obtain ⟨s0, s1, s2, s3, s4, s5⟩ := hsh.cells
  have g0 := hsh.frozen 0
  have g1 := hsh.frozen 1
  have g2 := hsh.frozen 2
  have g3 := hsh.frozen 3
  have g4 := hsh.frozen 4
  have g5 := hsh.frozen 5
  have HSHN := Lib.hid hsh
  have HBN := Lib.hid (And.intro hb (And.intro HSH.out.lt HT6.out.b.size))
  clear hsh hb HSH
  go_upto_region 6 with fail
  obtain ⟨w8, hw⟩ : ∃ wy, ((((((w7.setCell ⟨g, 0, none⟩ (.bool true)).setCell ⟨g, 1, none⟩ (.slice X2 l2.length d2)).setCell ⟨g, 2, none⟩ (.int .i64 (codeOf (endM ak2 x2 y2 k2)))).setCell ⟨g, 3, none⟩ (.bool (needOf (endM ak2 x2 y2 k2)).2.2)).setCell ⟨g, 4, none⟩ (.string (needOf (endM ak2 x2 y2 k2)).1)).setCell ⟨g, 5, none⟩ (.string (needOf (endM ak2 x2 y2 k2)).2.1)) = wy := ⟨_, rfl⟩
  rw [hw]
  have hsh : ShouldAt w8 g true X2 l2.length d2 (codeOf (endM ak2 x2 y2 k2)) (needOf (endM ak2 x2 y2 k2)).2.2 (needOf (endM ak2 x2 y2 k2)).1 (needOf (endM ak2 x2 y2 k2)).2.1 := by rw [← hw]; exact set6 HSHN.out _ _ _ _ _ _
  have HT8 := Lib.hid (show Three w w8 false x1 y1 0 A1 l1.length c1 ak2 x2 y2 k2 A2 l2.length c2 false x3 y3 0 A3 l3.length c3 from by rw [← hw]; exact Three.set6 HT7.out hg3 _ _ _ _ _ _)
  have HX := Lib.hid (show RowS w8 0 w8.heap.size X2 l2 from by rw [← hw]; exact (rowS_set6 hx2 (.inl HBN.out.2.1) _ _ _ _ _ _).wide (Nat.zero_le _) (by simp [World.setCell]))
  clear hx2
  clear hw HSHN HBN s0 s1 s2 s3 s4 s5 g0 g1 g2 g3 g4 g5
  obtain ⟨s0, s1, s2, s3, s4, s5⟩ := hsh.cells
  have HSH := Lib.hid hsh
  clear hsh
  go_upto_region 8 with fail
  clear s0 s1 s2 s3 s4 s5
  have HR1X := Lib.hid ((HR1.out.below HT8.out.b (Nat.le_refl _)).wide (Nat.le_refl _) HT8.out.b.size)
  have HR2X := Lib.hid ((HR2.out.below HT8.out.b (Nat.le_refl _)).wide (Nat.le_refl _) HT8.out.b.size)
  have HR3X := Lib.hid ((HR3.out.below HT8.out.b (Nat.le_refl _)).wide (Nat.le_refl _) HT8.out.b.size)
  have keep : ∀ w', Below w8.heap.size w8 w' → w'.cell? ⟨w.heap.size, 0, none⟩ = some (.bool false) ∧ w'.cell? ⟨w.heap.size, 1, none⟩ = some (.string x1) ∧ w'.cell? ⟨w.heap.size, 2, none⟩ = some (.string y1) ∧ w'.cell? ⟨w.heap.size, 3, none⟩ = some (.int .i32 0) ∧ w'.cell? ⟨w.heap.size, 4, none⟩ = some (.slice A1 l1.length c1) ∧ w'.cell? ⟨w.heap.size + 1, 0, none⟩ = some (.bool ak2) ∧ w'.cell? ⟨w.heap.size + 1, 1, none⟩ = some (.string x2) ∧ w'.cell? ⟨w.heap.size + 1, 2, none⟩ = some (.string y2) ∧ w'.cell? ⟨w.heap.size + 1, 3, none⟩ = some (.int .i32 k2) ∧ w'.cell? ⟨w.heap.size + 1, 4, none⟩ = some (.slice A2 l2.length c2) ∧ w'.cell? ⟨w.heap.size + 1 + 1, 0, none⟩ = some (.bool false) ∧ w'.cell? ⟨w.heap.size + 1 + 1, 1, none⟩ = some (.string x3) ∧ w'.cell? ⟨w.heap.size + 1 + 1, 2, none⟩ = some (.string y3) ∧ w'.cell? ⟨w.heap.size + 1 + 1, 3, none⟩ = some (.int .i32 0) ∧ w'.cell? ⟨w.heap.size + 1 + 1, 4, none⟩ = some (.slice A3 l3.length c3) ∧ Below w8.heap.size w8 w' := fun w' h => by
    have t := (HT8.out.below h).cells
    exact ⟨t.1, t.2.1, t.2.2.1, t.2.2.2.1, t.2.2.2.2.1, t.2.2.2.2.2.1, t.2.2.2.2.2.2.1, t.2.2.2.2.2.2.2.1, t.2.2.2.2.2.2.2.2.1, t.2.2.2.2.2.2.2.2.2.1, t.2.2.2.2.2.2.2.2.2.2.1, t.2.2.2.2.2.2.2.2.2.2.2.1, t.2.2.2.2.2.2.2.2.2.2.2.2.1, t.2.2.2.2.2.2.2.2.2.2.2.2.2.1, t.2.2.2.2.2.2.2.2.2.2.2.2.2.2, h⟩
  have KEEP := Lib.hid keep
  obtain ⟨c10, c11, c12, c13, c14, c20, c21, c22, c23, c24, c30, c31, c32, c33, c34, _⟩ := keep _ (Below.refl _ _)
  clear keep
  go_region_held3 (fun w' => w'.cell? ⟨w.heap.size, 0, none⟩ = some (.bool false) ∧ w'.cell? ⟨w.heap.size, 1, none⟩ = some (.string x1) ∧ w'.cell? ⟨w.heap.size, 2, none⟩ = some (.string y1) ∧ w'.cell? ⟨w.heap.size, 3, none⟩ = some (.int .i32 0) ∧ w'.cell? ⟨w.heap.size, 4, none⟩ = some (.slice A1 l1.length c1) ∧ w'.cell? ⟨w.heap.size + 1, 0, none⟩ = some (.bool ak2) ∧ w'.cell? ⟨w.heap.size + 1, 1, none⟩ = some (.string x2) ∧ w'.cell? ⟨w.heap.size + 1, 2, none⟩ = some (.string y2) ∧ w'.cell? ⟨w.heap.size + 1, 3, none⟩ = some (.int .i32 k2) ∧ w'.cell? ⟨w.heap.size + 1, 4, none⟩ = some (.slice A2 l2.length c2) ∧ w'.cell? ⟨w.heap.size + 1 + 1, 0, none⟩ = some (.bool false) ∧ w'.cell? ⟨w.heap.size + 1 + 1, 1, none⟩ = some (.string x3) ∧ w'.cell? ⟨w.heap.size + 1 + 1, 2, none⟩ = some (.string y3) ∧ w'.cell? ⟨w.heap.size + 1 + 1, 3, none⟩ = some (.int .i32 0) ∧ w'.cell? ⟨w.heap.size + 1 + 1, 4, none⟩ = some (.slice A3 l3.length c3) ∧ Below w8.heap.size w8 w')
    (first | with_reducible exact KEEP.out _ (Below.alloc hB3 (Below.size hB3) _) | with_reducible exact KEEP.out _ hB3 | with_reducible exact KEEP.out _ hB2 | with_reducible exact KEEP.out _ hB1 | with_reducible exact KEEP.out _ (Below.refl _ _).drew)
    (first
      | (go_at_call 10; (with_reducible refine (make0_from x1 y1 A1 c1 l1 HS1.out.1 HR1X.out (by go_split_ands; assumption)).mono ?_); rintro r u1 ⟨rfl, hb1, hB1⟩)
      | (go_at_call 10; (with_reducible refine (make_from ak2 x2 y2 k2 A2 c2 l2 HK2.out.1 HK2.out.2.1 HK2.out.2.2 HS2.out.1 HR2X.out (by go_split_ands; assumption)).mono ?_); rintro r u2 ⟨T2, z2, rfl, hE2, hb2, hB2⟩)
      | (go_at_call 10; (with_reducible refine (make0_from x3 y3 A3 c3 l3 HS3.out.1 HR3X.out (by go_split_ands; assumption)).mono ?_); rintro r u3 ⟨rfl, hb3, hB3⟩)
      | (go_at_call 20; refine (first_b T2 z2 _ _ _ (heap_alloc_new _ _)).mono ?_; rintro r u4 ⟨rfl, rfl⟩))
  go_upto_region 9 with fail
  obtain ⟨wz, hwz⟩ : ∃ wz, u3.alloc (.cells #[.nilIface, .nilIface, .iface T2 z2, .nilIface] 27) = wz := ⟨_, rfl⟩
  rw [hwz]
  have hbz : Below u3.heap.size u3 wz := by rw [← hwz]; exact (Below.refl _ _).alloc (Nat.le_refl _) _
  have hbx := hB3.trans (hbz.mono hB3.size)
  have HZ := Lib.hid (HT8.out.b.trans (hbx.mono HT8.out.b.size))
  have HGZ := Lib.hid (HG.out.under HZ.out)
  have hsz := HSH.out.below hbx HSH.out.lt
  have HSZ := Lib.hid hsz
  have HXZ := Lib.hid ((HX.out.below hbx (Nat.le_refl _)).wide (Nat.le_refl _) hbx.size)
  have HEZ := Lib.hid ((((hE2.below hb3 (Nat.le_refl _)).wide hb3.size).below hbz (Nat.le_refl _)).wide hbz.size)
  have HSOME := Lib.hid (show some? (endM ak2 x2 y2 k2) l2 from .inr (endM_some HK2.out.1))
  have HCB := Lib.hid (codeM_le (ak := ak2) (x := x2) (y := y2) HK2.out.2.1 HK2.out.2.2)
  have HCODE := Lib.hid (code_from HEZ.out HSOME.out HGZ.out)
  have HTEXT := Lib.hid (text_from HEZ.out HSOME.out HGZ.out HF2.out HCB.out.1 HCB.out.2)
  have HREF := Lib.hid (refText_from d2 (needOf (endM ak2 x2 y2 k2)).1 (needOf (endM ak2 x2 y2 k2)).2.1 HXZ.out HF2.out HCB.out.1 HCB.out.2)
  have keep2 : ∀ w', Below wz.heap.size wz w' → w'.cell? ⟨g, 0, none⟩ = some (.bool true) ∧ w'.cell? ⟨g, 1, none⟩ = some (.slice X2 l2.length d2) ∧ w'.cell? ⟨g, 2, none⟩ = some (.int .i64 (codeOf (endM ak2 x2 y2 k2))) ∧ w'.cell? ⟨g, 3, none⟩ = some (.bool (needOf (endM ak2 x2 y2 k2)).2.2) ∧ w'.cell? ⟨g, 4, none⟩ = some (.string (needOf (endM ak2 x2 y2 k2)).1) ∧ w'.cell? ⟨g, 5, none⟩ = some (.string (needOf (endM ak2 x2 y2 k2)).2.1) ∧ Below wz.heap.size wz w' := fun w' h => by
    have m := (HSZ.out.below h HSZ.out.lt).cells
    exact ⟨m.1, m.2.1, m.2.2.1, m.2.2.2.1, m.2.2.2.2.1, m.2.2.2.2.2, h⟩
  have KEEP2 := Lib.hid keep2
  clear hb1 hb2 hb3 hB1 hB2 hB3 hbz hbx hsz hwz KEEP c10 c11 c12 c13 c14 c20 c21 c22 c23 c24 c30 c31 c32 c33 c34
  clear hE2
  generalize endM ak2 x2 y2 k2 = e at *
  obtain ⟨s0, s1, s2, s3, s4, s5, _⟩ := keep2 _ (Below.refl _ _)
  clear keep2
  go_region_held3 (fun w' => w'.cell? ⟨g, 0, none⟩ = some (.bool true) ∧ w'.cell? ⟨g, 1, none⟩ = some (.slice X2 l2.length d2) ∧ w'.cell? ⟨g, 2, none⟩ = some (.int .i64 (codeOf e)) ∧ w'.cell? ⟨g, 3, none⟩ = some (.bool (needOf e).2.2) ∧ w'.cell? ⟨g, 4, none⟩ = some (.string (needOf e).1) ∧ w'.cell? ⟨g, 5, none⟩ = some (.string (needOf e).2.1) ∧ Below wz.heap.size wz w')
    (first | with_reducible exact KEEP2.out _ hb6 | with_reducible exact KEEP2.out _ (Below.refl _ _).drew)
    (first
      | (go_at_call 13; refine (HCODE.out _ (by go_split_ands; assumption)).mono ?_; rintro r w' ⟨rfl, hb6⟩)
      | (go_at_call 16; refine (HTEXT.out _ (by go_split_ands; assumption)).mono ?_; rintro r w' ⟨rfl, hb6⟩)
      | (go_at_call 17; refine (HREF.out _ (by go_split_ands; assumption)).mono ?_; rintro r w' ⟨rfl, hb6⟩)
      | (go_at_call 20; refine (first_none _).mono ?_; rintro r w' ⟨rfl, rfl⟩))
  go_wp2_with fail
  go_ret
  exact ⟨rfl, HZ.out.trans (hb6.mono HZ.out.size)⟩

set_option maxRecDepth 100000 in
set_option maxHeartbeats 4000000 in
theorem walk_nns (x1 y1 : ByteArray) (A1 : Option Addr) (c1 : Nat) (l1 : List ByteArray) (x2 y2 : ByteArray) (A2 : Option Addr) (c2 : Nat) (l2 : List ByteArray) (ak3 : Bool) (k3 : Int) (x3 y3 : ByteArray) (A3 : Option Addr) (c3 : Nat) (l3 : List ByteArray) (w : World) (hG : Glob w)
    (hm1 : l1.length ≤ maxLen) (hs1 : ∀ p ∈ l1, p.size ≤ maxLen) (hr1 : RowS w 0 w.heap.size A1 l1) (hf1 : fewB l1 = true)
    (hm2 : l2.length ≤ maxLen) (hs2 : ∀ p ∈ l2, p.size ≤ maxLen) (hr2 : RowS w 0 w.heap.size A2 l2) (hf2 : fewB l2 = true)
    (hm3 : l3.length ≤ maxLen) (hs3 : ∀ p ∈ l3, p.size ≤ maxLen) (hr3 : RowS w 0 w.heap.size A3 l3) (hf3 : fewB l3 = true) (hk3 : ak3 = true ∨ k3 ≠ 0) (p3 : -2147483648 ≤ k3) (q3 : k3 ≤ 2147483647) :
    Calls Tryd.prog 5 #[.agg #[.bool false, .string x1, .string y1, .int .i32 0, .slice A1 l1.length c1], .agg #[.bool false, .string x2, .string y2, .int .i32 0, .slice A2 l2.length c2], .agg #[.bool ak3, .string x3, .string y3, .int .i32 k3, .slice A3 l3.length c3]] w fun e w' => e = .returned (.bool true) ∧ Below w.heap.size w w' := by
  have HBX := Lib.hid (show Below w.heap.size w (((w.alloc (.cells #[.bool false, .string x1, .string y1, .int .i32 0, .slice A1 l1.length c1] 24)).alloc (.cells #[.bool false, .string x2, .string y2, .int .i32 0, .slice A2 l2.length c2] 24)).alloc (.cells #[.bool ak3, .string x3, .string y3, .int .i32 k3, .slice A3 l3.length c3] 24)) from (((Below.refl _ w).alloc (Nat.le_refl _) _).alloc (by simp) _).alloc (by simp; omega) _)
  have HG := Lib.hid hG
  clear hG
  have HR1 := Lib.hid hr1
  have HS1 := Lib.hid (And.intro hm1 hs1)
  clear hr1 hm1 hs1
  have HF1 := Lib.hid hf1
  clear hf1
  have HR2 := Lib.hid hr2
  have HS2 := Lib.hid (And.intro hm2 hs2)
  clear hr2 hm2 hs2
  have HF2 := Lib.hid hf2
  clear hf2
  have HR3 := Lib.hid hr3
  have HS3 := Lib.hid (And.intro hm3 hs3)
  clear hr3 hm3 hs3
  have HF3 := Lib.hid hf3
  clear hf3
  have HK3 := Lib.hid (And.intro hk3 (And.intro p3 q3))
  clear hk3 p3 q3
  go_enter Tryd.func5, Tryd.ntmps5
  go_wp2_with fail
  refine (live_any _ (HG.out.under HBX.out)).mono ?_
  rintro e w1 ⟨rfl, hb⟩
  have HT1 := Lib.hid (Three.start hb)
  obtain ⟨c10, c11, c12, c13, c14, c20, c21, c22, c23, c24, c30, c31, c32, c33, c34⟩ := HT1.out.cells
  clear hb HBX
  go_wp2_with fail
  refine (few_any false x1 y1 0 A1 _ c1 l1 0 w.heap.size w1 rfl HS1.out.1 HS1.out.2 (HR1.out.below HT1.out.b (Nat.le_refl _)) HT1.out.b.size).mono ?_
  rw [HF1.out]
  rintro e w2 ⟨rfl, hb⟩
  have HT2 := Lib.hid (HT1.out.below hb)
  clear hb c10 c11 c12 c13 c14 c20 c21 c22 c23 c24 c30 c31 c32 c33 c34
  obtain ⟨c10, c11, c12, c13, c14, c20, c21, c22, c23, c24, c30, c31, c32, c33, c34⟩ := HT2.out.cells
  go_wp2_with fail
  refine (few_any false x2 y2 0 A2 _ c2 l2 0 w.heap.size w2 rfl HS2.out.1 HS2.out.2 (HR2.out.below HT2.out.b (Nat.le_refl _)) HT2.out.b.size).mono ?_
  rw [HF2.out]
  rintro e w3 ⟨rfl, hb⟩
  have HT3 := Lib.hid (HT2.out.below hb)
  clear hb c10 c11 c12 c13 c14 c20 c21 c22 c23 c24 c30 c31 c32 c33 c34
  obtain ⟨c10, c11, c12, c13, c14, c20, c21, c22, c23, c24, c30, c31, c32, c33, c34⟩ := HT3.out.cells
  go_wp2_with fail
  refine (few_any ak3 x3 y3 k3 A3 _ c3 l3 0 w.heap.size w3 rfl HS3.out.1 HS3.out.2 (HR3.out.below HT3.out.b (Nat.le_refl _)) HT3.out.b.size).mono ?_
  rw [HF3.out]
  rintro e w4 ⟨rfl, hb⟩
  have HT4 := Lib.hid (HT3.out.below hb)
  clear hb c10 c11 c12 c13 c14 c20 c21 c22 c23 c24 c30 c31 c32 c33 c34
  obtain ⟨c10, c11, c12, c13, c14, c20, c21, c22, c23, c24, c30, c31, c32, c33, c34⟩ := HT4.out.cells
  go_wp2_with fail
  refine (should0_from x1 y1 A1 c1 l1 HF1.out HR1.out HT4.out.b).mono ?_
  rintro e w5 ⟨X1, d1, rfl, hb, _⟩
  have HT5 := Lib.hid (HT4.out.below hb)
  clear hb c10 c11 c12 c13 c14 c20 c21 c22 c23 c24 c30 c31 c32 c33 c34
  go_upto_region 4 with fail
  obtain ⟨w6, hw6⟩ : ∃ w6, w5.alloc (.cells #[.bool false, .slice X1 0 d1, .int .i64 0, .bool false, .string ⟨#[]⟩, .string ⟨#[]⟩] 33) = w6 := ⟨_, rfl⟩
  rw [hw6]
  have hb6 : Below w5.heap.size w5 w6 := by rw [← hw6]; exact (Below.refl _ _).alloc (Nat.le_refl _) _
  have hsh : ShouldAt w6 w5.heap.size false X1 0 d1 0 false ⟨#[]⟩ ⟨#[]⟩ := by rw [← hw6]; exact heap_alloc_new _ _
  have hg3 : w.heap.size + 1 + 1 < w5.heap.size := HT5.out.m3.lt
  have HT6 := Lib.hid (HT5.out.below hb6)
  clear hw6 hb6
  generalize w5.heap.size = g at *
  obtain ⟨c10, c11, c12, c13, c14, c20, c21, c22, c23, c24, c30, c31, c32, c33, c34⟩ := HT6.out.cells
  obtain ⟨s0, s1, s2, s3, s4, s5⟩ := hsh.cells
  have HSH := Lib.hid hsh
  clear hsh
  go_wp2_with fail
  refine (should0_from x2 y2 A2 c2 l2 HF2.out HR2.out HT6.out.b).mono ?_
  rintro e w7 ⟨X2, d2, rfl, hb, _⟩
  have hsh := HSH.out.below hb HSH.out.lt
  have HT7 := Lib.hid (HT6.out.below hb)
  clear c10 c11 c12 c13 c14 c20 c21 c22 c23 c24 c30 c31 c32 c33 c34 s0 s1 s2 s3 s4 s5
  obtain ⟨s0, s1, s2, s3, s4, s5⟩ := hsh.cells
  have g0 := hsh.frozen 0
  have g1 := hsh.frozen 1
  have g2 := hsh.frozen 2
  have g3 := hsh.frozen 3
  have g4 := hsh.frozen 4
  have g5 := hsh.frozen 5
  have HSHN := Lib.hid hsh
  have HBN := Lib.hid (And.intro hb (And.intro HSH.out.lt HT6.out.b.size))
  clear hsh hb HSH
  go_upto_region 6 with fail
  obtain ⟨w8, hw⟩ : ∃ wy, ((((((w7.setCell ⟨g, 0, none⟩ (.bool false)).setCell ⟨g, 1, none⟩ (.slice X2 0 d2)).setCell ⟨g, 2, none⟩ (.int .i64 0)).setCell ⟨g, 3, none⟩ (.bool false)).setCell ⟨g, 4, none⟩ (.string ⟨#[]⟩)).setCell ⟨g, 5, none⟩ (.string ⟨#[]⟩)) = wy := ⟨_, rfl⟩
  rw [hw]
  have hsh : ShouldAt w8 g false X2 0 d2 0 false ⟨#[]⟩ ⟨#[]⟩ := by rw [← hw]; exact set6 HSHN.out _ _ _ _ _ _
  have HT8 := Lib.hid (show Three w w8 false x1 y1 0 A1 l1.length c1 false x2 y2 0 A2 l2.length c2 ak3 x3 y3 k3 A3 l3.length c3 from by rw [← hw]; exact Three.set6 HT7.out hg3 _ _ _ _ _ _)
  clear hw HSHN HBN s0 s1 s2 s3 s4 s5 g0 g1 g2 g3 g4 g5
  obtain ⟨c10, c11, c12, c13, c14, c20, c21, c22, c23, c24, c30, c31, c32, c33, c34⟩ := HT8.out.cells
  obtain ⟨s0, s1, s2, s3, s4, s5⟩ := hsh.cells
  have HSH := Lib.hid hsh
  clear hsh
  go_wp2_with fail
  refine (should_from ak3 x3 y3 k3 A3 c3 l3 HK3.out.1 HK3.out.2.1 HK3.out.2.2 HF3.out HR3.out HT8.out.b).mono ?_
  rintro e w9 ⟨X3, d3, rfl, hx3, hb, _⟩
  have hsh := HSH.out.below hb HSH.out.lt
  have HT9 := Lib.hid (HT8.out.below hb)
  clear c10 c11 c12 c13 c14 c20 c21 c22 c23 c24 c30 c31 c32 c33 c34 s0 s1 s2 s3 s4 s5
  obtain ⟨s0, s1, s2, s3, s4, s5⟩ := hsh.cells
  have g0 := hsh.frozen 0
  have g1 := hsh.frozen 1
  have g2 := hsh.frozen 2
  have g3 := hsh.frozen 3
  have g4 := hsh.frozen 4
  have g5 := hsh.frozen 5
  have HSHN := Lib.hid hsh
  have HBN := Lib.hid (And.intro hb (And.intro HSH.out.lt HT8.out.b.size))
  clear hsh hb HSH
  go_upto_region 8 with fail
  obtain ⟨w10, hw⟩ : ∃ wy, ((((((w9.setCell ⟨g, 0, none⟩ (.bool true)).setCell ⟨g, 1, none⟩ (.slice X3 l3.length d3)).setCell ⟨g, 2, none⟩ (.int .i64 (codeOf (endM ak3 x3 y3 k3)))).setCell ⟨g, 3, none⟩ (.bool (needOf (endM ak3 x3 y3 k3)).2.2)).setCell ⟨g, 4, none⟩ (.string (needOf (endM ak3 x3 y3 k3)).1)).setCell ⟨g, 5, none⟩ (.string (needOf (endM ak3 x3 y3 k3)).2.1)) = wy := ⟨_, rfl⟩
  rw [hw]
  have hsh : ShouldAt w10 g true X3 l3.length d3 (codeOf (endM ak3 x3 y3 k3)) (needOf (endM ak3 x3 y3 k3)).2.2 (needOf (endM ak3 x3 y3 k3)).1 (needOf (endM ak3 x3 y3 k3)).2.1 := by rw [← hw]; exact set6 HSHN.out _ _ _ _ _ _
  have HT10 := Lib.hid (show Three w w10 false x1 y1 0 A1 l1.length c1 false x2 y2 0 A2 l2.length c2 ak3 x3 y3 k3 A3 l3.length c3 from by rw [← hw]; exact Three.set6 HT9.out hg3 _ _ _ _ _ _)
  have HX := Lib.hid (show RowS w10 0 w10.heap.size X3 l3 from by rw [← hw]; exact (rowS_set6 hx3 (.inl HBN.out.2.1) _ _ _ _ _ _).wide (Nat.zero_le _) (by simp [World.setCell]))
  clear hx3
  clear hw HSHN HBN s0 s1 s2 s3 s4 s5 g0 g1 g2 g3 g4 g5
  have HSH := Lib.hid hsh
  clear hsh
  have HR1X := Lib.hid ((HR1.out.below HT10.out.b (Nat.le_refl _)).wide (Nat.le_refl _) HT10.out.b.size)
  have HR2X := Lib.hid ((HR2.out.below HT10.out.b (Nat.le_refl _)).wide (Nat.le_refl _) HT10.out.b.size)
  have HR3X := Lib.hid ((HR3.out.below HT10.out.b (Nat.le_refl _)).wide (Nat.le_refl _) HT10.out.b.size)
  have keep : ∀ w', Below w10.heap.size w10 w' → w'.cell? ⟨w.heap.size, 0, none⟩ = some (.bool false) ∧ w'.cell? ⟨w.heap.size, 1, none⟩ = some (.string x1) ∧ w'.cell? ⟨w.heap.size, 2, none⟩ = some (.string y1) ∧ w'.cell? ⟨w.heap.size, 3, none⟩ = some (.int .i32 0) ∧ w'.cell? ⟨w.heap.size, 4, none⟩ = some (.slice A1 l1.length c1) ∧ w'.cell? ⟨w.heap.size + 1, 0, none⟩ = some (.bool false) ∧ w'.cell? ⟨w.heap.size + 1, 1, none⟩ = some (.string x2) ∧ w'.cell? ⟨w.heap.size + 1, 2, none⟩ = some (.string y2) ∧ w'.cell? ⟨w.heap.size + 1, 3, none⟩ = some (.int .i32 0) ∧ w'.cell? ⟨w.heap.size + 1, 4, none⟩ = some (.slice A2 l2.length c2) ∧ w'.cell? ⟨w.heap.size + 1 + 1, 0, none⟩ = some (.bool ak3) ∧ w'.cell? ⟨w.heap.size + 1 + 1, 1, none⟩ = some (.string x3) ∧ w'.cell? ⟨w.heap.size + 1 + 1, 2, none⟩ = some (.string y3) ∧ w'.cell? ⟨w.heap.size + 1 + 1, 3, none⟩ = some (.int .i32 k3) ∧ w'.cell? ⟨w.heap.size + 1 + 1, 4, none⟩ = some (.slice A3 l3.length c3) ∧ Below w10.heap.size w10 w' := fun w' h => by
    have t := (HT10.out.below h).cells
    exact ⟨t.1, t.2.1, t.2.2.1, t.2.2.2.1, t.2.2.2.2.1, t.2.2.2.2.2.1, t.2.2.2.2.2.2.1, t.2.2.2.2.2.2.2.1, t.2.2.2.2.2.2.2.2.1, t.2.2.2.2.2.2.2.2.2.1, t.2.2.2.2.2.2.2.2.2.2.1, t.2.2.2.2.2.2.2.2.2.2.2.1, t.2.2.2.2.2.2.2.2.2.2.2.2.1, t.2.2.2.2.2.2.2.2.2.2.2.2.2.1, t.2.2.2.2.2.2.2.2.2.2.2.2.2.2, h⟩
  have KEEP := Lib.hid keep
  obtain ⟨c10, c11, c12, c13, c14, c20, c21, c22, c23, c24, c30, c31, c32, c33, c34, _⟩ := keep _ (Below.refl _ _)
  clear keep
  go_region_held3 (fun w' => w'.cell? ⟨w.heap.size, 0, none⟩ = some (.bool false) ∧ w'.cell? ⟨w.heap.size, 1, none⟩ = some (.string x1) ∧ w'.cell? ⟨w.heap.size, 2, none⟩ = some (.string y1) ∧ w'.cell? ⟨w.heap.size, 3, none⟩ = some (.int .i32 0) ∧ w'.cell? ⟨w.heap.size, 4, none⟩ = some (.slice A1 l1.length c1) ∧ w'.cell? ⟨w.heap.size + 1, 0, none⟩ = some (.bool false) ∧ w'.cell? ⟨w.heap.size + 1, 1, none⟩ = some (.string x2) ∧ w'.cell? ⟨w.heap.size + 1, 2, none⟩ = some (.string y2) ∧ w'.cell? ⟨w.heap.size + 1, 3, none⟩ = some (.int .i32 0) ∧ w'.cell? ⟨w.heap.size + 1, 4, none⟩ = some (.slice A2 l2.length c2) ∧ w'.cell? ⟨w.heap.size + 1 + 1, 0, none⟩ = some (.bool ak3) ∧ w'.cell? ⟨w.heap.size + 1 + 1, 1, none⟩ = some (.string x3) ∧ w'.cell? ⟨w.heap.size + 1 + 1, 2, none⟩ = some (.string y3) ∧ w'.cell? ⟨w.heap.size + 1 + 1, 3, none⟩ = some (.int .i32 k3) ∧ w'.cell? ⟨w.heap.size + 1 + 1, 4, none⟩ = some (.slice A3 l3.length c3) ∧ Below w10.heap.size w10 w')
    (first | with_reducible exact KEEP.out _ (Below.alloc hB3 (Below.size hB3) _) | with_reducible exact KEEP.out _ hB3 | with_reducible exact KEEP.out _ hB2 | with_reducible exact KEEP.out _ hB1 | with_reducible exact KEEP.out _ (Below.refl _ _).drew)
    (first
      | (go_at_call 10; (with_reducible refine (make0_from x1 y1 A1 c1 l1 HS1.out.1 HR1X.out (by go_split_ands; assumption)).mono ?_); rintro r u1 ⟨rfl, hb1, hB1⟩)
      | (go_at_call 10; (with_reducible refine (make0_from x2 y2 A2 c2 l2 HS2.out.1 HR2X.out (by go_split_ands; assumption)).mono ?_); rintro r u2 ⟨rfl, hb2, hB2⟩)
      | (go_at_call 10; (with_reducible refine (make_from ak3 x3 y3 k3 A3 c3 l3 HK3.out.1 HK3.out.2.1 HK3.out.2.2 HS3.out.1 HR3X.out (by go_split_ands; assumption)).mono ?_); rintro r u3 ⟨T3, z3, rfl, hE3, hb3, hB3⟩)
      | (go_at_call 20; refine (first_c T3 z3 _ _ (heap_alloc_new _ _)).mono ?_; rintro r u4 ⟨rfl, rfl⟩))
  go_upto_region 9 with fail
  obtain ⟨wz, hwz⟩ : ∃ wz, u3.alloc (.cells #[.nilIface, .nilIface, .nilIface, .iface T3 z3] 27) = wz := ⟨_, rfl⟩
  rw [hwz]
  have hbz : Below u3.heap.size u3 wz := by rw [← hwz]; exact (Below.refl _ _).alloc (Nat.le_refl _) _
  have hbx := hB3.trans (hbz.mono hB3.size)
  have HZ := Lib.hid (HT10.out.b.trans (hbx.mono HT10.out.b.size))
  have HGZ := Lib.hid (HG.out.under HZ.out)
  have hsz := HSH.out.below hbx HSH.out.lt
  have HSZ := Lib.hid hsz
  have HXZ := Lib.hid ((HX.out.below hbx (Nat.le_refl _)).wide (Nat.le_refl _) hbx.size)
  have HEZ := Lib.hid ((hE3.below hbz (Nat.le_refl _)).wide hbz.size)
  have HSOME := Lib.hid (show some? (endM ak3 x3 y3 k3) l3 from .inr (endM_some HK3.out.1))
  have HCB := Lib.hid (codeM_le (ak := ak3) (x := x3) (y := y3) HK3.out.2.1 HK3.out.2.2)
  have HCODE := Lib.hid (code_from HEZ.out HSOME.out HGZ.out)
  have HTEXT := Lib.hid (text_from HEZ.out HSOME.out HGZ.out HF3.out HCB.out.1 HCB.out.2)
  have HREF := Lib.hid (refText_from d3 (needOf (endM ak3 x3 y3 k3)).1 (needOf (endM ak3 x3 y3 k3)).2.1 HXZ.out HF3.out HCB.out.1 HCB.out.2)
  have keep2 : ∀ w', Below wz.heap.size wz w' → w'.cell? ⟨g, 0, none⟩ = some (.bool true) ∧ w'.cell? ⟨g, 1, none⟩ = some (.slice X3 l3.length d3) ∧ w'.cell? ⟨g, 2, none⟩ = some (.int .i64 (codeOf (endM ak3 x3 y3 k3))) ∧ w'.cell? ⟨g, 3, none⟩ = some (.bool (needOf (endM ak3 x3 y3 k3)).2.2) ∧ w'.cell? ⟨g, 4, none⟩ = some (.string (needOf (endM ak3 x3 y3 k3)).1) ∧ w'.cell? ⟨g, 5, none⟩ = some (.string (needOf (endM ak3 x3 y3 k3)).2.1) ∧ Below wz.heap.size wz w' := fun w' h => by
    have m := (HSZ.out.below h HSZ.out.lt).cells
    exact ⟨m.1, m.2.1, m.2.2.1, m.2.2.2.1, m.2.2.2.2.1, m.2.2.2.2.2, h⟩
  have KEEP2 := Lib.hid keep2
  clear hb1 hb2 hb3 hB1 hB2 hB3 hbz hbx hsz hwz KEEP c10 c11 c12 c13 c14 c20 c21 c22 c23 c24 c30 c31 c32 c33 c34
  clear hE3
  generalize endM ak3 x3 y3 k3 = e at *
  obtain ⟨s0, s1, s2, s3, s4, s5, _⟩ := keep2 _ (Below.refl _ _)
  clear keep2
  go_region_held3 (fun w' => w'.cell? ⟨g, 0, none⟩ = some (.bool true) ∧ w'.cell? ⟨g, 1, none⟩ = some (.slice X3 l3.length d3) ∧ w'.cell? ⟨g, 2, none⟩ = some (.int .i64 (codeOf e)) ∧ w'.cell? ⟨g, 3, none⟩ = some (.bool (needOf e).2.2) ∧ w'.cell? ⟨g, 4, none⟩ = some (.string (needOf e).1) ∧ w'.cell? ⟨g, 5, none⟩ = some (.string (needOf e).2.1) ∧ Below wz.heap.size wz w')
    (first | with_reducible exact KEEP2.out _ hb6 | with_reducible exact KEEP2.out _ (Below.refl _ _).drew)
    (first
      | (go_at_call 13; refine (HCODE.out _ (by go_split_ands; assumption)).mono ?_; rintro r w' ⟨rfl, hb6⟩)
      | (go_at_call 16; refine (HTEXT.out _ (by go_split_ands; assumption)).mono ?_; rintro r w' ⟨rfl, hb6⟩)
      | (go_at_call 17; refine (HREF.out _ (by go_split_ands; assumption)).mono ?_; rintro r w' ⟨rfl, hb6⟩)
      | (go_at_call 20; refine (first_none _).mono ?_; rintro r w' ⟨rfl, rfl⟩))
  go_wp2_with fail
  go_ret
  exact ⟨rfl, HZ.out.trans (hb6.mono HZ.out.size)⟩

set_option maxRecDepth 100000 in
set_option maxHeartbeats 4000000 in
theorem walk_nnn (x1 y1 : ByteArray) (A1 : Option Addr) (c1 : Nat) (l1 : List ByteArray) (x2 y2 : ByteArray) (A2 : Option Addr) (c2 : Nat) (l2 : List ByteArray) (x3 y3 : ByteArray) (A3 : Option Addr) (c3 : Nat) (l3 : List ByteArray) (w : World) (hG : Glob w)
    (hm1 : l1.length ≤ maxLen) (hs1 : ∀ p ∈ l1, p.size ≤ maxLen) (hr1 : RowS w 0 w.heap.size A1 l1) (hf1 : fewB l1 = true)
    (hm2 : l2.length ≤ maxLen) (hs2 : ∀ p ∈ l2, p.size ≤ maxLen) (hr2 : RowS w 0 w.heap.size A2 l2) (hf2 : fewB l2 = true)
    (hm3 : l3.length ≤ maxLen) (hs3 : ∀ p ∈ l3, p.size ≤ maxLen) (hr3 : RowS w 0 w.heap.size A3 l3) (hf3 : fewB l3 = true) :
    Calls Tryd.prog 5 #[.agg #[.bool false, .string x1, .string y1, .int .i32 0, .slice A1 l1.length c1], .agg #[.bool false, .string x2, .string y2, .int .i32 0, .slice A2 l2.length c2], .agg #[.bool false, .string x3, .string y3, .int .i32 0, .slice A3 l3.length c3]] w fun e w' => e = .returned (.bool true) ∧ Below w.heap.size w w' := by
  have HBX := Lib.hid (show Below w.heap.size w (((w.alloc (.cells #[.bool false, .string x1, .string y1, .int .i32 0, .slice A1 l1.length c1] 24)).alloc (.cells #[.bool false, .string x2, .string y2, .int .i32 0, .slice A2 l2.length c2] 24)).alloc (.cells #[.bool false, .string x3, .string y3, .int .i32 0, .slice A3 l3.length c3] 24)) from (((Below.refl _ w).alloc (Nat.le_refl _) _).alloc (by simp) _).alloc (by simp; omega) _)
  have HG := Lib.hid hG
  clear hG
  have HR1 := Lib.hid hr1
  have HS1 := Lib.hid (And.intro hm1 hs1)
  clear hr1 hm1 hs1
  have HF1 := Lib.hid hf1
  clear hf1
  have HR2 := Lib.hid hr2
  have HS2 := Lib.hid (And.intro hm2 hs2)
  clear hr2 hm2 hs2
  have HF2 := Lib.hid hf2
  clear hf2
  have HR3 := Lib.hid hr3
  have HS3 := Lib.hid (And.intro hm3 hs3)
  clear hr3 hm3 hs3
  have HF3 := Lib.hid hf3
  clear hf3
  go_enter Tryd.func5, Tryd.ntmps5
  go_wp2_with fail
  refine (live_any _ (HG.out.under HBX.out)).mono ?_
  rintro e w1 ⟨rfl, hb⟩
  have HT1 := Lib.hid (Three.start hb)
  obtain ⟨c10, c11, c12, c13, c14, c20, c21, c22, c23, c24, c30, c31, c32, c33, c34⟩ := HT1.out.cells
  clear hb HBX
  go_wp2_with fail
  refine (few_any false x1 y1 0 A1 _ c1 l1 0 w.heap.size w1 rfl HS1.out.1 HS1.out.2 (HR1.out.below HT1.out.b (Nat.le_refl _)) HT1.out.b.size).mono ?_
  rw [HF1.out]
  rintro e w2 ⟨rfl, hb⟩
  have HT2 := Lib.hid (HT1.out.below hb)
  clear hb c10 c11 c12 c13 c14 c20 c21 c22 c23 c24 c30 c31 c32 c33 c34
  obtain ⟨c10, c11, c12, c13, c14, c20, c21, c22, c23, c24, c30, c31, c32, c33, c34⟩ := HT2.out.cells
  go_wp2_with fail
  refine (few_any false x2 y2 0 A2 _ c2 l2 0 w.heap.size w2 rfl HS2.out.1 HS2.out.2 (HR2.out.below HT2.out.b (Nat.le_refl _)) HT2.out.b.size).mono ?_
  rw [HF2.out]
  rintro e w3 ⟨rfl, hb⟩
  have HT3 := Lib.hid (HT2.out.below hb)
  clear hb c10 c11 c12 c13 c14 c20 c21 c22 c23 c24 c30 c31 c32 c33 c34
  obtain ⟨c10, c11, c12, c13, c14, c20, c21, c22, c23, c24, c30, c31, c32, c33, c34⟩ := HT3.out.cells
  go_wp2_with fail
  refine (few_any false x3 y3 0 A3 _ c3 l3 0 w.heap.size w3 rfl HS3.out.1 HS3.out.2 (HR3.out.below HT3.out.b (Nat.le_refl _)) HT3.out.b.size).mono ?_
  rw [HF3.out]
  rintro e w4 ⟨rfl, hb⟩
  have HT4 := Lib.hid (HT3.out.below hb)
  clear hb c10 c11 c12 c13 c14 c20 c21 c22 c23 c24 c30 c31 c32 c33 c34
  obtain ⟨c10, c11, c12, c13, c14, c20, c21, c22, c23, c24, c30, c31, c32, c33, c34⟩ := HT4.out.cells
  go_wp2_with fail
  refine (should0_from x1 y1 A1 c1 l1 HF1.out HR1.out HT4.out.b).mono ?_
  rintro e w5 ⟨X1, d1, rfl, hb, _⟩
  have HT5 := Lib.hid (HT4.out.below hb)
  clear hb c10 c11 c12 c13 c14 c20 c21 c22 c23 c24 c30 c31 c32 c33 c34
  go_upto_region 4 with fail
  obtain ⟨w6, hw6⟩ : ∃ w6, w5.alloc (.cells #[.bool false, .slice X1 0 d1, .int .i64 0, .bool false, .string ⟨#[]⟩, .string ⟨#[]⟩] 33) = w6 := ⟨_, rfl⟩
  rw [hw6]
  have hb6 : Below w5.heap.size w5 w6 := by rw [← hw6]; exact (Below.refl _ _).alloc (Nat.le_refl _) _
  have hsh : ShouldAt w6 w5.heap.size false X1 0 d1 0 false ⟨#[]⟩ ⟨#[]⟩ := by rw [← hw6]; exact heap_alloc_new _ _
  have hg3 : w.heap.size + 1 + 1 < w5.heap.size := HT5.out.m3.lt
  have HT6 := Lib.hid (HT5.out.below hb6)
  clear hw6 hb6
  generalize w5.heap.size = g at *
  obtain ⟨c10, c11, c12, c13, c14, c20, c21, c22, c23, c24, c30, c31, c32, c33, c34⟩ := HT6.out.cells
  obtain ⟨s0, s1, s2, s3, s4, s5⟩ := hsh.cells
  have HSH := Lib.hid hsh
  clear hsh
  go_wp2_with fail
  refine (should0_from x2 y2 A2 c2 l2 HF2.out HR2.out HT6.out.b).mono ?_
  rintro e w7 ⟨X2, d2, rfl, hb, _⟩
  have hsh := HSH.out.below hb HSH.out.lt
  have HT7 := Lib.hid (HT6.out.below hb)
  clear c10 c11 c12 c13 c14 c20 c21 c22 c23 c24 c30 c31 c32 c33 c34 s0 s1 s2 s3 s4 s5
  obtain ⟨s0, s1, s2, s3, s4, s5⟩ := hsh.cells
  have g0 := hsh.frozen 0
  have g1 := hsh.frozen 1
  have g2 := hsh.frozen 2
  have g3 := hsh.frozen 3
  have g4 := hsh.frozen 4
  have g5 := hsh.frozen 5
  have HSHN := Lib.hid hsh
  have HBN := Lib.hid (And.intro hb (And.intro HSH.out.lt HT6.out.b.size))
  clear hsh hb HSH
  go_upto_region 6 with fail
  obtain ⟨w8, hw⟩ : ∃ wy, ((((((w7.setCell ⟨g, 0, none⟩ (.bool false)).setCell ⟨g, 1, none⟩ (.slice X2 0 d2)).setCell ⟨g, 2, none⟩ (.int .i64 0)).setCell ⟨g, 3, none⟩ (.bool false)).setCell ⟨g, 4, none⟩ (.string ⟨#[]⟩)).setCell ⟨g, 5, none⟩ (.string ⟨#[]⟩)) = wy := ⟨_, rfl⟩
  rw [hw]
  have hsh : ShouldAt w8 g false X2 0 d2 0 false ⟨#[]⟩ ⟨#[]⟩ := by rw [← hw]; exact set6 HSHN.out _ _ _ _ _ _
  have HT8 := Lib.hid (show Three w w8 false x1 y1 0 A1 l1.length c1 false x2 y2 0 A2 l2.length c2 false x3 y3 0 A3 l3.length c3 from by rw [← hw]; exact Three.set6 HT7.out hg3 _ _ _ _ _ _)
  clear hw HSHN HBN s0 s1 s2 s3 s4 s5 g0 g1 g2 g3 g4 g5
  obtain ⟨c10, c11, c12, c13, c14, c20, c21, c22, c23, c24, c30, c31, c32, c33, c34⟩ := HT8.out.cells
  obtain ⟨s0, s1, s2, s3, s4, s5⟩ := hsh.cells
  have HSH := Lib.hid hsh
  clear hsh
  go_wp2_with fail
  refine (should0_from x3 y3 A3 c3 l3 HF3.out HR3.out HT8.out.b).mono ?_
  rintro e w9 ⟨X3, d3, rfl, hb, _⟩
  have hsh := HSH.out.below hb HSH.out.lt
  have HT9 := Lib.hid (HT8.out.below hb)
  clear c10 c11 c12 c13 c14 c20 c21 c22 c23 c24 c30 c31 c32 c33 c34 s0 s1 s2 s3 s4 s5
  obtain ⟨s0, s1, s2, s3, s4, s5⟩ := hsh.cells
  have g0 := hsh.frozen 0
  have g1 := hsh.frozen 1
  have g2 := hsh.frozen 2
  have g3 := hsh.frozen 3
  have g4 := hsh.frozen 4
  have g5 := hsh.frozen 5
  have HSHN := Lib.hid hsh
  have HBN := Lib.hid (And.intro hb (And.intro HSH.out.lt HT8.out.b.size))
  clear hsh hb HSH
  go_upto_region 8 with fail
  obtain ⟨w10, hw⟩ : ∃ wy, ((((((w9.setCell ⟨g, 0, none⟩ (.bool false)).setCell ⟨g, 1, none⟩ (.slice X3 0 d3)).setCell ⟨g, 2, none⟩ (.int .i64 0)).setCell ⟨g, 3, none⟩ (.bool false)).setCell ⟨g, 4, none⟩ (.string ⟨#[]⟩)).setCell ⟨g, 5, none⟩ (.string ⟨#[]⟩)) = wy := ⟨_, rfl⟩
  rw [hw]
  have hsh : ShouldAt w10 g false X3 0 d3 0 false ⟨#[]⟩ ⟨#[]⟩ := by rw [← hw]; exact set6 HSHN.out _ _ _ _ _ _
  have HT10 := Lib.hid (show Three w w10 false x1 y1 0 A1 l1.length c1 false x2 y2 0 A2 l2.length c2 false x3 y3 0 A3 l3.length c3 from by rw [← hw]; exact Three.set6 HT9.out hg3 _ _ _ _ _ _)
  clear hw HSHN HBN s0 s1 s2 s3 s4 s5 g0 g1 g2 g3 g4 g5
  have HSH := Lib.hid hsh
  clear hsh
  have HR1X := Lib.hid ((HR1.out.below HT10.out.b (Nat.le_refl _)).wide (Nat.le_refl _) HT10.out.b.size)
  have HR2X := Lib.hid ((HR2.out.below HT10.out.b (Nat.le_refl _)).wide (Nat.le_refl _) HT10.out.b.size)
  have HR3X := Lib.hid ((HR3.out.below HT10.out.b (Nat.le_refl _)).wide (Nat.le_refl _) HT10.out.b.size)
  have keep : ∀ w', Below w10.heap.size w10 w' → w'.cell? ⟨w.heap.size, 0, none⟩ = some (.bool false) ∧ w'.cell? ⟨w.heap.size, 1, none⟩ = some (.string x1) ∧ w'.cell? ⟨w.heap.size, 2, none⟩ = some (.string y1) ∧ w'.cell? ⟨w.heap.size, 3, none⟩ = some (.int .i32 0) ∧ w'.cell? ⟨w.heap.size, 4, none⟩ = some (.slice A1 l1.length c1) ∧ w'.cell? ⟨w.heap.size + 1, 0, none⟩ = some (.bool false) ∧ w'.cell? ⟨w.heap.size + 1, 1, none⟩ = some (.string x2) ∧ w'.cell? ⟨w.heap.size + 1, 2, none⟩ = some (.string y2) ∧ w'.cell? ⟨w.heap.size + 1, 3, none⟩ = some (.int .i32 0) ∧ w'.cell? ⟨w.heap.size + 1, 4, none⟩ = some (.slice A2 l2.length c2) ∧ w'.cell? ⟨w.heap.size + 1 + 1, 0, none⟩ = some (.bool false) ∧ w'.cell? ⟨w.heap.size + 1 + 1, 1, none⟩ = some (.string x3) ∧ w'.cell? ⟨w.heap.size + 1 + 1, 2, none⟩ = some (.string y3) ∧ w'.cell? ⟨w.heap.size + 1 + 1, 3, none⟩ = some (.int .i32 0) ∧ w'.cell? ⟨w.heap.size + 1 + 1, 4, none⟩ = some (.slice A3 l3.length c3) ∧ Below w10.heap.size w10 w' := fun w' h => by
    have t := (HT10.out.below h).cells
    exact ⟨t.1, t.2.1, t.2.2.1, t.2.2.2.1, t.2.2.2.2.1, t.2.2.2.2.2.1, t.2.2.2.2.2.2.1, t.2.2.2.2.2.2.2.1, t.2.2.2.2.2.2.2.2.1, t.2.2.2.2.2.2.2.2.2.1, t.2.2.2.2.2.2.2.2.2.2.1, t.2.2.2.2.2.2.2.2.2.2.2.1, t.2.2.2.2.2.2.2.2.2.2.2.2.1, t.2.2.2.2.2.2.2.2.2.2.2.2.2.1, t.2.2.2.2.2.2.2.2.2.2.2.2.2.2, h⟩
  have KEEP := Lib.hid keep
  obtain ⟨c10, c11, c12, c13, c14, c20, c21, c22, c23, c24, c30, c31, c32, c33, c34, _⟩ := keep _ (Below.refl _ _)
  clear keep
  go_region_held3 (fun w' => w'.cell? ⟨w.heap.size, 0, none⟩ = some (.bool false) ∧ w'.cell? ⟨w.heap.size, 1, none⟩ = some (.string x1) ∧ w'.cell? ⟨w.heap.size, 2, none⟩ = some (.string y1) ∧ w'.cell? ⟨w.heap.size, 3, none⟩ = some (.int .i32 0) ∧ w'.cell? ⟨w.heap.size, 4, none⟩ = some (.slice A1 l1.length c1) ∧ w'.cell? ⟨w.heap.size + 1, 0, none⟩ = some (.bool false) ∧ w'.cell? ⟨w.heap.size + 1, 1, none⟩ = some (.string x2) ∧ w'.cell? ⟨w.heap.size + 1, 2, none⟩ = some (.string y2) ∧ w'.cell? ⟨w.heap.size + 1, 3, none⟩ = some (.int .i32 0) ∧ w'.cell? ⟨w.heap.size + 1, 4, none⟩ = some (.slice A2 l2.length c2) ∧ w'.cell? ⟨w.heap.size + 1 + 1, 0, none⟩ = some (.bool false) ∧ w'.cell? ⟨w.heap.size + 1 + 1, 1, none⟩ = some (.string x3) ∧ w'.cell? ⟨w.heap.size + 1 + 1, 2, none⟩ = some (.string y3) ∧ w'.cell? ⟨w.heap.size + 1 + 1, 3, none⟩ = some (.int .i32 0) ∧ w'.cell? ⟨w.heap.size + 1 + 1, 4, none⟩ = some (.slice A3 l3.length c3) ∧ Below w10.heap.size w10 w')
    (first | with_reducible exact KEEP.out _ (Below.alloc hB3 (Below.size hB3) _) | with_reducible exact KEEP.out _ hB3 | with_reducible exact KEEP.out _ hB2 | with_reducible exact KEEP.out _ hB1 | with_reducible exact KEEP.out _ (Below.refl _ _).drew)
    (first
      | (go_at_call 10; (with_reducible refine (make0_from x1 y1 A1 c1 l1 HS1.out.1 HR1X.out (by go_split_ands; assumption)).mono ?_); rintro r u1 ⟨rfl, hb1, hB1⟩)
      | (go_at_call 10; (with_reducible refine (make0_from x2 y2 A2 c2 l2 HS2.out.1 HR2X.out (by go_split_ands; assumption)).mono ?_); rintro r u2 ⟨rfl, hb2, hB2⟩)
      | (go_at_call 10; (with_reducible refine (make0_from x3 y3 A3 c3 l3 HS3.out.1 HR3X.out (by go_split_ands; assumption)).mono ?_); rintro r u3 ⟨rfl, hb3, hB3⟩)
      | (go_at_call 20; refine (first_d _ _ (heap_alloc_new _ _)).mono ?_; rintro r u4 ⟨rfl, rfl⟩))
  go_upto_region 9 with fail
  obtain ⟨wz, hwz⟩ : ∃ wz, u3.alloc (.cells #[.nilIface, .nilIface, .nilIface, .nilIface] 27) = wz := ⟨_, rfl⟩
  rw [hwz]
  have hbz : Below u3.heap.size u3 wz := by rw [← hwz]; exact (Below.refl _ _).alloc (Nat.le_refl _) _
  have hbx := hB3.trans (hbz.mono hB3.size)
  have HZ := Lib.hid (HT10.out.b.trans (hbx.mono HT10.out.b.size))
  have HGZ := Lib.hid (HG.out.under HZ.out)
  have hsz := HSH.out.below hbx HSH.out.lt
  have HSZ := Lib.hid hsz
  have HCODE := Lib.hid (code0_from (W := wz))
  have HTEXT := Lib.hid (text0_from (W := wz))
  have HREF := Lib.hid (refText0_from (W := wz) X3 0 d3 0 false ⟨#[]⟩ ⟨#[]⟩)
  have keep2 : ∀ w', Below wz.heap.size wz w' → w'.cell? ⟨g, 0, none⟩ = some (.bool false) ∧ w'.cell? ⟨g, 1, none⟩ = some (.slice X3 0 d3) ∧ w'.cell? ⟨g, 2, none⟩ = some (.int .i64 0) ∧ w'.cell? ⟨g, 3, none⟩ = some (.bool false) ∧ w'.cell? ⟨g, 4, none⟩ = some (.string ⟨#[]⟩) ∧ w'.cell? ⟨g, 5, none⟩ = some (.string ⟨#[]⟩) ∧ Below wz.heap.size wz w' := fun w' h => by
    have m := (HSZ.out.below h HSZ.out.lt).cells
    exact ⟨m.1, m.2.1, m.2.2.1, m.2.2.2.1, m.2.2.2.2.1, m.2.2.2.2.2, h⟩
  have KEEP2 := Lib.hid keep2
  clear hb1 hb2 hb3 hB1 hB2 hB3 hbz hbx hsz hwz KEEP c10 c11 c12 c13 c14 c20 c21 c22 c23 c24 c30 c31 c32 c33 c34
  obtain ⟨s0, s1, s2, s3, s4, s5, _⟩ := keep2 _ (Below.refl _ _)
  clear keep2
  go_region_held3 (fun w' => w'.cell? ⟨g, 0, none⟩ = some (.bool false) ∧ w'.cell? ⟨g, 1, none⟩ = some (.slice X3 0 d3) ∧ w'.cell? ⟨g, 2, none⟩ = some (.int .i64 0) ∧ w'.cell? ⟨g, 3, none⟩ = some (.bool false) ∧ w'.cell? ⟨g, 4, none⟩ = some (.string ⟨#[]⟩) ∧ w'.cell? ⟨g, 5, none⟩ = some (.string ⟨#[]⟩) ∧ Below wz.heap.size wz w')
    (first | with_reducible exact KEEP2.out _ hb6 | with_reducible exact KEEP2.out _ (Below.refl _ _).drew)
    (first
      | (go_at_call 13; refine (HCODE.out _ (by go_split_ands; assumption)).mono ?_; rintro r w' ⟨rfl, hb6⟩)
      | (go_at_call 16; refine (HTEXT.out _ (by go_split_ands; assumption)).mono ?_; rintro r w' ⟨rfl, hb6⟩)
      | (go_at_call 17; refine (HREF.out _ (by go_split_ands; assumption)).mono ?_; rintro r w' ⟨rfl, hb6⟩)
      | (go_at_call 20; refine (first_none _).mono ?_; rintro r w' ⟨rfl, rfl⟩))
  go_wp2_with fail
  go_ret
  exact ⟨rfl, HZ.out.trans (hb6.mono HZ.out.size)⟩

theorem not_some {ak : Bool} {k : Int} (h : ¬ (ak = true ∨ k ≠ 0)) : ak = false ∧ k = 0 := by
  rw [not_or] at h
  exact ⟨by simpa using h.1, by simpa using h.2⟩
theorem walk (ak1 : Bool) (x1 y1 : ByteArray) (k1 : Int) (A1 : Option Addr) (c1 : Nat) (l1 : List ByteArray) (ak2 : Bool) (x2 y2 : ByteArray) (k2 : Int) (A2 : Option Addr) (c2 : Nat) (l2 : List ByteArray) (ak3 : Bool) (x3 y3 : ByteArray) (k3 : Int) (A3 : Option Addr) (c3 : Nat) (l3 : List ByteArray) (w : World) (hG : Glob w)
    (p1 : -2147483648 ≤ k1) (q1 : k1 ≤ 2147483647) (hm1 : l1.length ≤ maxLen) (hs1 : ∀ p ∈ l1, p.size ≤ maxLen) (hr1 : RowS w 0 w.heap.size A1 l1)
    (p2 : -2147483648 ≤ k2) (q2 : k2 ≤ 2147483647) (hm2 : l2.length ≤ maxLen) (hs2 : ∀ p ∈ l2, p.size ≤ maxLen) (hr2 : RowS w 0 w.heap.size A2 l2)
    (p3 : -2147483648 ≤ k3) (q3 : k3 ≤ 2147483647) (hm3 : l3.length ≤ maxLen) (hs3 : ∀ p ∈ l3, p.size ≤ maxLen) (hr3 : RowS w 0 w.heap.size A3 l3) :
    Calls Tryd.prog 5 #[.agg #[.bool ak1, .string x1, .string y1, .int .i32 k1, .slice A1 l1.length c1], .agg #[.bool ak2, .string x2, .string y2, .int .i32 k2, .slice A2 l2.length c2], .agg #[.bool ak3, .string x3, .string y3, .int .i32 k3, .slice A3 l3.length c3]] w fun e w' => e = .returned (.bool true) ∧ Below w.heap.size w w' := by
  by_cases hf1 : fewB l1 = true
  case neg => exact walk_many1 ak1 k1 x1 y1 A1 c1 l1 ak2 k2 x2 y2 A2 c2 l2 ak3 k3 x3 y3 A3 c3 l3 w hG hm1 hs1 hr1 (by simpa using hf1) hm2 hs2 hr2 hm3 hs3 hr3
  by_cases hf2 : fewB l2 = true
  case neg => exact walk_many2 ak1 k1 x1 y1 A1 c1 l1 ak2 k2 x2 y2 A2 c2 l2 ak3 k3 x3 y3 A3 c3 l3 w hG hm1 hs1 hr1 hf1 hm2 hs2 hr2 (by simpa using hf2) hm3 hs3 hr3
  by_cases hf3 : fewB l3 = true
  case neg => exact walk_many3 ak1 k1 x1 y1 A1 c1 l1 ak2 k2 x2 y2 A2 c2 l2 ak3 k3 x3 y3 A3 c3 l3 w hG hm1 hs1 hr1 hf1 hm2 hs2 hr2 hf2 hm3 hs3 hr3 (by simpa using hf3)
  by_cases hk1 : ak1 = true ∨ k1 ≠ 0
  all_goals by_cases hk2 : ak2 = true ∨ k2 ≠ 0
  all_goals by_cases hk3 : ak3 = true ∨ k3 ≠ 0
  · exact walk_sss ak1 k1 x1 y1 A1 c1 l1 ak2 k2 x2 y2 A2 c2 l2 ak3 k3 x3 y3 A3 c3 l3 w hG hm1 hs1 hr1 hf1 hk1 p1 q1 hm2 hs2 hr2 hf2 hk2 p2 q2 hm3 hs3 hr3 hf3 hk3 p3 q3 
  · obtain ⟨rfl, rfl⟩ := not_some hk3
    exact walk_ssn ak1 k1 x1 y1 A1 c1 l1 ak2 k2 x2 y2 A2 c2 l2 x3 y3 A3 c3 l3 w hG hm1 hs1 hr1 hf1 hk1 p1 q1 hm2 hs2 hr2 hf2 hk2 p2 q2 hm3 hs3 hr3 hf3 
  · obtain ⟨rfl, rfl⟩ := not_some hk2
    exact walk_sns ak1 k1 x1 y1 A1 c1 l1 x2 y2 A2 c2 l2 ak3 k3 x3 y3 A3 c3 l3 w hG hm1 hs1 hr1 hf1 hk1 p1 q1 hm2 hs2 hr2 hf2 hm3 hs3 hr3 hf3 hk3 p3 q3 
  · obtain ⟨rfl, rfl⟩ := not_some hk2
    obtain ⟨rfl, rfl⟩ := not_some hk3
    exact walk_snn ak1 k1 x1 y1 A1 c1 l1 x2 y2 A2 c2 l2 x3 y3 A3 c3 l3 w hG hm1 hs1 hr1 hf1 hk1 p1 q1 hm2 hs2 hr2 hf2 hm3 hs3 hr3 hf3 
  · obtain ⟨rfl, rfl⟩ := not_some hk1
    exact walk_nss x1 y1 A1 c1 l1 ak2 k2 x2 y2 A2 c2 l2 ak3 k3 x3 y3 A3 c3 l3 w hG hm1 hs1 hr1 hf1 hm2 hs2 hr2 hf2 hk2 p2 q2 hm3 hs3 hr3 hf3 hk3 p3 q3 
  · obtain ⟨rfl, rfl⟩ := not_some hk1
    obtain ⟨rfl, rfl⟩ := not_some hk3
    exact walk_nsn x1 y1 A1 c1 l1 ak2 k2 x2 y2 A2 c2 l2 x3 y3 A3 c3 l3 w hG hm1 hs1 hr1 hf1 hm2 hs2 hr2 hf2 hk2 p2 q2 hm3 hs3 hr3 hf3 
  · obtain ⟨rfl, rfl⟩ := not_some hk1
    obtain ⟨rfl, rfl⟩ := not_some hk2
    exact walk_nns x1 y1 A1 c1 l1 x2 y2 A2 c2 l2 ak3 k3 x3 y3 A3 c3 l3 w hG hm1 hs1 hr1 hf1 hm2 hs2 hr2 hf2 hm3 hs3 hr3 hf3 hk3 p3 q3 
  · obtain ⟨rfl, rfl⟩ := not_some hk1
    obtain ⟨rfl, rfl⟩ := not_some hk2
    obtain ⟨rfl, rfl⟩ := not_some hk3
    exact walk_nnn x1 y1 A1 c1 l1 x2 y2 A2 c2 l2 x3 y3 A3 c3 l3 w hG hm1 hs1 hr1 hf1 hm2 hs2 hr2 hf2 hm3 hs3 hr3 hf3 
end Go.Proofs.YtdlmnhpmdidkeaaDoor.faultFirst
