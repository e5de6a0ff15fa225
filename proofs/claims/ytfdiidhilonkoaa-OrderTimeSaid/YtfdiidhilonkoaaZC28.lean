import Derived.Test.YtfdiidhilonkoaaZC27
set_option linter.unusedVariables false
/-
  Package order: restOf.
-/
namespace Go.Proofs.Ytfdiidhilonkoaa
open Go.RowKit

theorem region_ex4n {P : Program} {c : Code} {Q : Exit → Act → World → Prop} {a : Act} {w : World} {f : Nat → Nat → Nat → Nat → Act} {R : Nat → Nat → Nat → Nat → World → Prop}
    (h1 : c.wp P (Exit.then (fun a' w' => ∃ A n c d, a' = f A n c d ∧ R A n c d w') fun _ _ _ => False) a w) (h2 : ∀ A n c d w', R A n c d w' → Q .normal (f A n c d) w') : c.wp P Q a w :=
  Code.wp_mono (fun e a w h => by
    cases e with
    | normal =>
      obtain ⟨A, n, c, d, rfl, hr⟩ := (id h : ∃ A n c d, a = f A n c d ∧ R A n c d w)
      exact h2 _ _ _ _ _ hr
    | _ => exact (id h : False).elim) h1
def LBox (b : Nat) (A : Option Addr) (n c : Nat) (w : World) : Prop := w.heap[b]? = some (.cells #[.slice A n c] 22 (0, 0))
/-- What stands when all is made. -/
def OutR (w : World) (A : Option Addr) (c : Nat) (ms : List MZ) (q1 q2 a r : Nat) (w' : World) : Prop :=
  ∃ (L : LayO) (e1 e2 : Nat → Int), (L.q1 = q1 ∧ L.q2 = q2 ∧ L.a = a ∧ L.r = r ∧ L.d0 = w.heap.size + 1 + 1 ∧ L.D = w.heap.size + 1) ∧ RestN w w' L A c ms e1 e2 0 ∧
    PermO (upTo ms.length 0) e1 0 ms.length ∧ SortK (fun v => (atD (dz ms) v.toNat).end_) e1 0 ms.length ∧ PermO (upTo ms.length 0) e2 0 ms.length ∧ SortK (fun v => ((atD (dz ms) v.toNat).began : Int)) e2 0 ms.length
theorem restN_new {w w1 w4 w6 wa wz W : World} {A : Option Addr} {c : Nat} {ms : List MZ} {x1 y1 z1 x2 y2 z2 ga : Nat} {e1 e2 : Nat → Int}
    (hw : W = wz.alloc (.cells #[.slice A ms.length c, .func (.func 30) #[] #[.pointer (some ⟨w.heap.size + 1 + 1, 0, none⟩)], .func (.func 31) #[] #[.pointer (some ⟨w.heap.size + 1 + 1, 0, none⟩)], .pointer (some ⟨z1, 0, none⟩), .pointer (some ⟨z2, 0, none⟩), .slice (some ⟨ga, 0, none⟩) ms.length ms.length] 45) ∨ W = (wz.alloc (.cells #[.slice A ms.length c, .func (.func 30) #[] #[.pointer (some ⟨w.heap.size + 1 + 1, 0, none⟩)], .func (.func 31) #[] #[.pointer (some ⟨w.heap.size + 1 + 1, 0, none⟩)], .pointer (some ⟨z1, 0, none⟩), .pointer (some ⟨z2, 0, none⟩), .slice (some ⟨ga, 0, none⟩) ms.length ms.length] 45)).drew)
    (hb1 : Below w.heap.size w w1) (hs : w1.heap.size = w.heap.size + 1 + 1 + 1) (hD1 : w1.heap[w.heap.size + 1]? = some (.cells (madeCells #[.bool false] ms.length) 4 (0, 0))) (hd1 : w1.heap[w.heap.size + 1 + 1]? = some (.cells #[.slice (some ⟨w.heap.size + 1, 0, none⟩) ms.length ms.length] 55 (0, 0)))
    (hBB : Below w1.heap.size w1 wz) (HB1 : Below w4.heap.size w4 wz) (HB2 : Below w6.heap.size w6 wz) (HBa : Below wa.heap.size wa wz)
    (hbx1 : BoxRow z1 x1 y1 ms.length (.func (.func 30) #[] #[.pointer (some ⟨w.heap.size + 1 + 1, 0, none⟩)]) w4) (hpl1 : IntsAt w4 x1 ms.length e1) (hnx1 : IntsAt w4 y1 ms.length (upTo ms.length 1)) (hpm1 : PermO (upTo ms.length 0) e1 0 ms.length) (hso1 : SortK (fun v => (atD (dz ms) v.toNat).end_) e1 0 ms.length)
    (hbx2 : BoxRow z2 x2 y2 ms.length (.func (.func 30) #[] #[.pointer (some ⟨w.heap.size + 1 + 1, 0, none⟩)]) w6) (hpl2 : IntsAt w6 x2 ms.length e2) (hnx2 : IntsAt w6 y2 ms.length (upTo ms.length 1)) (hpm2 : PermO (upTo ms.length 0) e2 0 ms.length) (hso2 : SortK (fun v => ((atD (dz ms) v.toNat).began : Int)) e2 0 ms.length)
    (hma : IntsAt wa ga ms.length fun _ => 0) (hlo : w1.heap.size ≤ x1 ∧ w1.heap.size ≤ y1 ∧ w1.heap.size ≤ z1 ∧ w1.heap.size ≤ x2 ∧ w1.heap.size ≤ y2 ∧ w1.heap.size ≤ z2 ∧ w1.heap.size ≤ ga)
    (n1 : y1 ≠ x1 ∧ y1 ≠ z1 ∧ y1 ≠ x2 ∧ y1 ≠ z2 ∧ y1 ≠ y2 ∧ y1 ≠ ga) (n2 : y2 ≠ x1 ∧ y2 ≠ z1 ∧ y2 ≠ x2 ∧ y2 ≠ z2 ∧ y2 ≠ ga) (n3 : ga ≠ x1 ∧ ga ≠ z1 ∧ ga ≠ x2 ∧ ga ≠ z2) {r : Nat} (hrz : r = wz.heap.size) : OutR w A c ms z1 z2 ga r W := by
  subst hrz
  have hz : Below wz.heap.size wz W := by rcases hw with rfl | rfl; exact (Below.refl _ _).alloc (Nat.le_refl _) _; exact ((Below.refl _ _).alloc (Nat.le_refl _) _).drew
  have hbox : W.heap[wz.heap.size]? = some (.cells #[.slice A ms.length c, .func (.func 30) #[] #[.pointer (some ⟨w.heap.size + 1 + 1, 0, none⟩)], .func (.func 31) #[] #[.pointer (some ⟨w.heap.size + 1 + 1, 0, none⟩)], .pointer (some ⟨z1, 0, none⟩), .pointer (some ⟨z2, 0, none⟩), .slice (some ⟨ga, 0, none⟩) ms.length ms.length] 45 (0, 0)) := by
    rcases hw with rfl | rfl
    · exact heap_alloc_new wz _
    · exact heap_alloc_new wz _
  have l1 := HB1.size
  have l2 := HB2.size
  have l3 := HBa.size
  have l4 := hBB.size
  have k1 := hpl1.lt
  have k2 := hnx1.lt
  have k3 := lt_of_heap hbx1
  have k4 := hpl2.lt
  have k5 := hnx2.lt
  have k6 := lt_of_heap hbx2
  have k7 := hma.lt
  have t1 : ∀ g, g < w4.heap.size → W.heap[g]? = w4.heap[g]? := fun g hg => (hz.block g (by omega)).trans (HB1.block g hg)
  have t2 : ∀ g, g < w6.heap.size → W.heap[g]? = w6.heap[g]? := fun g hg => (hz.block g (by omega)).trans (HB2.block g hg)
  have t3 : ∀ g, g < wa.heap.size → W.heap[g]? = wa.heap[g]? := fun g hg => (hz.block g (by omega)).trans (HBa.block g hg)
  have t4 : ∀ g, g < w1.heap.size → W.heap[g]? = w1.heap[g]? := fun g hg => (hz.block g (by omega)).trans (hBB.block g hg)
  refine ⟨⟨wz.heap.size, w.heap.size + 1 + 1, w.heap.size + 1, z1, x1, y1, z2, x2, y2, ga⟩, e1, e2, ⟨rfl, rfl, rfl, rfl, rfl, rfl⟩, ⟨?_, hb1.trans ((hBB.trans (hz.mono l4)).mono hb1.size), hbox, ?_, ?_, ?_, hpl1.keep (t1 _ k1), hnx1.keep (t1 _ k2), ?_, hpl2.keep (t2 _ k4), hnx2.keep (t2 _ k5), ?_⟩, hpm1, hso1, hpm2, hso2⟩
  · refine ⟨⟨?_, ?_, ?_, ?_, ?_, ?_, ?_⟩, ⟨?_, ?_, ?_, ?_, ?_, ?_, ?_⟩, ⟨?_, ?_, ?_, ?_, ?_, ?_, ?_⟩, ⟨?_, ?_, ?_, ?_, ?_, ?_, ?_⟩, ⟨?_, ?_, ?_, ?_, ?_, ?_⟩⟩
    all_goals (simp only; first | exact n1.1 | exact n1.2.1 | exact n1.2.2.1 | exact n1.2.2.2.1 | exact n1.2.2.2.2.1 | exact n1.2.2.2.2.2 | exact n2.1 | exact n2.2.1 | exact n2.2.2.1 | exact n2.2.2.2.1 | exact n2.2.2.2.2 | exact n3.1 | exact n3.2.1 | exact n3.2.2.1 | exact n3.2.2.2 | (clear n1 n2 n3; omega))
  · exact (t4 (w.heap.size + 1 + 1) (by omega)).trans hd1
  · exact madeBools ((t4 (w.heap.size + 1) (by omega)).trans hD1)
  · exact (t1 _ k3).trans hbx1
  · exact (t2 _ k6).trans hbx2
  · refine (hma.keep (t3 _ k7)).eq fun i _ => ?_
    unfold upM
    rw [if_neg (by omega)]
set_option maxRecDepth 100000 in
set_option maxHeartbeats 16000000 in
theorem dRestOf_any (ms : List MZ) (A : Option Addr) (c : Nat) (w : World) (hr : ChZ w w.heap.size A c ms) (hf : ∀ x ∈ ms, fewMZ x) (hl : ms.length ≤ 1000) :
    Calls Try.prog 22 #[.slice A ms.length c] w fun r w' => ∃ L p1 p2, r = .returned (.pointer (some ⟨L.r, 0, none⟩)) ∧ RestE w' L w.heap.size A c ms (fun _ => false) p1 p2 ∧ L.Ok w.heap.size ∧ Below w.heap.size w w' := by
  have hmkb := mkBools ms.length (by omega)
  have hmk := mkInts ms.length (by omega)
  have q9 : (ms.length : Int) ≤ 1000 := by omega
  obtain ⟨w1, hw1⟩ : ∃ y, (((w.alloc (.cells #[.slice A ms.length c] 22)).alloc (.cells (madeCells #[.bool false] ms.length) 4)).alloc (.cells #[.slice (some ⟨w.heap.size + 1, 0, none⟩) ms.length ms.length] 55)) = y := ⟨_, rfl⟩
  have s1 : (w.alloc (.cells #[.slice A ms.length c] 22)).heap.size = w.heap.size + 1 := by simp
  have s2 : ((w.alloc (.cells #[.slice A ms.length c] 22)).alloc (.cells (madeCells #[.bool false] ms.length) 4)).heap.size = w.heap.size + 1 + 1 := by simp
  have s3 : w1.heap.size = w.heap.size + 1 + 1 + 1 := by rw [← hw1]; simp
  have hb1 : Below w.heap.size w w1 := by rw [← hw1]; exact (((Below.refl _ _).alloc (Nat.le_refl _) _).alloc (by simp) _).alloc (by simp; omega) _
  have hD1 : w1.heap[w.heap.size + 1]? = some (.cells (madeCells #[.bool false] ms.length) 4 (0, 0)) := by
    rw [← hw1]
    have := heap_alloc_new (w.alloc (.cells #[.slice A ms.length c] 22)) (.cells (madeCells #[.bool false] ms.length) 4)
    rw [s1] at this
    exact heap_allocs this _
  have hd1 : w1.heap[w.heap.size + 1 + 1]? = some (.cells #[.slice (some ⟨w.heap.size + 1, 0, none⟩) ms.length ms.length] 55 (0, 0)) := by
    rw [← hw1]
    have := heap_alloc_new ((w.alloc (.cells #[.slice A ms.length c] 22)).alloc (.cells (madeCells #[.bool false] ms.length) 4)) (.cells #[.slice (some ⟨w.heap.size + 1, 0, none⟩) ms.length ms.length] 55)
    rwa [s2] at this
  have hL1 : LBox w.heap.size A ms.length c w1 := by
    unfold LBox
    rw [← hw1]
    exact heap_allocs (heap_allocs (heap_alloc_new w _) _) _
  have HLb := Lib.hid (fun (W : World) (hW : Below w1.heap.size w1 W) => show LBox w.heap.size A ms.length c W from heap_below hL1 hW (lt_of_heap hL1))
  have HCl := Lib.hid (fun (W : World) (h : LBox w.heap.size A ms.length c W) => show W.cell? ⟨w.heap.size, 0, none⟩ = some (.slice A ms.length c) from cell_of_row W _ 0 _ _ _ h)
  have hcap : ∀ W : World, Below w1.heap.size w1 W → CapD W w.heap.size A c ms := fun W hW => ⟨HCl.out W (HLb.out W hW), ((hr.2.2.2.1.below hb1 (Nat.le_refl _)).below (hW.mono hb1.size) (Nat.le_refl _)).wide (Nat.le_refl _) (Nat.le_trans hb1.size hW.size)⟩
  have HR1 := Lib.hid (fun (W : World) (hW : Below w1.heap.size w1 W) => dRowOf_any ms.length hl 30 33 #[.pointer (some ⟨w.heap.size + 1 + 1, 0, none⟩)] #[.pointer (some ⟨w.heap.size, 0, none⟩)] (fun v => (atD (dz ms) v.toNat).end_) (fun x y => cmpZ (atD (dz ms) x.toNat).end_ (atD (dz ms) y.toNat).end_) W (fun _ _ => cmpZ_neg _ _) (enters_of Try.func33 (by kernel_rfl) rfl) (fun V x y hx hy hV => by
    obtain ⟨i, rfl⟩ : ∃ i : Nat, x = (i : Int) := ⟨x.toNat, by omega⟩
    obtain ⟨j, rfl⟩ : ∃ j : Nat, y = (j : Int) := ⟨y.toNat, by omega⟩
    have h1 : i < ms.length := by omega
    have h2 : j < ms.length := by omega
    simp only [Int.toNat_natCast]
    rw [dz_at h1, dz_at h2]
    exact cmpEnd_any ms A c w.heap.size V (hcap V (hW.trans (hV.mono hW.size))) i j h1 h2))
  have HR2 := Lib.hid (fun (W : World) (hW : Below w1.heap.size w1 W) => dRowOf_any ms.length hl 30 35 #[.pointer (some ⟨w.heap.size + 1 + 1, 0, none⟩)] #[.pointer (some ⟨w.heap.size, 0, none⟩)] (fun v => ((atD (dz ms) v.toNat).began : Int)) (fun x y => cmpZ (atD (dz ms) x.toNat).began (atD (dz ms) y.toNat).began) W (fun _ _ => cmpZ_neg _ _) (enters_of Try.func35 (by kernel_rfl) rfl) (fun V x y hx hy hV => by
    obtain ⟨i, rfl⟩ : ∃ i : Nat, x = (i : Int) := ⟨x.toNat, by omega⟩
    obtain ⟨j, rfl⟩ : ∃ j : Nat, y = (j : Int) := ⟨y.toNat, by omega⟩
    have h1 : i < ms.length := by omega
    have h2 : j < ms.length := by omega
    simp only [Int.toNat_natCast]
    rw [dz_at h1, dz_at h2]
    exact cmpBegan_any ms A c w.heap.size V (hcap V (hW.trans (hV.mono hW.size))) i j h1 h2))
  have HNew := Lib.hid (And.intro hb1 (And.intro s3 (And.intro hD1 hd1)))
  have HRw := Lib.hid (And.intro hr (And.intro hf hl))
  have HW1 := Lib.hid hw1
  clear s1 s2 s3 hb1 hD1 hd1 hL1 hr hf hcap hl hw1
  go_enter Try.func22, Try.ntmps22
  go_wp2_with fail
  rw [HW1.out]
  clear hmkb HW1
  refine region_ex4n (f := fun q1 q2 a r => (fun n0 d0 D n => ({ tmps := #[.slice A n c, .pointer (some ⟨n0, 0, none⟩), .pointer none, .pointer (some ⟨d0, 0, none⟩), .func (.func 30) #[] #[.pointer (some ⟨d0, 0, none⟩)], .pointer (some ⟨r, 0, none⟩), undef, .slice A n c, .int .i64 (n : Nat), .slice (some ⟨D, 0, none⟩) n n, .func (.func 30) #[] #[.pointer (some ⟨d0, 0, none⟩)], .slice A n c, .func (.func 30) #[] #[.pointer (some ⟨d0, 0, none⟩)], .func (.func 31) #[] #[.pointer (some ⟨d0, 0, none⟩)], .slice A n c, .int .i64 (n : Nat), .func (.func 30) #[] #[.pointer (some ⟨d0, 0, none⟩)], .func (.func 33) #[] #[.pointer (some ⟨n0, 0, none⟩)], .pointer (some ⟨q1, 0, none⟩), .slice A n c, .int .i64 (n : Nat), .func (.func 30) #[] #[.pointer (some ⟨d0, 0, none⟩)], .func (.func 35) #[] #[.pointer (some ⟨n0, 0, none⟩)], .pointer (some ⟨q2, 0, none⟩), .slice A n c, .int .i64 (n : Nat), .slice (some ⟨a, 0, none⟩) n n, .agg #[.slice A n c, .func (.func 30) #[] #[.pointer (some ⟨d0, 0, none⟩)], .func (.func 31) #[] #[.pointer (some ⟨d0, 0, none⟩)], .pointer (some ⟨q1, 0, none⟩), .pointer (some ⟨q2, 0, none⟩), .slice (some ⟨a, 0, none⟩) n n], .pointer (some ⟨r, 0, none⟩), undef, undef, undef, undef, undef, undef, undef, undef, undef, undef, undef, undef, undef, undef, undef, undef], defers := [] } : Act)) w.heap.size (w.heap.size + 1 + 1) (w.heap.size + 1) ms.length) (R := OutR w A c ms) ?_ (fun q1 q2 a r w2 hR => ?_)
  · have hBB := (Below.refl w1.heap.size w1).drew
    refine wp_region_held_drew (S := LBox w.heap.size A ms.length c) (by kernel_rfl) ?_ (fun hHeld => ?_)
    · exact HLb.out _ hBB
    refine take_held (i := 0) (v := ?_) rfl (by kernel_rfl) (by kernel_rfl) (by kernel_rfl) (fun _ _ _ h => h) (by rfl) (fun w hSw => ?_) (by assumption) ?_
    rotate_left
    · have c0 := HCl.out _ hSw; go_simp <;> with_reducible rfl
    (try simp only [Act.put, List.setIfInBounds_toArray, List.set_cons_zero, List.set_cons_succ])
    refine take_held (i := 1) (v := ?_) rfl (by kernel_rfl) (by kernel_rfl) (by kernel_rfl) (fun _ _ _ h => h) (by rfl) (fun w hSw => ?_) (by assumption) ?_
    rotate_left
    · go_simp <;> with_reducible rfl
    (try simp only [Act.put, List.setIfInBounds_toArray, List.set_cons_zero, List.set_cons_succ])
    refine take_held (i := 2) (v := ?_) rfl (by kernel_rfl) (by kernel_rfl) (by kernel_rfl) (fun _ _ _ h => h) (by rfl) (fun w hSw => ?_) (by assumption) ?_
    rotate_left
    · go_simp <;> with_reducible rfl
    (try simp only [Act.put, List.setIfInBounds_toArray, List.set_cons_zero, List.set_cons_succ])
    refine take_held (i := 3) (v := ?_) rfl (by kernel_rfl) (by kernel_rfl) (by kernel_rfl) (fun _ _ _ h => h) (by rfl) (fun w hSw => ?_) (by assumption) ?_
    rotate_left
    · have c0 := HCl.out _ hSw; go_simp <;> with_reducible rfl
    (try simp only [Act.put, List.setIfInBounds_toArray, List.set_cons_zero, List.set_cons_succ])
    refine take_held (i := 4) (v := ?_) rfl (by kernel_rfl) (by kernel_rfl) (by kernel_rfl) (fun _ _ _ h => h) (by rfl) (fun w hSw => ?_) (by assumption) ?_
    rotate_left
    · go_simp <;> with_reducible rfl
    (try simp only [Act.put, List.setIfInBounds_toArray, List.set_cons_zero, List.set_cons_succ])
    refine take_held (i := 5) (v := ?_) rfl (by kernel_rfl) (by kernel_rfl) (by kernel_rfl) (fun _ _ _ h => h) (by rfl) (fun w hSw => ?_) (by assumption) ?_
    rotate_left
    · go_simp <;> with_reducible rfl
    (try simp only [Act.put, List.setIfInBounds_toArray, List.set_cons_zero, List.set_cons_succ])
    refine take_held (i := 6) (v := ?_) rfl (by kernel_rfl) (by kernel_rfl) (by kernel_rfl) (fun _ _ _ h => h) (by rfl) (fun w hSw => ?_) (by assumption) ?_
    rotate_left
    · go_simp <;> with_reducible rfl
    (try simp only [Act.put, List.setIfInBounds_toArray, List.set_cons_zero, List.set_cons_succ])
    refine take_held (i := 8) (v := ?_) rfl (by kernel_rfl) (by kernel_rfl) (by kernel_rfl) (fun _ _ _ h => h) (by rfl) (fun w hSw => ?_) (by assumption) ?_
    rotate_left
    · have c0 := HCl.out _ hSw; go_simp <;> with_reducible rfl
    (try simp only [Act.put, List.setIfInBounds_toArray, List.set_cons_zero, List.set_cons_succ])
    refine take_held (i := 9) (v := ?_) rfl (by kernel_rfl) (by kernel_rfl) (by kernel_rfl) (fun _ _ _ h => h) (by rfl) (fun w hSw => ?_) (by assumption) ?_
    rotate_left
    · go_simp <;> with_reducible rfl
    (try simp only [Act.put, List.setIfInBounds_toArray, List.set_cons_zero, List.set_cons_succ])
    refine take_held (i := 10) (v := ?_) rfl (by kernel_rfl) (by kernel_rfl) (by kernel_rfl) (fun _ _ _ h => h) (by rfl) (fun w hSw => ?_) (by assumption) ?_
    rotate_left
    · go_simp <;> with_reducible rfl
    (try simp only [Act.put, List.setIfInBounds_toArray, List.set_cons_zero, List.set_cons_succ])
    refine take_held (i := 11) (v := ?_) rfl (by kernel_rfl) (by kernel_rfl) (by kernel_rfl) (fun _ _ _ h => h) (by rfl) (fun w hSw => ?_) (by assumption) ?_
    rotate_left
    · go_simp <;> with_reducible rfl
    (try simp only [Act.put, List.setIfInBounds_toArray, List.set_cons_zero, List.set_cons_succ])
    refine take_held (i := 13) (v := ?_) rfl (by kernel_rfl) (by kernel_rfl) (by kernel_rfl) (fun _ _ _ h => h) (by rfl) (fun w hSw => ?_) (by assumption) ?_
    rotate_left
    · have c0 := HCl.out _ hSw; go_simp <;> with_reducible rfl
    (try simp only [Act.put, List.setIfInBounds_toArray, List.set_cons_zero, List.set_cons_succ])
    refine take_held (i := 14) (v := ?_) rfl (by kernel_rfl) (by kernel_rfl) (by kernel_rfl) (fun _ _ _ h => h) (by rfl) (fun w hSw => ?_) (by assumption) ?_
    rotate_left
    · go_simp <;> with_reducible rfl
    (try simp only [Act.put, List.setIfInBounds_toArray, List.set_cons_zero, List.set_cons_succ])
    refine step2_held (i := 7) (j := 15) (by kernel_rfl) rfl rfl (fun K' hK => ?_) (fun K' hK => ?_)
    · go_simp
      (with_reducible refine (HR1.out _ hBB).mono ?_)
      rintro r w4 ⟨x1, y1, z1, e1, rfl, hb1, hlo1, hne1, hbx1, hpl1, hnx1, hpm1, hso1⟩
      have hBBq := hBB.trans (hb1.mono hBB.size)
      clear hBB
      have hBB := hBBq
      clear hBBq
      (first | (have HBaq := HBa.trans (hb1.mono HBa.size); clear HBa; have HBa := HBaq; clear HBaq) | skip)
      have HB1 := Below.refl w4.heap.size w4
      (first | (refine hK.out _ _ ?_ (fun hHeld2 => ?_)) | (go_wp2_with fail; refine hK.out _ _ ?_ (fun hHeld2 => ?_)))
      · exact HLb.out _ hBB
      clear hK K' hHeld
      have hHeld := hHeld2
      clear hHeld2
      (try simp only [Act.put, List.setIfInBounds_toArray, List.set_cons_zero, List.set_cons_succ])
      refine step2_held (i := 12) (j := 15) (by kernel_rfl) rfl rfl (fun K' hK => ?_) (fun K' hK => ?_)
      · go_simp
        (with_reducible refine (HR2.out _ hBB).mono ?_)
        rintro r w6 ⟨x2, y2, z2, e2, rfl, hb2, hlo2, hne2, hbx2, hpl2, hnx2, hpm2, hso2⟩
        have hBBq := hBB.trans (hb2.mono hBB.size)
        clear hBB
        have hBB := hBBq
        clear hBBq
        (first | (have HBaq := HBa.trans (hb2.mono HBa.size); clear HBa; have HBa := HBaq; clear HBaq) | skip)
        (first | (have HB1q := HB1.trans (hb2.mono HB1.size); clear HB1; have HB1 := HB1q; clear HB1q) | skip)
        have HB2 := Below.refl w6.heap.size w6
        (first | (refine hK.out _ _ ?_ (fun hHeld2 => ?_)) | (go_wp2_with fail; refine hK.out _ _ ?_ (fun hHeld2 => ?_)))
        · exact HLb.out _ hBB
        clear hK K' hHeld
        have hHeld := hHeld2
        clear hHeld2
        (try simp only [Act.put, List.setIfInBounds_toArray, List.set_cons_zero, List.set_cons_succ])
        refine step_held (i := 15) (by kernel_rfl) rfl (fun K' hK => ?_)
        go_simp
        have hma := madeInts w6 ms.length
        have HBa := Below.refl (w6.alloc (.cells (madeCells #[.int .i64 0] ms.length) 3)).heap.size (w6.alloc (.cells (madeCells #[.int .i64 0] ms.length) 3))
        (first | (have hBBq := hBB.alloc hBB.size (.cells (madeCells #[.int .i64 0] ms.length) 3); clear hBB; have hBB := hBBq; clear hBBq) | skip)
        (first | (have HB1q := HB1.alloc HB1.size (.cells (madeCells #[.int .i64 0] ms.length) 3); clear HB1; have HB1 := HB1q; clear HB1q) | skip)
        (first | (have HB2q := HB2.alloc HB2.size (.cells (madeCells #[.int .i64 0] ms.length) 3); clear HB2; have HB2 := HB2q; clear HB2q) | skip) 
        (first | (refine hK.out _ _ ?_ (fun hHeld2 => ?_)) | (go_wp2_with fail; refine hK.out _ _ ?_ (fun hHeld2 => ?_)))
        · exact HLb.out _ hBB
        clear hK K' hHeld
        have hHeld := hHeld2
        clear hHeld2
        (try simp only [Act.put, List.setIfInBounds_toArray, List.set_cons_zero, List.set_cons_succ])
        refine take_held (i := 16) (v := ?_) rfl (by kernel_rfl) (by kernel_rfl) (by kernel_rfl) (fun _ _ _ h => h) (by rfl) (fun w hSw => ?_) (by assumption) ?_
        rotate_left
        · go_simp <;> with_reducible rfl
        (try simp only [Act.put, List.setIfInBounds_toArray, List.set_cons_zero, List.set_cons_succ])
        refine step_held (i := 17) (by kernel_rfl) rfl (fun K' hK => ?_)
        go_simp
        (first | (refine hK.out _ _ ?_ (fun hHeld2 => ?_)) | (go_wp2_with fail; refine hK.out _ _ ?_ (fun hHeld2 => ?_)))
        · exact HLb.out _ (by first | exact hBB.alloc hBB.size _ | exact (hBB.alloc hBB.size _).drew)
        clear hK K' hHeld
        have hHeld := hHeld2
        clear hHeld2
        (try simp only [Act.put, List.setIfInBounds_toArray, List.set_cons_zero, List.set_cons_succ])
        refine take_held (i := 18) (v := ?_) rfl (by kernel_rfl) (by kernel_rfl) (by kernel_rfl) (fun _ _ _ h => h) (by rfl) (fun w hSw => ?_) (by assumption) ?_
        rotate_left
        · go_simp <;> with_reducible rfl
        (try simp only [Act.put, List.setIfInBounds_toArray, List.set_cons_zero, List.set_cons_succ])
        refine wpAnyH_done (by kernel_rfl) ?_ _
        have e1 : w1.drew.heap.size = w1.heap.size := rfl
        have e2 : (w1.alloc (.cells (madeCells #[.int .i64 0] ms.length) 3)).heap.size = w1.heap.size + 1 := by simp
        have e3 : ((w1.alloc (.cells (madeCells #[.int .i64 0] ms.length) 3)).drew).heap.size = w1.heap.size + 1 := by simp
        (try have e4 : (w4.alloc (.cells (madeCells #[.int .i64 0] ms.length) 3)).heap.size = w4.heap.size + 1 := by simp)
        (try have e5 : (w6.alloc (.cells (madeCells #[.int .i64 0] ms.length) 3)).heap.size = w6.heap.size + 1 := by simp)
        have k1 := hpl1.lt
        have k2 := hnx1.lt
        have k3 := lt_of_heap hbx1
        have k4 := hpl2.lt
        have k5 := hnx2.lt
        have k6 := lt_of_heap hbx2
        have k7 := hma.lt
        have l1 := HB1.size
        have l2 := HB2.size
        have l3 := HBa.size
        have l5 := hb1.size
        have l6 := hb2.size
        obtain ⟨a1, a2, a3⟩ := hlo1
        obtain ⟨b1, b2, b3⟩ := hlo2
        obtain ⟨m1, m2, m3⟩ := hne1
        obtain ⟨m4, m5, m6⟩ := hne2
        refine end_exn ⟨_, _, _, _, rfl, restN_new (by first | exact .inl rfl | exact .inr rfl) HNew.out.1 HNew.out.2.1 HNew.out.2.2.1 HNew.out.2.2.2 hBB HB1 HB2 HBa hbx1 hpl1 hnx1 hpm1 hso1 hbx2 hpl2 hnx2 hpm2 hso2 hma ?_ ⟨fun e => m1 e.symm, m3, ?_, ?_, ?_, ?_⟩ ⟨?_, ?_, fun e => m4 e.symm, m6, ?_⟩ ⟨?_, ?_, ?_, ?_⟩ (by simp)⟩
        all_goals (clear m1 m2 m3 m4 m5 m6; simp only [World.drew] at *; omega)
      · go_simp
        have hma := madeInts w4 ms.length
        have HBa := Below.refl (w4.alloc (.cells (madeCells #[.int .i64 0] ms.length) 3)).heap.size (w4.alloc (.cells (madeCells #[.int .i64 0] ms.length) 3))
        (first | (have hBBq := hBB.alloc hBB.size (.cells (madeCells #[.int .i64 0] ms.length) 3); clear hBB; have hBB := hBBq; clear hBBq) | skip)
        (first | (have HB1q := HB1.alloc HB1.size (.cells (madeCells #[.int .i64 0] ms.length) 3); clear HB1; have HB1 := HB1q; clear HB1q) | skip) 
        (first | (refine hK.out _ _ ?_ (fun hHeld2 => ?_)) | (go_wp2_with fail; refine hK.out _ _ ?_ (fun hHeld2 => ?_)))
        · exact HLb.out _ hBB
        clear hK K' hHeld
        have hHeld := hHeld2
        clear hHeld2
        (try simp only [Act.put, List.setIfInBounds_toArray, List.set_cons_zero, List.set_cons_succ])
        refine step_held (i := 12) (by kernel_rfl) rfl (fun K' hK => ?_)
        go_simp
        (with_reducible refine (HR2.out _ hBB).mono ?_)
        rintro r w6 ⟨x2, y2, z2, e2, rfl, hb2, hlo2, hne2, hbx2, hpl2, hnx2, hpm2, hso2⟩
        have hBBq := hBB.trans (hb2.mono hBB.size)
        clear hBB
        have hBB := hBBq
        clear hBBq
        (first | (have HBaq := HBa.trans (hb2.mono HBa.size); clear HBa; have HBa := HBaq; clear HBaq) | skip)
        (first | (have HB1q := HB1.trans (hb2.mono HB1.size); clear HB1; have HB1 := HB1q; clear HB1q) | skip)
        have HB2 := Below.refl w6.heap.size w6
        (first | (refine hK.out _ _ ?_ (fun hHeld2 => ?_)) | (go_wp2_with fail; refine hK.out _ _ ?_ (fun hHeld2 => ?_)))
        · exact HLb.out _ hBB
        clear hK K' hHeld
        have hHeld := hHeld2
        clear hHeld2
        (try simp only [Act.put, List.setIfInBounds_toArray, List.set_cons_zero, List.set_cons_succ])
        refine take_held (i := 16) (v := ?_) rfl (by kernel_rfl) (by kernel_rfl) (by kernel_rfl) (fun _ _ _ h => h) (by rfl) (fun w hSw => ?_) (by assumption) ?_
        rotate_left
        · go_simp <;> with_reducible rfl
        (try simp only [Act.put, List.setIfInBounds_toArray, List.set_cons_zero, List.set_cons_succ])
        refine step_held (i := 17) (by kernel_rfl) rfl (fun K' hK => ?_)
        go_simp
        (first | (refine hK.out _ _ ?_ (fun hHeld2 => ?_)) | (go_wp2_with fail; refine hK.out _ _ ?_ (fun hHeld2 => ?_)))
        · exact HLb.out _ (by first | exact hBB.alloc hBB.size _ | exact (hBB.alloc hBB.size _).drew)
        clear hK K' hHeld
        have hHeld := hHeld2
        clear hHeld2
        (try simp only [Act.put, List.setIfInBounds_toArray, List.set_cons_zero, List.set_cons_succ])
        refine take_held (i := 18) (v := ?_) rfl (by kernel_rfl) (by kernel_rfl) (by kernel_rfl) (fun _ _ _ h => h) (by rfl) (fun w hSw => ?_) (by assumption) ?_
        rotate_left
        · go_simp <;> with_reducible rfl
        (try simp only [Act.put, List.setIfInBounds_toArray, List.set_cons_zero, List.set_cons_succ])
        refine wpAnyH_done (by kernel_rfl) ?_ _
        have e1 : w1.drew.heap.size = w1.heap.size := rfl
        have e2 : (w1.alloc (.cells (madeCells #[.int .i64 0] ms.length) 3)).heap.size = w1.heap.size + 1 := by simp
        have e3 : ((w1.alloc (.cells (madeCells #[.int .i64 0] ms.length) 3)).drew).heap.size = w1.heap.size + 1 := by simp
        (try have e4 : (w4.alloc (.cells (madeCells #[.int .i64 0] ms.length) 3)).heap.size = w4.heap.size + 1 := by simp)
        (try have e5 : (w6.alloc (.cells (madeCells #[.int .i64 0] ms.length) 3)).heap.size = w6.heap.size + 1 := by simp)
        have k1 := hpl1.lt
        have k2 := hnx1.lt
        have k3 := lt_of_heap hbx1
        have k4 := hpl2.lt
        have k5 := hnx2.lt
        have k6 := lt_of_heap hbx2
        have k7 := hma.lt
        have l1 := HB1.size
        have l2 := HB2.size
        have l3 := HBa.size
        have l5 := hb1.size
        have l6 := hb2.size
        obtain ⟨a1, a2, a3⟩ := hlo1
        obtain ⟨b1, b2, b3⟩ := hlo2
        obtain ⟨m1, m2, m3⟩ := hne1
        obtain ⟨m4, m5, m6⟩ := hne2
        refine end_exn ⟨_, _, _, _, rfl, restN_new (by first | exact .inl rfl | exact .inr rfl) HNew.out.1 HNew.out.2.1 HNew.out.2.2.1 HNew.out.2.2.2 hBB HB1 HB2 HBa hbx1 hpl1 hnx1 hpm1 hso1 hbx2 hpl2 hnx2 hpm2 hso2 hma ?_ ⟨fun e => m1 e.symm, m3, ?_, ?_, ?_, ?_⟩ ⟨?_, ?_, fun e => m4 e.symm, m6, ?_⟩ ⟨?_, ?_, ?_, ?_⟩ (by simp)⟩
        all_goals (clear m1 m2 m3 m4 m5 m6; simp only [World.drew] at *; omega)
    · go_simp
      have hma := madeInts w1 ms.length
      have HBa := (Below.refl (w1.alloc (.cells (madeCells #[.int .i64 0] ms.length) 3)).heap.size (w1.alloc (.cells (madeCells #[.int .i64 0] ms.length) 3))).drew
      have hBBq := ((Below.refl w1.heap.size w1).alloc (Nat.le_refl _) (.cells (madeCells #[.int .i64 0] ms.length) 3)).drew
      clear hBB
      have hBB := hBBq
      clear hBBq 
      (first | (refine hK.out _ _ ?_ (fun hHeld2 => ?_)) | (go_wp2_with fail; refine hK.out _ _ ?_ (fun hHeld2 => ?_)))
      · exact HLb.out _ hBB
      clear hK K' hHeld
      have hHeld := hHeld2
      clear hHeld2
      (try simp only [Act.put, List.setIfInBounds_toArray, List.set_cons_zero, List.set_cons_succ])
      refine step_held (i := 7) (by kernel_rfl) rfl (fun K' hK => ?_)
      go_simp
      (with_reducible refine (HR1.out _ hBB).mono ?_)
      rintro r w4 ⟨x1, y1, z1, e1, rfl, hb1, hlo1, hne1, hbx1, hpl1, hnx1, hpm1, hso1⟩
      have hBBq := hBB.trans (hb1.mono hBB.size)
      clear hBB
      have hBB := hBBq
      clear hBBq
      (first | (have HBaq := HBa.trans (hb1.mono HBa.size); clear HBa; have HBa := HBaq; clear HBaq) | skip)
      have HB1 := Below.refl w4.heap.size w4
      (first | (refine hK.out _ _ ?_ (fun hHeld2 => ?_)) | (go_wp2_with fail; refine hK.out _ _ ?_ (fun hHeld2 => ?_)))
      · exact HLb.out _ hBB
      clear hK K' hHeld
      have hHeld := hHeld2
      clear hHeld2
      (try simp only [Act.put, List.setIfInBounds_toArray, List.set_cons_zero, List.set_cons_succ])
      refine step_held (i := 12) (by kernel_rfl) rfl (fun K' hK => ?_)
      go_simp
      (with_reducible refine (HR2.out _ hBB).mono ?_)
      rintro r w6 ⟨x2, y2, z2, e2, rfl, hb2, hlo2, hne2, hbx2, hpl2, hnx2, hpm2, hso2⟩
      have hBBq := hBB.trans (hb2.mono hBB.size)
      clear hBB
      have hBB := hBBq
      clear hBBq
      (first | (have HBaq := HBa.trans (hb2.mono HBa.size); clear HBa; have HBa := HBaq; clear HBaq) | skip)
      (first | (have HB1q := HB1.trans (hb2.mono HB1.size); clear HB1; have HB1 := HB1q; clear HB1q) | skip)
      have HB2 := Below.refl w6.heap.size w6
      (first | (refine hK.out _ _ ?_ (fun hHeld2 => ?_)) | (go_wp2_with fail; refine hK.out _ _ ?_ (fun hHeld2 => ?_)))
      · exact HLb.out _ hBB
      clear hK K' hHeld
      have hHeld := hHeld2
      clear hHeld2
      (try simp only [Act.put, List.setIfInBounds_toArray, List.set_cons_zero, List.set_cons_succ])
      refine take_held (i := 16) (v := ?_) rfl (by kernel_rfl) (by kernel_rfl) (by kernel_rfl) (fun _ _ _ h => h) (by rfl) (fun w hSw => ?_) (by assumption) ?_
      rotate_left
      · go_simp <;> with_reducible rfl
      (try simp only [Act.put, List.setIfInBounds_toArray, List.set_cons_zero, List.set_cons_succ])
      refine step_held (i := 17) (by kernel_rfl) rfl (fun K' hK => ?_)
      go_simp
      (first | (refine hK.out _ _ ?_ (fun hHeld2 => ?_)) | (go_wp2_with fail; refine hK.out _ _ ?_ (fun hHeld2 => ?_)))
      · exact HLb.out _ (by first | exact hBB.alloc hBB.size _ | exact (hBB.alloc hBB.size _).drew)
      clear hK K' hHeld
      have hHeld := hHeld2
      clear hHeld2
      (try simp only [Act.put, List.setIfInBounds_toArray, List.set_cons_zero, List.set_cons_succ])
      refine take_held (i := 18) (v := ?_) rfl (by kernel_rfl) (by kernel_rfl) (by kernel_rfl) (fun _ _ _ h => h) (by rfl) (fun w hSw => ?_) (by assumption) ?_
      rotate_left
      · go_simp <;> with_reducible rfl
      (try simp only [Act.put, List.setIfInBounds_toArray, List.set_cons_zero, List.set_cons_succ])
      refine wpAnyH_done (by kernel_rfl) ?_ _
      have e1 : w1.drew.heap.size = w1.heap.size := rfl
      have e2 : (w1.alloc (.cells (madeCells #[.int .i64 0] ms.length) 3)).heap.size = w1.heap.size + 1 := by simp
      have e3 : ((w1.alloc (.cells (madeCells #[.int .i64 0] ms.length) 3)).drew).heap.size = w1.heap.size + 1 := by simp
      (try have e4 : (w4.alloc (.cells (madeCells #[.int .i64 0] ms.length) 3)).heap.size = w4.heap.size + 1 := by simp)
      (try have e5 : (w6.alloc (.cells (madeCells #[.int .i64 0] ms.length) 3)).heap.size = w6.heap.size + 1 := by simp)
      have k1 := hpl1.lt
      have k2 := hnx1.lt
      have k3 := lt_of_heap hbx1
      have k4 := hpl2.lt
      have k5 := hnx2.lt
      have k6 := lt_of_heap hbx2
      have k7 := hma.lt
      have l1 := HB1.size
      have l2 := HB2.size
      have l3 := HBa.size
      have l5 := hb1.size
      have l6 := hb2.size
      obtain ⟨a1, a2, a3⟩ := hlo1
      obtain ⟨b1, b2, b3⟩ := hlo2
      obtain ⟨m1, m2, m3⟩ := hne1
      obtain ⟨m4, m5, m6⟩ := hne2
      refine end_exn ⟨_, _, _, _, rfl, restN_new (by first | exact .inl rfl | exact .inr rfl) HNew.out.1 HNew.out.2.1 HNew.out.2.2.1 HNew.out.2.2.2 hBB HB1 HB2 HBa hbx1 hpl1 hnx1 hpm1 hso1 hbx2 hpl2 hnx2 hpm2 hso2 hma ?_ ⟨fun e => m1 e.symm, m3, ?_, ?_, ?_, ?_⟩ ⟨?_, ?_, fun e => m4 e.symm, m6, ?_⟩ ⟨?_, ?_, ?_, ?_⟩ (by simp)⟩
      all_goals (clear m1 m2 m3 m4 m5 m6; simp only [World.drew] at *; omega)
  · obtain ⟨L, e1, e2, ⟨rfl, rfl, rfl, rfl, hd0, hD⟩, hN, m1, t1, m2, t2⟩ := hR
    have HN2 := Lib.hid hN
    have HMS := Lib.hid (And.intro m1 (And.intro t1 (And.intro m2 t2)))
    have c5 : w2.cell? ⟨L.r, 5, none⟩ = some (.slice (some ⟨L.a, 0, none⟩) ms.length ms.length) := by rw [cell_of_row w2 L.r 5 _ _ _ hN.box]; rfl
    clear hN m1 t1 m2 t2 hmk hd0 hD HR1 HR2
    go_wp2_with fail
    clear c5
    go_loopg [6, 34] ms.length (fun q _ iv wr => ∃ k : Nat, k + q = ms.length ∧ iv = .int .i64 k ∧ RestN w wr L A c ms e1 e2 k)
    case atStart => exact ⟨0, by omega, rfl, HN2.out⟩
    case round =>
      obtain ⟨k, hkq, rfl, hN⟩ := hrel
      have HKq := Lib.hid hkq
      have HN := Lib.hid hN
      clear hkq hN
      by_cases hk : k < ms.length
      · have hlt : decide ((k : Int) < (ms.length : Int)) = true := by simpa using hk
        have hlt2 : decide (k < ms.length) = true := by simpa using hk
        have q1 : (k : Int) < (ms.length : Int) := by omega
        have c5 : wr.cell? ⟨L.r, 5, none⟩ = some (.slice (some ⟨L.a, 0, none⟩) ms.length ms.length) := by rw [cell_of_row wr L.r 5 _ _ _ HN.out.box]; rfl
        have c6 := HN.out.ahd.cell hk
        have f6 := HN.out.ahd.frozen k
        have HS := Lib.hid HN.out.step
        clear hk
        go_wp2_with fail
        go_roundg (gk - 1)
        case measure => have := HKq.out; omega
        case rel => exact ⟨k + 1, by have := HKq.out; omega, by go_num, HS.out⟩
      · have hlt : decide ((k : Int) < (ms.length : Int)) = false := by simpa using hk
        have hlt2 : decide (k < ms.length) = false := by simpa using hk
        obtain rfl : k = ms.length := by have := HKq.out; omega
        obtain ⟨m1, t1, m2, t2⟩ := HMS.out
        obtain ⟨p1, p2, hE⟩ := HN.out.rest HRw.out.1 HRw.out.2.1 HRw.out.2.2 m1 t1 m2 t2
        have HE := Lib.hid hE
        clear hE m1 t1 m2 t2 hk
        go_wp2_with fail
        go_ret
        exact ⟨L, p1, p2, rfl, HE.out, HN.out.ok, HN.out.below⟩
end Go.Proofs.Ytfdiidhilonkoaa
