import Derived.Test.YtfdiidhilonkoaaZC23
import Derived.IntWalk
import Derived.Deep.OwnRows
import Derived.Deep.LoopGhost
import Derived.Deep.DeepCutAuto
set_option linter.unusedVariables false
/-
  Package order: a row of places, laid by a comparison: rowOf.
-/
namespace Go.Proofs.Ytfdiidhilonkoaa
open Go.RowKit

theorem region_ex3n {P : Program} {c : Code} {Q : Exit → Act → World → Prop} {a : Act} {w : World} {f : Nat → Nat → Nat → Act} {R : Nat → Nat → Nat → World → Prop}
    (h1 : c.wp P (Exit.then (fun a' w' => ∃ A n c, a' = f A n c ∧ R A n c w') fun _ _ _ => False) a w) (h2 : ∀ A n c w', R A n c w' → Q .normal (f A n c) w') : c.wp P Q a w :=
  Code.wp_mono (fun e a w h => by
    cases e with
    | normal =>
      obtain ⟨A, n, c, rfl, hr⟩ := (id h : ∃ A n c, a = f A n c ∧ R A n c w)
      exact h2 _ _ _ _ hr
    | _ => exact (id h : False).elim) h1
theorem end_exn {K : Act → World → Prop} {Q : Exit → Act → World → Prop} {a : Act} {w : World} (h : K a w) : Exit.then K Q .normal a w := h
def TrueS (_ : World) : Prop := True
theorem mkInts (n : Nat) (hn : n ≤ 1000000) (w : World) : (Instr.makeSlice 23 (.int .i64 (n : Int)) (.int .i64 (n : Int))).run Try.prog w = .ok (.slice (some ⟨w.heap.size, 0, none⟩) n n) (w.alloc (.cells (madeCells #[.int .i64 0] n) 3)) :=
  run_make_row' 23 3 (.int .i64 0) 8 (by first | rfl | kernel_rfl) (by kernel_rfl) rfl .i64 .i64 n (by omega) (by omega) w
theorem madeInts (w : World) (n : Nat) : IntsAt (w.alloc (.cells (madeCells #[.int .i64 0] n) 3)) w.heap.size n fun _ => 0 :=
  ⟨_, heap_alloc_new w _, fun i hi => by simp [madeCells, hi, Nat.mod_one]⟩
/-- The numbers from 0 on, up to k laid. -/
def upTo (k : Nat) (a : Nat) : Nat → Int := fun i => if i < k then (i : Int) + (a : Int) else 0
structure NewRow (w w' : World) (x y z n : Nat) (fv : Value) (k : Nat) : Prop where
  below : Below w.heap.size w w'
  lo : w.heap.size ≤ x ∧ w.heap.size ≤ y ∧ w.heap.size ≤ z
  ne : x ≠ y ∧ x ≠ z ∧ y ≠ z
  box : w'.heap[z]? = some (.cells #[.slice (some ⟨x, 0, none⟩) n n, .slice (some ⟨y, 0, none⟩) n n, fv] 49 (0, 0))
  pl : IntsAt w' x n (upTo k 0)
  nx : IntsAt w' y n (upTo k 1)
theorem newRow_a {w1 : World} {x y z : Nat} (w : World) (n : Nat) (fv : Value) (h : w1 = (((w.alloc (.cells (madeCells #[.int .i64 0] n) 3)).alloc (.cells (madeCells #[.int .i64 0] n) 3)).alloc (.cells #[.slice (some ⟨x, 0, none⟩) n n, .slice (some ⟨y, 0, none⟩) n n, fv] 49)).drew) (hx : x = w.heap.size ∧ y = w.heap.size + 1 ∨ x = w.heap.size + 1 ∧ y = w.heap.size) (hz : z = w.heap.size + 1 + 1) : NewRow w w1 x y z n fv 0 := by
  subst h hz
  have e0 : ∀ a, upTo 0 a = fun _ => 0 := fun a => funext fun i => by simp [upTo]
  have s1 : (w.alloc (.cells (madeCells #[.int .i64 0] n) 3)).heap.size = w.heap.size + 1 := by simp
  have i1 := madeInts w n
  have i2 := madeInts (w.alloc (.cells (madeCells #[.int .i64 0] n) 3)) n
  rw [s1] at i2
  have b0 := (Below.refl w.heap.size w).alloc (Nat.le_refl _) (.cells (madeCells #[.int .i64 0] n) 3)
  have i1' := i1.keep (w' := (w.alloc (.cells (madeCells #[.int .i64 0] n) 3)).alloc (.cells (madeCells #[.int .i64 0] n) 3)) (((Below.refl _ _).alloc (Nat.le_refl _) _).block _ i1.lt)
  have bx := heap_alloc_new ((w.alloc (.cells (madeCells #[.int .i64 0] n) 3)).alloc (.cells (madeCells #[.int .i64 0] n) 3)) (.cells #[.slice (some ⟨x, 0, none⟩) n n, .slice (some ⟨y, 0, none⟩) n n, fv] 49)
  have k1 := fun g (hg : g < ((w.alloc (.cells (madeCells #[.int .i64 0] n) 3)).alloc (.cells (madeCells #[.int .i64 0] n) 3)).heap.size) => ((Below.refl _ ((w.alloc (.cells (madeCells #[.int .i64 0] n) 3)).alloc (.cells (madeCells #[.int .i64 0] n) 3))).alloc (Nat.le_refl _) (.cells #[.slice (some ⟨x, 0, none⟩) n n, .slice (some ⟨y, 0, none⟩) n n, fv] 49)).block g hg
  have j1 := i1'.keep (k1 _ i1'.lt)
  have j2 := i2.keep (k1 _ i2.lt)
  have s2 : ((w.alloc (.cells (madeCells #[.int .i64 0] n) 3)).alloc (.cells (madeCells #[.int .i64 0] n) 3)).heap.size = w.heap.size + 1 + 1 := by simp
  rw [s2] at bx
  have hbl := (((Below.refl w.heap.size w).alloc (Nat.le_refl _) (.cells (madeCells #[.int .i64 0] n) 3)).alloc (by simp) (.cells (madeCells #[.int .i64 0] n) 3)).alloc (by simp; omega) (.cells #[.slice (some ⟨x, 0, none⟩) n n, .slice (some ⟨y, 0, none⟩) n n, fv] 49)
  refine ⟨hbl.drew, by omega, by omega, bx, ?_, ?_⟩
  · rw [e0]
    rcases hx with ⟨rfl, rfl⟩ | ⟨rfl, rfl⟩
    · exact j1
    · exact j2
  · rw [e0]
    rcases hx with ⟨rfl, rfl⟩ | ⟨rfl, rfl⟩
    · exact j2
    · exact j1
theorem upTo_set {k a : Nat} : ∀ i, updI (upTo k a) k ((k : Int) + (a : Int)) i = upTo (k + 1) a i := fun i => by
  unfold updI upTo
  repeat' split
  all_goals first | rfl | omega | (rename_i e _; subst e; omega)
def BoxRow (z x y n : Nat) (fv : Value) (w : World) : Prop := w.heap[z]? = some (.cells #[.slice (some ⟨x, 0, none⟩) n n, .slice (some ⟨y, 0, none⟩) n n, fv] 49 (0, 0))
theorem NewRow.step {w wr : World} {x y z n k : Nat} {fv : Value} (h : NewRow w wr x y z n fv k) (hk : k < n) : NewRow w ((wr.setCell ⟨x, k, none⟩ (.int .i64 (k : Nat))).setCell ⟨y, k, none⟩ (.int .i64 ((k : Int) + 1))) x y z n fv (k + 1) := by
  obtain ⟨h1, ⟨l1, l2, l3⟩, ⟨e1, e2, e3⟩, h4, h5, h6⟩ := h
  have m1 := mut_setI wr x k (.int .i64 (k : Nat))
  have m2 := mut_setI (wr.setCell ⟨x, k, none⟩ (.int .i64 (k : Nat))) y k (.int .i64 ((k : Int) + 1))
  have g5 := h5.set k (k : Nat)
  have g6 := h6.keep (m1.block y h6.lt (fun e => e1 e.symm))
  have g7 := g6.set k ((k : Int) + 1)
  have g8 := g5.keep (m2.block x g5.lt e1)
  have b1 := (m1.block z (lt_of_heap h4) (fun e => e2 e.symm)).trans h4
  have b2 := (m2.block z (lt_of_heap b1) (fun e => e3 e.symm)).trans b1
  refine ⟨(h1.setCell l1 _).setCell l2 _, ⟨l1, l2, l3⟩, ⟨e1, e2, e3⟩, b2, g8.eq fun i _ => ?_, g7.eq fun i _ => ?_⟩
  · have := upTo_set (k := k) (a := 0) i
    simpa using this
  · exact upTo_set (k := k) (a := 1) i
theorem NewRow.drew {w w1 : World} {x y z n k : Nat} {fv : Value} (h : NewRow w w1 x y z n fv k) : NewRow w w1.drew x y z n fv k := ⟨h.below.drew, h.lo, h.ne, h.box, h.pl, h.nx⟩
set_option maxRecDepth 100000 in
set_option maxHeartbeats 8000000 in
theorem dRowOf_any (n : Nat) (hn : n ≤ 1000) (gl gc : Nat) (ll lc : Array Value) (key : Int → Int) (cf : Int → Int → Int) (w : World) (hc1 : ∀ x y, cf x y < 0 ↔ key x < key y) (hc2 : ∀ args W, (callFunc gc args).run Try.prog W = .ok (.enter gc args) W)
    (hc3 : ∀ (W : World) (x y : Int), (0 ≤ x ∧ x < n) → (0 ≤ y ∧ y < n) → Below w.heap.size w W → Calls Try.prog gc (#[.int .i64 x, .int .i64 y] ++ lc) W fun r w' => r = .returned (.int .i64 (cf x y)) ∧ Below W.heap.size W w') :
    Calls Try.prog 32 #[.int .i64 (n : Nat), .func (.func gl) #[] ll, .func (.func gc) #[] lc] w fun r w' => ∃ x y z e, r = .returned (.pointer (some ⟨z, 0, none⟩)) ∧ Below w.heap.size w w' ∧ (w.heap.size ≤ x ∧ w.heap.size ≤ y ∧ w.heap.size ≤ z) ∧ (x ≠ y ∧ x ≠ z ∧ y ≠ z) ∧ BoxRow z x y n (.func (.func gl) #[] ll) w' ∧ IntsAt w' x n e ∧ IntsAt w' y n (upTo n 1) ∧ PermO (upTo n 0) e 0 n ∧ SortK key e 0 n := by
  have hmk := mkInts n (by omega)
  have HC := Lib.hid (And.intro hc1 (And.intro hc2 hc3))
  clear hc1 hc2 hc3
  have q9 : (n : Int) ≤ 1000 := by omega
  go_enter Try.func32, Try.ntmps32
  go_upto_region 1 with fail
  refine region_ex3n (f := fun x y z => ({ tmps := #[.int .i64 (n : Nat), .func (.func gl) #[] ll, .func (.func gc) #[] lc, undef, undef, undef, .pointer none, .pointer (some ⟨z, 0, none⟩), undef, .int .i64 (n : Nat), .slice (some ⟨x, 0, none⟩) n n, .int .i64 (n : Nat), .slice (some ⟨y, 0, none⟩) n n, .func (.func gl) #[] ll, .agg #[.slice (some ⟨x, 0, none⟩) n n, .slice (some ⟨y, 0, none⟩) n n, .func (.func gl) #[] ll], .pointer (some ⟨z, 0, none⟩), undef, undef, undef, undef, undef, undef, undef, undef, undef, undef, undef, undef, undef, undef, undef, undef, undef, undef, undef, undef, undef, undef, undef, undef, undef, undef, undef], defers := [] } : Act)) (R := fun x y z w' => NewRow w w' x y z n (.func (.func gl) #[] ll) 0) ?_ (fun x y z w1 hR => ?_)
  · skip
    refine wp_region_held_drew (S := TrueS) (by kernel_rfl) ?_ (fun hHeld => ?_)
    · trivial
    refine take_held (i := 0) (v := ?_) rfl (by kernel_rfl) (by kernel_rfl) (by kernel_rfl) (fun _ _ _ h => h) (by rfl) (fun w hSw => ?_) (by assumption) ?_
    rotate_left
    · go_simp <;> with_reducible rfl
    (try simp only [Act.put, List.setIfInBounds_toArray, List.set_cons_zero, List.set_cons_succ])
    refine take_held (i := 2) (v := ?_) rfl (by kernel_rfl) (by kernel_rfl) (by kernel_rfl) (fun _ _ _ h => h) (by rfl) (fun w hSw => ?_) (by assumption) ?_
    rotate_left
    · go_simp <;> with_reducible rfl
    (try simp only [Act.put, List.setIfInBounds_toArray, List.set_cons_zero, List.set_cons_succ])
    refine take_held (i := 4) (v := ?_) rfl (by kernel_rfl) (by kernel_rfl) (by kernel_rfl) (fun _ _ _ h => h) (by rfl) (fun w hSw => ?_) (by assumption) ?_
    rotate_left
    · go_simp <;> with_reducible rfl
    (try simp only [Act.put, List.setIfInBounds_toArray, List.set_cons_zero, List.set_cons_succ])
    refine step2_held (i := 1) (j := 3) (by kernel_rfl) rfl rfl (fun K' hK => ?_) (fun K' hK => ?_)
    · go_simp
      (first | (refine hK.out _ _ ?_ (fun hHeld2 => ?_)) | (go_wp2_with fail; refine hK.out _ _ ?_ (fun hHeld2 => ?_)))
      · trivial
      clear hK K' hHeld
      have hHeld := hHeld2
      clear hHeld2
      (try simp only [Act.put, List.setIfInBounds_toArray, List.set_cons_zero, List.set_cons_succ])
      refine step_held (i := 3) (by kernel_rfl) rfl (fun K' hK => ?_)
      go_simp
      (first | (refine hK.out _ _ ?_ (fun hHeld2 => ?_)) | (go_wp2_with fail; refine hK.out _ _ ?_ (fun hHeld2 => ?_)))
      · trivial
      clear hK K' hHeld
      have hHeld := hHeld2
      clear hHeld2
      (try simp only [Act.put, List.setIfInBounds_toArray, List.set_cons_zero, List.set_cons_succ])
      refine take_held (i := 5) (v := ?_) rfl (by kernel_rfl) (by kernel_rfl) (by kernel_rfl) (fun _ _ _ h => h) (by rfl) (fun w hSw => ?_) (by assumption) ?_
      rotate_left
      · go_simp <;> with_reducible rfl
      (try simp only [Act.put, List.setIfInBounds_toArray, List.set_cons_zero, List.set_cons_succ])
      refine step_held (i := 6) (by kernel_rfl) rfl (fun K' hK => ?_)
      go_simp
      (first | (refine hK.out _ _ ?_ (fun hHeld2 => ?_)) | (go_wp2_with fail; refine hK.out _ _ ?_ (fun hHeld2 => ?_)))
      · trivial
      clear hK K' hHeld
      have hHeld := hHeld2
      clear hHeld2
      (try simp only [Act.put, List.setIfInBounds_toArray, List.set_cons_zero, List.set_cons_succ])
      refine take_held (i := 7) (v := ?_) rfl (by kernel_rfl) (by kernel_rfl) (by kernel_rfl) (fun _ _ _ h => h) (by rfl) (fun w hSw => ?_) (by assumption) ?_
      rotate_left
      · go_simp <;> with_reducible rfl
      (try simp only [Act.put, List.setIfInBounds_toArray, List.set_cons_zero, List.set_cons_succ])
      refine wpAnyH_done (by kernel_rfl) ?_ _
      first | exact end_exn ⟨w.heap.size, w.heap.size + 1, w.heap.size + 1 + 1, rfl, newRow_a w n _ rfl (by omega) rfl⟩ | exact end_exn ⟨w.heap.size + 1, w.heap.size, w.heap.size + 1 + 1, rfl, newRow_a w n _ rfl (by omega) rfl⟩
    · go_simp
      (first | (refine hK.out _ _ ?_ (fun hHeld2 => ?_)) | (go_wp2_with fail; refine hK.out _ _ ?_ (fun hHeld2 => ?_)))
      · trivial
      clear hK K' hHeld
      have hHeld := hHeld2
      clear hHeld2
      (try simp only [Act.put, List.setIfInBounds_toArray, List.set_cons_zero, List.set_cons_succ])
      refine step_held (i := 1) (by kernel_rfl) rfl (fun K' hK => ?_)
      go_simp
      (first | (refine hK.out _ _ ?_ (fun hHeld2 => ?_)) | (go_wp2_with fail; refine hK.out _ _ ?_ (fun hHeld2 => ?_)))
      · trivial
      clear hK K' hHeld
      have hHeld := hHeld2
      clear hHeld2
      (try simp only [Act.put, List.setIfInBounds_toArray, List.set_cons_zero, List.set_cons_succ])
      refine take_held (i := 5) (v := ?_) rfl (by kernel_rfl) (by kernel_rfl) (by kernel_rfl) (fun _ _ _ h => h) (by rfl) (fun w hSw => ?_) (by assumption) ?_
      rotate_left
      · go_simp <;> with_reducible rfl
      (try simp only [Act.put, List.setIfInBounds_toArray, List.set_cons_zero, List.set_cons_succ])
      refine step_held (i := 6) (by kernel_rfl) rfl (fun K' hK => ?_)
      go_simp
      (first | (refine hK.out _ _ ?_ (fun hHeld2 => ?_)) | (go_wp2_with fail; refine hK.out _ _ ?_ (fun hHeld2 => ?_)))
      · trivial
      clear hK K' hHeld
      have hHeld := hHeld2
      clear hHeld2
      (try simp only [Act.put, List.setIfInBounds_toArray, List.set_cons_zero, List.set_cons_succ])
      refine take_held (i := 7) (v := ?_) rfl (by kernel_rfl) (by kernel_rfl) (by kernel_rfl) (fun _ _ _ h => h) (by rfl) (fun w hSw => ?_) (by assumption) ?_
      rotate_left
      · go_simp <;> with_reducible rfl
      (try simp only [Act.put, List.setIfInBounds_toArray, List.set_cons_zero, List.set_cons_succ])
      refine wpAnyH_done (by kernel_rfl) ?_ _
      first | exact end_exn ⟨w.heap.size, w.heap.size + 1, w.heap.size + 1 + 1, rfl, newRow_a w n _ rfl (by omega) rfl⟩ | exact end_exn ⟨w.heap.size + 1, w.heap.size, w.heap.size + 1 + 1, rfl, newRow_a w n _ rfl (by omega) rfl⟩
  clear hmk
  have HR := Lib.hid hR
  clear hR
  go_wp2_with fail
  go_loopg [8, 17] n (fun q _ i wr => ∃ k : Nat, k + q = n ∧ i = .int .i64 k ∧ NewRow w wr x y z n (.func (.func gl) #[] ll) k)
  case atStart => exact ⟨0, by omega, rfl, HR.out⟩
  case round =>
    obtain ⟨k, hkq, rfl, hN⟩ := hrel
    have HK := Lib.hid hkq
    have HN := Lib.hid hN
    clear hkq hN
    by_cases hk : k < n
    · have hlt : decide ((k : Int) < (n : Int)) = true := by simpa using hk
      have hlt2 : decide (k < n) = true := by simpa using hk
      have q1 : (k : Int) < (n : Int) := by omega
      have HCl := Lib.hid (fun (W : World) (h : BoxRow z x y n (.func (.func gl) #[] ll) W) => And.intro (cell_of_row W z 0 _ _ _ h) (cell_of_row W z 1 _ _ _ h))
      have HNx := Lib.hid (HN.out.step hk)
      have c5 := HN.out.pl.cell hk
      have f5 := HN.out.pl.frozen k
      have g6 := HN.out.nx.keep ((mut_setI wr x k (.int .i64 (k : Nat))).block y HN.out.nx.lt (fun e => HN.out.ne.1 e.symm))
      have c6 := g6.cell hk
      have f6 := g6.frozen k
      have HBx := Lib.hid (show BoxRow z x y n (.func (.func gl) #[] ll) wr from HN.out.box)
      have HBx2 := Lib.hid (show BoxRow z x y n (.func (.func gl) #[] ll) (wr.setCell ⟨x, k, none⟩ (.int .i64 (k : Nat))) from ((mut_setI wr x k (.int .i64 (k : Nat))).block z (lt_of_heap HN.out.box) (fun e => HN.out.ne.2.1 e.symm)).trans HN.out.box)
      have HBx3 := Lib.hid (show BoxRow z x y n (.func (.func gl) #[] ll) ((wr.setCell ⟨x, k, none⟩ (.int .i64 (k : Nat))).setCell ⟨y, k, none⟩ (.int .i64 ((k : Int) + 1))) from HNx.out.box)
      have hw : IntKind.i64.wrap ((k : Int) + 1) = (k : Int) + 1 := IntWalk.i64_in _ (by omega)
      clear g6 hk
      go_wp2_with fail
      refine wp_region_held_drew (S := BoxRow z x y n (.func (.func gl) #[] ll)) (by kernel_rfl) ?_ (fun hHeld => ?_)
      · exact HBx.out
      refine take_held (i := 0) (v := ?_) rfl (by kernel_rfl) (by kernel_rfl) (by kernel_rfl) (fun _ _ _ h => h) (by rfl) (fun w hSw => ?_) (by assumption) ?_
      rotate_left
      · go_simp <;> with_reducible rfl
      (try simp only [Act.put, List.setIfInBounds_toArray, List.set_cons_zero, List.set_cons_succ])
      refine take_held (i := 1) (v := ?_) rfl (by kernel_rfl) (by kernel_rfl) (by kernel_rfl) (fun _ _ _ h => h) (by rfl) (fun w hSw => ?_) (by assumption) ?_
      rotate_left
      · go_simp <;> with_reducible rfl
      (try simp only [Act.put, List.setIfInBounds_toArray, List.set_cons_zero, List.set_cons_succ])
      refine take_held (i := 2) (v := ?_) rfl (by kernel_rfl) (by kernel_rfl) (by kernel_rfl) (fun _ _ _ h => h) (by rfl) (fun w hSw => ?_) (by assumption) ?_
      rotate_left
      · go_simp <;> with_reducible rfl
      (try simp only [Act.put, List.setIfInBounds_toArray, List.set_cons_zero, List.set_cons_succ])
      refine take_held (i := 3) (v := ?_) rfl (by kernel_rfl) (by kernel_rfl) (by kernel_rfl) (fun _ _ _ h => h) (by rfl) (fun w hSw => ?_) (by assumption) ?_
      rotate_left
      · obtain ⟨c0, c1⟩ := HCl.out _ hSw; go_simp <;> with_reducible rfl
      (try simp only [Act.put, List.setIfInBounds_toArray, List.set_cons_zero, List.set_cons_succ])
      refine take_held (i := 4) (v := ?_) rfl (by kernel_rfl) (by kernel_rfl) (by kernel_rfl) (fun _ _ _ h => h) (by rfl) (fun w hSw => ?_) (by assumption) ?_
      rotate_left
      · go_simp <;> with_reducible rfl
      (try simp only [Act.put, List.setIfInBounds_toArray, List.set_cons_zero, List.set_cons_succ])
      refine take_held (i := 5) (v := ?_) rfl (by kernel_rfl) (by kernel_rfl) (by kernel_rfl) (fun _ _ _ h => h) (by rfl) (fun w hSw => ?_) (by assumption) ?_
      rotate_left
      · go_simp <;> with_reducible rfl
      (try simp only [Act.put, List.setIfInBounds_toArray, List.set_cons_zero, List.set_cons_succ])
      refine take_held (i := 6) (v := ?_) rfl (by kernel_rfl) (by kernel_rfl) (by kernel_rfl) (fun _ _ _ h => h) (by rfl) (fun w hSw => ?_) (by assumption) ?_
      rotate_left
      · go_simp <;> with_reducible rfl
      (try simp only [Act.put, List.setIfInBounds_toArray, List.set_cons_zero, List.set_cons_succ])
      refine take_held (i := 7) (v := ?_) rfl (by kernel_rfl) (by kernel_rfl) (by kernel_rfl) (fun _ _ _ h => h) (by rfl) (fun w hSw => ?_) (by assumption) ?_
      rotate_left
      · go_simp <;> with_reducible rfl
      (try simp only [Act.put, List.setIfInBounds_toArray, List.set_cons_zero, List.set_cons_succ])
      refine take_held (i := 8) (v := ?_) rfl (by kernel_rfl) (by kernel_rfl) (by kernel_rfl) (fun _ _ _ h => h) (by rfl) (fun w hSw => ?_) (by assumption) ?_
      rotate_left
      · obtain ⟨c0, c1⟩ := HCl.out _ hSw; go_simp <;> with_reducible rfl
      (try simp only [Act.put, List.setIfInBounds_toArray, List.set_cons_zero, List.set_cons_succ])
      refine take_held (i := 9) (v := ?_) rfl (by kernel_rfl) (by kernel_rfl) (by kernel_rfl) (fun _ _ _ h => h) (by rfl) (fun w hSw => ?_) (by assumption) ?_
      rotate_left
      · go_simp <;> with_reducible rfl
      (try simp only [Act.put, List.setIfInBounds_toArray, List.set_cons_zero, List.set_cons_succ])
      refine take_held (i := 10) (v := ?_) rfl (by kernel_rfl) (by kernel_rfl) (by kernel_rfl) (fun _ _ _ h => h) (by rfl) (fun w hSw => ?_) (by assumption) ?_
      rotate_left
      · go_simp <;> with_reducible rfl
      (try simp only [Act.put, List.setIfInBounds_toArray, List.set_cons_zero, List.set_cons_succ])
      refine take_held (i := 11) (v := ?_) rfl (by kernel_rfl) (by kernel_rfl) (by kernel_rfl) (fun _ _ _ h => h) (by rfl) (fun w hSw => ?_) (by assumption) ?_
      rotate_left
      · go_simp <;> with_reducible rfl
      (try simp only [Act.put, List.setIfInBounds_toArray, List.set_cons_zero, List.set_cons_succ])
      refine take_held (i := 12) (v := ?_) rfl (by kernel_rfl) (by kernel_rfl) (by kernel_rfl) (fun _ _ _ h => h) (by rfl) (fun w hSw => ?_) (by assumption) ?_
      rotate_left
      · go_simp <;> with_reducible rfl
      (try simp only [Act.put, List.setIfInBounds_toArray, List.set_cons_zero, List.set_cons_succ])
      refine take_held (i := 13) (v := ?_) rfl (by kernel_rfl) (by kernel_rfl) (by kernel_rfl) (fun _ _ _ h => h) (by rfl) (fun w hSw => ?_) (by assumption) ?_
      rotate_left
      · go_simp <;> with_reducible rfl
      (try simp only [Act.put, List.setIfInBounds_toArray, List.set_cons_zero, List.set_cons_succ])
      refine step_held (i := 14) (by kernel_rfl) rfl (fun K' hK => ?_)
      go_simp
      (first | (refine hK.out _ _ ?_ (fun hHeld2 => ?_)) | (go_wp2_with fail; refine hK.out _ _ ?_ (fun hHeld2 => ?_)))
      · exact HBx2.out
      clear hK K' hHeld
      have hHeld := hHeld2
      clear hHeld2
      (try simp only [Act.put, List.setIfInBounds_toArray, List.set_cons_zero, List.set_cons_succ])
      refine take_held (i := 15) (v := ?_) rfl (by kernel_rfl) (by kernel_rfl) (by kernel_rfl) (fun _ _ _ h => h) (by rfl) (fun w hSw => ?_) (by assumption) ?_
      rotate_left
      · go_simp <;> with_reducible rfl
      (try simp only [Act.put, List.setIfInBounds_toArray, List.set_cons_zero, List.set_cons_succ])
      refine step_held (i := 16) (by kernel_rfl) rfl (fun K' hK => ?_)
      go_simp
      (first | (refine hK.out _ _ ?_ (fun hHeld2 => ?_)) | (go_wp2_with fail; refine hK.out _ _ ?_ (fun hHeld2 => ?_)))
      · exact HBx3.out
      clear hK K' hHeld
      have hHeld := hHeld2
      clear hHeld2
      (try simp only [Act.put, List.setIfInBounds_toArray, List.set_cons_zero, List.set_cons_succ])
      refine wpAnyH_done (by kernel_rfl) ?_ _
      go_wp2_with fail
      go_roundg (gk - 1)
      case measure => have := HK.out; omega
      case rel => exact ⟨k + 1, by have := HK.out; omega, by go_num, by first | exact HNx.out | exact HNx.out.drew⟩
    · have hlt : decide ((k : Int) < (n : Int)) = false := by simpa using hk
      have hlt2 : decide (k < n) = false := by simpa using hk
      obtain rfl : k = n := by have := HK.out; omega
      have hS := sortStable_any gc lc key cf (fun v => 0 ≤ v ∧ v < k) x k k (upTo k 0) wr HN.out.pl ⟨HC.out.1, HC.out.2.1, fun W a b ha hb hm => HC.out.2.2 W a b ha hb (HN.out.below.trans (hm.below HN.out.below.size fun q e => by rw [e]; exact HN.out.lo.1))⟩ (by omega) (fun i hi => by unfold upTo; rw [if_pos hi]; omega) (fun i j hij hj => by unfold upTo; rw [if_pos (by omega), if_pos hj]; omega)
      have HS := Lib.hid hS
      obtain ⟨c0, c1⟩ := (show _ ∧ _ from And.intro (cell_of_row wr z 0 _ _ _ HN.out.box) (cell_of_row wr z 1 _ _ _ HN.out.box))
      clear hS hk
      go_wp2_with fail
      (with_reducible refine HS.out.mono ?_)
      rintro r w2 ⟨rfl, hE, hm⟩
      have HE := Lib.hid hE
      have HM := Lib.hid hm
      clear hE hm HS c0 c1
      go_wp2_with fail
      go_ret
      obtain ⟨e, he1, he2, he3⟩ := HE.out
      exact ⟨x, y, z, e, rfl, HN.out.below.trans (HM.out.below HN.out.below.size fun q e => by rw [e]; exact HN.out.lo.1), HN.out.lo, HN.out.ne, (HM.out.block z (lt_of_heap HN.out.box) (fun e => HN.out.ne.2.1 e.symm)).trans HN.out.box, he1, HN.out.nx.keep (HM.out.block y HN.out.nx.lt (fun e => HN.out.ne.1 e.symm)), he2, he3⟩
end Go.Proofs.Ytfdiidhilonkoaa
