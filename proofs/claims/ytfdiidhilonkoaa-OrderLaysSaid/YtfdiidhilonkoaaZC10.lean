import Derived.Test.YtfdiidhilonkoaaZC08
import Derived.Test.YtfdiidhilonkoaaZC09
import Derived.Deep.LoopGhost
import Derived.Deep.DeepCutAuto
import Derived.IntWalk
import Derived.Test.YtfdiidhilonkoaaZC00
import Derived.BigQuiet
set_option linter.unusedVariables false
/-
  Rows of ints in memory, cell by cell; two rows swapped, a row turned.
-/
namespace Go.Proofs.Ytfdiidhilonkoaa
open Go.RowKit

/-- The first n cells of block g are these numbers. -/
def IntsAt (w : World) (g n : Nat) (d : Nat → Int) : Prop := ∃ cur : Array Value, w.heap[g]? = some (.cells cur 3 (0, 0)) ∧ ∀ i, i < n → cur[i]? = some (.int .i64 (d i))
def updI (d : Nat → Int) (i : Nat) (x : Int) : Nat → Int := fun k => if k = i then x else d k
section
variable {w w' : World} {g n : Nat} {d : Nat → Int}
theorem IntsAt.lt (h : IntsAt w g n d) : g < w.heap.size := by
  obtain ⟨cur, h1, _⟩ := h
  exact lt_of_heap h1
theorem IntsAt.cell (h : IntsAt w g n d) {i : Nat} (hi : i < n) : w.cell? ⟨g, i, none⟩ = some (.int .i64 (d i)) := by
  obtain ⟨cur, h1, h2⟩ := h
  rw [cell_of_row w g i _ _ _ h1]
  exact h2 i hi
theorem IntsAt.frozen (h : IntsAt w g n d) (i : Nat) : w.frozen? ⟨g, i, none⟩ = false := by
  obtain ⟨cur, h1, h2⟩ := h
  exact frozen_of h1 i
theorem IntsAt.keep (h : IntsAt w g n d) (hk : w'.heap[g]? = w.heap[g]?) : IntsAt w' g n d := by
  obtain ⟨cur, h1, h2⟩ := h
  exact ⟨cur, hk.trans h1, h2⟩
theorem IntsAt.set (h : IntsAt w g n d) (i : Nat) (x : Int) : IntsAt (w.setCell ⟨g, i, none⟩ (.int .i64 x)) g n (updI d i x) := by
  obtain ⟨cur, h1, h2⟩ := h
  refine ⟨_, heap_setCell_same w g i _ _ _ h1, fun k hk => ?_⟩
  unfold updI
  have hc := h2 k hk
  have hks : k < cur.size := (Array.getElem?_eq_some_iff.1 hc).1
  by_cases e : k = i
  · subst e
    rw [if_pos rfl, Array.getElem?_setIfInBounds_self_of_lt hks]
  · rw [if_neg e, Array.getElem?_setIfInBounds_ne (fun q => e q.symm)]
    exact hc
theorem IntsAt.eq (h : IntsAt w g n d) {e : Nat → Int} (he : ∀ i, i < n → d i = e i) : IntsAt w g n e := by
  obtain ⟨cur, h1, h2⟩ := h
  exact ⟨cur, h1, fun i hi => by rw [← he i hi]; exact h2 i hi⟩
theorem mut_setI (w : World) (g i : Nat) (v : Value) : Mut (fun k => k = g) w (w.setCell ⟨g, i, none⟩ v) := by
  refine ⟨rfl, rfl, rfl, by simp [World.setCell], fun k hk hn => ?_⟩
  unfold World.setCell
  simp only
  rw [Array.getElem?_modify, if_neg (fun e => hn e.symm)]
end
theorem mut_drewI {F : Nat → Prop} {w w' : World} (h : Mut F w w') : Mut F w w'.drew := ⟨h.os, h.tape, h.output, h.size, h.block⟩
/-- Rows of n from a on and from b on, swapped. -/
def swapF (d : Nat → Int) (a b n : Nat) : Nat → Int := fun k => if a ≤ k ∧ k < a + n then d (k + (b - a)) else if b ≤ k ∧ k < b + n then d (k - (b - a)) else d k
/-- From a up to m, and from m up to b, one behind the other, turned. -/
def rotF (d : Nat → Int) (a m b : Nat) : Nat → Int := fun k => if a ≤ k ∧ k < a + (b - m) then d (k + (m - a)) else if a + (b - m) ≤ k ∧ k < b then d (k - (b - m)) else d k
theorem swap_step (d : Nat → Int) {a b i : Nat} (h : a + i < b) : ∀ k, updI (updI (swapF d a b i) (a + i) (swapF d a b i (b + i))) (b + i) (swapF d a b i (a + i)) k = swapF d a b (i + 1) k := fun k => by
  unfold updI swapF
  repeat' split
  all_goals first | (exfalso; omega) | exact congrArg d (by omega)
theorem rot_more (e : Nat → Int) {m i j : Nat} (h : j < i) (hi : i ≤ m) : ∀ k, rotF (swapF e (m - i) m j) (m - (i - j)) m (m + j) k = rotF e (m - i) m (m + j) k := fun k => by
  unfold rotF swapF
  repeat' split
  all_goals first | (exfalso; omega) | exact congrArg e (by omega)
theorem rot_less (e : Nat → Int) {m i j : Nat} (h : i < j) (hi : i ≤ m) : ∀ k, rotF (swapF e (m - i) (m + j - i) i) (m - i) m (m + (j - i)) k = rotF e (m - i) m (m + j) k := fun k => by
  unfold rotF swapF
  repeat' split
  all_goals first | (exfalso; omega) | exact congrArg e (by omega)
theorem rot_same (e : Nat → Int) {m i : Nat} (hi : i ≤ m) : ∀ k, swapF e (m - i) m i k = rotF e (m - i) m (m + i) k := fun k => by
  unfold rotF swapF
  repeat' split
  all_goals first | (exfalso; omega) | exact congrArg e (by omega)
end Go.Proofs.Ytfdiidhilonkoaa

/-
  slices.swapRangeCmpFunc of ints.
-/
namespace Go.Proofs.Ytfdiidhilonkoaa
open Go.RowKit

set_option maxRecDepth 100000 in
set_option maxHeartbeats 4000000 in
theorem swapRange_any (g len cap a b n : Nat) (d : Nat → Int) (fv : Value) (w : World) (h : IntsAt w g len d) (h1 : a + n ≤ b) (h2 : b + n ≤ len) (h3 : len ≤ 1000000) :
    Calls Try.prog 68 #[.slice (some ⟨g, 0, none⟩) len cap, .int .i64 (a : Nat), .int .i64 (b : Nat), .int .i64 (n : Nat), fv] w fun r w' => r = .returned (.tuple #[]) ∧ IntsAt w' g len (swapF d a b n) ∧ Mut (fun k => k = g) w w' := by
  have H0 := Lib.hid h
  clear h
  go_enter Try.func68, Try.ntmps68
  go_wp2
  go_loopg [10] n (fun q i wr => ∃ j : Nat, j + q = n ∧ i = .int .i64 (j : Nat) ∧ IntsAt wr g len (swapF d a b j) ∧ Mut (fun k => k = g) w wr)
  case atStart => exact ⟨0, by omega, rfl, H0.out.eq (fun i _ => by unfold swapF; rw [if_neg (by omega), if_neg (by omega)]), Mut.refl _ _⟩
  case round =>
    obtain ⟨j, hk, rfl, hi, hm⟩ := hrel
    have HI := Lib.hid hi
    have HM := Lib.hid hm
    clear hi hm
    by_cases hj : j < n
    · have hlt : decide ((j : Int) < (n : Int)) = true := by simpa using hj
      have c1 := HI.out.cell (i := a + j) (by omega)
      have c2 := HI.out.cell (i := b + j) (by omega)
      have f1 := HI.out.frozen (a + j)
      have f2 := HI.out.frozen (b + j)
      have HS := Lib.hid (((HI.out.set (a + j) (swapF d a b j (b + j))).set (b + j) (swapF d a b j (a + j))).eq fun i _ => swap_step d (by omega : a + j < b) i)
      generalize swapF d a b j (a + j) = x at *
      generalize swapF d a b j (b + j) = y at *
      go_wp2
      go_region
      go_wp2
      go_roundg (gk - 1)
      case measure => omega
      case rel => exact ⟨j + 1, by omega, by go_num, HS.out, HM.out.trans (mut_drewI ((mut_setI wr g (a + j) (.int .i64 y)).trans (mut_setI _ g (b + j) (.int .i64 x)) (fun _ e => .inl e))) (fun _ e => .inl e)⟩
    · have hlt : decide ((j : Int) < (n : Int)) = false := by simpa using hj
      have e : j = n := by omega
      subst e
      go_wp2
      exact bodyPost_end (v := .tuple #[]) (by simp [results, Try.results68, go_sem]) rfl ⟨rfl, HI.out, HM.out⟩
set_option maxRecDepth 100000 in
set_option maxHeartbeats 4000000 in
theorem rotate_any (g len cap a m b : Nat) (d : Nat → Int) (fv : Value) (w : World) (h : IntsAt w g len d) (h1 : a < m) (h2 : m < b) (h3 : b ≤ len) (h4 : len ≤ 1000000) :
    Calls Try.prog 63 #[.slice (some ⟨g, 0, none⟩) len cap, .int .i64 (a : Nat), .int .i64 (m : Nat), .int .i64 (b : Nat), fv] w fun r w' => r = .returned (.tuple #[]) ∧ IntsAt w' g len (rotF d a m b) ∧ Mut (fun k => k = g) w w' := by
  have H0 := Lib.hid h
  have HSw := Lib.hid fun (x y n : Nat) (e : Nat → Int) (W : World) (hi : IntsAt W g len e) (q1 : x + n ≤ y) (q2 : y + n ≤ len) => swapRange_any g len cap x y n e fv W hi q1 q2 h4
  clear h
  go_enter Try.func63, Try.ntmps63
  go_wp2
  go_loopg [10, 11] (b - a) (fun q i j wr => ∃ (x y : Nat) (e : Nat → Int), i = .int .i64 (x : Nat) ∧ j = .int .i64 (y : Nat) ∧ x + y ≤ q ∧ 0 < x ∧ 0 < y ∧ a ≤ m - x ∧ x ≤ m ∧ m + y ≤ b ∧ IntsAt wr g len e ∧ (∀ k, rotF e (m - x) m (m + y) k = rotF d a m b k) ∧ Mut (fun k => k = g) w wr)
  case atStart => exact ⟨m - a, b - m, d, by go_num, by go_num, by omega, by omega, by omega, by omega, by omega, by omega, H0.out, fun k => by rw [show m - (m - a) = a by omega, show m + (b - m) = b by omega], Mut.refl _ _⟩
  case round =>
    obtain ⟨x, y, e, rfl, rfl, hq, hx, hy, ha, hxm, hyb, hi, hr, hm⟩ := hrel
    have HI := Lib.hid hi
    have HR := Lib.hid hr
    have HM := Lib.hid hm
    clear hi hr hm
    by_cases hxy : x = y
    · subst hxy
      have HC := Lib.hid (HSw.out (m - x) m x e wr HI.out (by omega) (by omega))
      rw [show ((m - x : Nat) : Int) = (m : Int) - (x : Int) by omega] at HC
      have HFin := Lib.hid (fun k => (rot_same e hxm k).trans (HR.out k))
      go_wp2_with (go_at_call 68; refine HC.out.mono ?_; rintro r w9 ⟨rfl, hi9, hm9⟩)
      exact bodyPost_end (v := .tuple #[]) (by simp [results, Try.results63, go_sem]) rfl ⟨rfl, hi9.eq fun k _ => HFin.out k, HM.out.trans hm9 (fun _ e => .inl e)⟩
    · have hne : ((x : Int) == (y : Int)) = false := by simpa using (by omega : (x : Int) ≠ (y : Int))
      by_cases hg : y < x
      · have hlt : decide ((y : Int) < (x : Int)) = true := by simpa using hg
        have HC := Lib.hid (HSw.out (m - x) m y e wr HI.out (by omega) (by omega))
        rw [show ((m - x : Nat) : Int) = (m : Int) - (x : Int) by omega] at HC
        have HFin := Lib.hid (fun k => (rot_more e hg hxm k).trans (HR.out k))
        go_wp2_with (go_at_call 68; refine HC.out.mono ?_; rintro r w9 ⟨rfl, hi9, hm9⟩)
        go_roundg (gk - 1)
        case measure => omega
        case rel => exact ⟨x - y, y, _, by go_num, rfl, by omega, by omega, hy, by omega, by omega, hyb, hi9, HFin.out, HM.out.trans hm9 (fun _ e => .inl e)⟩
      · have hlt : decide ((y : Int) < (x : Int)) = false := by simpa using hg
        have HC := Lib.hid (HSw.out (m - x) (m + y - x) x e wr HI.out (by omega) (by omega))
        rw [show ((m - x : Nat) : Int) = (m : Int) - (x : Int) by omega, show ((m + y - x : Nat) : Int) = (m : Int) + (y : Int) - (x : Int) by omega] at HC
        have HFin := Lib.hid (fun k => (rot_less e (by omega : x < y) hxm k).trans (HR.out k))
        go_wp2_with (go_at_call 68; refine HC.out.mono ?_; rintro r w9 ⟨rfl, hi9, hm9⟩)
        go_roundg (gk - 1)
        case measure => omega
        case rel => exact ⟨x, y - x, _, rfl, by go_num, by omega, hx, by omega, ha, hxm, by omega, hi9, HFin.out, HM.out.trans hm9 (fun _ e => .inl e)⟩
end Go.Proofs.Ytfdiidhilonkoaa

/-
  A region that draws its order, walked once in the order of its text over a class of worlds.
-/
namespace Go.Proofs.Ytfdiidhilonkoaa
open Go.RowKit

theorem wp_region_classJ {P : Program} {C : World → Prop} {id : Nat} {Q : Exit → Act → World → Prop} {a : Act} {w : World} {l : List Oper} (hm : P.follows .mixedOrders = true) (hB : Region.lexB .any l.toArray = true) (hC : C w.drew)
    (h : wpQuiet P l.toArray C (fun a' => ∀ w', C w' → Q .normal a' w') l a) : (Code.region id l.toArray true).wp P Q a w :=
  wp_region_quiet (C := C) hm hB hC (by simpa using h)
end Go.Proofs.Ytfdiidhilonkoaa
