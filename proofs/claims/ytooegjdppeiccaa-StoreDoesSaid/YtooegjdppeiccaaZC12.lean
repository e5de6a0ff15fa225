import Derived.Test.YtooegjdppeiccaaZC11
import Derived.Deep.DeepCutAuto
/-
  The statements' own helpers on stores: what was told held against what was told; far limits; a store made; a write put.
-/
namespace Go.Proofs.Ytooegjdppeiccaa
open Go.RowKit

def toldVal (t : ToldS) (A : Option Addr) (c : Nat) (B : Option Addr) (d : Nat) : Value := .agg #[.int .u64 t.n, .int .i64 t.e, .slice A t.b.length c, .bool t.is, .slice B t.scan.length d]
def sameT (a b : ToldS) : Bool := decide (a.n = b.n) && decide (a.e = b.e) && (a.b == b.b) && (a.is == b.is) && sameP a.scan b.scan
theorem sameT_eq (a b : ToldS) : sameT a b = true ↔ a = b := by
  unfold sameT sameP
  cases a; cases b
  simp [and_assoc]
theorem u64_eq (a b : Nat) : ((a : Int) == (b : Int)) = decide (a = b) := by
  rw [Bool.eq_iff_iff, beq_iff_eq, decide_eq_true_iff]
  omega
theorem i64_eq (a b : Int) : (a == b) = decide (a = b) := by
  rw [Bool.eq_iff_iff, beq_iff_eq, decide_eq_true_iff]
/-- What was told, in memory. -/
def ToldIn (w : World) (lo hi : Nat) (t : ToldS) (A : Option Addr) (c : Nat) (B : Option Addr) (d : Nat) : Prop := SlI w lo hi A c t.b ∧ ChP w lo hi B d t.scan

theorem dEqualJ (l1 l2 : List UInt8) (A1 A2 : Option Addr) (c1 c2 : Nat) {lo1 hi1 lo2 hi2 : Nat} (w : World) (h1 : SlI w lo1 hi1 A1 c1 l1) (h2 : SlI w lo2 hi2 A2 c2 l2) :
    Calls Try.prog 61 #[.slice A1 l1.length c1, .slice A2 l2.length c2] w fun e w' => e = .returned (.bool (l1 == l2)) ∧ w = w' :=
  equal_any A1 A2 c1 c2 l1.length l2.length lo1 hi1 lo2 hi2 l1 l2 w rfl rfl h1.2.2.2 h2.2.2.2
set_option maxRecDepth 100000 in
set_option maxHeartbeats 4000000 in
theorem sameT_any (s t : ToldS) (A B A' B' : Option Addr) (c d c' d' lo1 hi1 lo2 hi2 : Nat) (w : World) (h1 : ToldIn w lo1 hi1 s A c B d) (h2 : ToldIn w lo2 hi2 t A' c' B' d') (hh1 : hi1 ≤ w.heap.size) (hh2 : hi2 ≤ w.heap.size) :
    Calls Try.prog 15 #[toldVal s A c B d, toldVal t A' c' B' d'] w fun r w' => r = .returned (.bool (sameT s t)) ∧ Below w.heap.size w w' := by
  obtain ⟨n1, e1, b1, i1, p1⟩ := s
  obtain ⟨n2, e2, b2, i2, p2⟩ := t
  obtain ⟨hb1, hp1⟩ := h1
  obtain ⟨hb2, hp2⟩ := h2
  simp only at hb1 hp1 hb2 hp2
  have hba : Below w.heap.size w ((w.alloc (.cells #[.int .u64 n1, .int .i64 e1, .slice A b1.length c, .bool i1, .slice B p1.length d] 44)).alloc (.cells #[.int .u64 n2, .int .i64 e2, .slice A' b2.length c', .bool i2, .slice B' p2.length d'] 44)) :=
    ((Below.refl _ w).alloc (Nat.le_refl _) _).alloc (by simp) _
  have hl1 : p1.length ≤ 9223372036854775807 := by have := hp1.1; have := hp1.2.1; unfold maxLen at *; omega
  have hl2 : p2.length ≤ 9223372036854775807 := by have := hp2.1; have := hp2.2.1; unfold maxLen at *; omega
  have HE := Lib.hid (dEqualJ b1 b2 A A' c c' _ (hb1.below hba hh1 (Nat.le_refl _)) (hb2.below hba hh2 (Nat.le_refl _)))
  have HP := Lib.hid (samePairs_any p1 p2 B B' d d' lo1 hi1 lo2 hi2 _ hl1 hl2 (by obtain ⟨_, _, _, ms, e, g1, g2⟩ := hp1; exact ⟨ms, e, (g1.below hba hh1).wide (Nat.le_refl _) (Nat.le_refl _), fun x hx => (g2 x hx).below hba hh1 (Nat.le_refl _)⟩) (by obtain ⟨_, _, _, ms, e, g1, g2⟩ := hp2; exact ⟨ms, e, (g1.below hba hh2).wide (Nat.le_refl _) (Nat.le_refl _), fun x hx => (g2 x hx).below hba hh2 (Nat.le_refl _)⟩))
  have HB := Lib.hid hba
  have q1 := u64_eq n1 n2
  have q2 := i64_eq e1 e2
  have HF : Hid (sameT ⟨n1, e1, b1, i1, p1⟩ ⟨n2, e2, b2, i2, p2⟩ = (decide (n1 = n2) && decide (e1 = e2) && (b1 == b2) && (i1 == i2) && sameP p1 p2)) := Lib.hid rfl
  clear hb1 hp1 hb2 hp2 hba
  rw [HF.out]
  clear HF
  unfold toldVal
  simp only
  generalize decide (n1 = n2) = k1 at *
  generalize decide (e1 = e2) = k2 at *
  generalize (b1 == b2) = k3 at *
  have q4 : (i1 == i2) = (i1 == i2) := rfl
  generalize hk4 : (i1 == i2) = k4 at *
  generalize sameP p1 p2 = k5 at *
  cases k1
  · go_enter Try.func15, Try.ntmps15
    go_wp2_with fail
    go_ret
    exact ⟨rfl, HB.out⟩
  · cases k2
    · go_enter Try.func15, Try.ntmps15
      go_wp2_with fail
      go_ret
      exact ⟨rfl, HB.out⟩
    · go_enter Try.func15, Try.ntmps15
      go_wp2_with fail
      refine HE.out.mono ?_
      rintro r w2 ⟨rfl, rfl⟩
      cases k3
      · go_wp2_with fail
        go_ret
        exact ⟨rfl, HB.out⟩
      · cases k4
        · go_wp2_with fail
          go_ret
          exact ⟨rfl, HB.out⟩
        · go_wp2_with fail
          refine HP.out.mono ?_
          rintro r w3 ⟨rfl, hb3⟩
          have HB3 := Lib.hid (HB.out.trans (hb3.mono HB.out.size))
          clear hb3
          go_wp2_with fail
          go_ret
          exact ⟨by simp, HB3.out⟩
end Go.Proofs.Ytooegjdppeiccaa

/-
  The statements' own helpers on stores: far limits; a write put; a store made.
-/
namespace Go.Proofs.Ytooegjdppeiccaa
open Go.RowKit

def BigL : LimS := ⟨1000, 10000, 1048576, 1099511627776⟩
theorem big_may : MayS BigL = true := by decide
theorem box7_set {w : World} {b : Nat} {e : TypeId} {a0 a1 a2 a3 a4 a5 a6 : Value} (h : w.heap[b]? = some (.cells #[a0, a1, a2, a3, a4, a5, a6] e (0, 0))) (v0 v1 v2 v3 v4 v5 v6 : Value) :
    (((((((w.setCell ⟨b, 0, none⟩ v0).setCell ⟨b, 1, none⟩ v1).setCell ⟨b, 2, none⟩ v2).setCell ⟨b, 3, none⟩ v3).setCell ⟨b, 4, none⟩ v4).setCell ⟨b, 5, none⟩ v5).setCell ⟨b, 6, none⟩ v6).heap[b]? = some (.cells #[v0, v1, v2, v3, v4, v5, v6] e (0, 0)) := by
  simp [World.setCell, Array.getElem?_modify, h]
theorem Below.box7 {w w' : World} {B b : Nat} (h : Below B w w') (hb : B ≤ b) (v0 v1 v2 v3 v4 v5 v6 : Value) : Below B w (((((((w'.setCell ⟨b, 0, none⟩ v0).setCell ⟨b, 1, none⟩ v1).setCell ⟨b, 2, none⟩ v2).setCell ⟨b, 3, none⟩ v3).setCell ⟨b, 4, none⟩ v4).setCell ⟨b, 5, none⟩ v5).setCell ⟨b, 6, none⟩ v6) :=
  ((((((h.setCell hb _).setCell hb _).setCell hb _).setCell hb _).setCell hb _).setCell hb _).setCell hb _
set_option maxRecDepth 100000 in
set_option maxHeartbeats 4000000 in
theorem big_any (w : World) : Calls Try.prog 53 #[] w fun r w' => r = .returned (limVal BigL 1000 1000 16) ∧ Below w.heap.size w w' := by
  obtain ⟨w0, hw0⟩ : ∃ y, w.alloc (.cells #[.int .i64 0, .int .i64 0, .int .i64 0, .int .i64 0, .int .i64 0, .int .i64 0, .int .u64 0] 24) = y := ⟨_, rfl⟩
  have b0 : Below w.heap.size w w0 := by rw [← hw0]; exact (Below.refl _ w).alloc (Nat.le_refl _) _
  have h0 : w0.heap[w.heap.size]? = some (.cells #[.int .i64 0, .int .i64 0, .int .i64 0, .int .i64 0, .int .i64 0, .int .i64 0, .int .u64 0] 24 (0, 0)) := by rw [← hw0]; exact heap_alloc_new w _
  have f0 := frozen_of h0 0
  have f1 := frozen_of h0 1
  have f2 := frozen_of h0 2
  have f3 := frozen_of h0 3
  have f4 := frozen_of h0 4
  have f5 := frozen_of h0 5
  have f6 := frozen_of h0 6
  have z0 := cell_of_row w0 _ 0 _ _ _ h0
  have z1 := cell_of_row w0 _ 1 _ _ _ h0
  have z2 := cell_of_row w0 _ 2 _ _ _ h0
  have z3 := cell_of_row w0 _ 3 _ _ _ h0
  have z4 := cell_of_row w0 _ 4 _ _ _ h0
  have z5 := cell_of_row w0 _ 5 _ _ _ h0
  have z6 := cell_of_row w0 _ 6 _ _ _ h0
  have HZ := Lib.hid (box7_set h0 (.int .i64 1000) (.int .i64 10000) (.int .i64 1048576) (.int .i64 1000) (.int .i64 1000) (.int .i64 16) (.int .u64 1099511627776))
  have HB := Lib.hid (Below.box7 b0 (Nat.le_refl _) (.int .i64 1000) (.int .i64 10000) (.int .i64 1048576) (.int .i64 1000) (.int .i64 1000) (.int .i64 16) (.int .u64 1099511627776))
  have HW0 := Lib.hid hw0
  clear h0 b0 hw0
  go_enter Try.func53, Try.ntmps53
  go_upto_region 1 with fail
  rw [HW0.out]
  clear HW0
  go_wp2
  have t0 := cell_of_row _ _ 0 _ _ _ HZ.out
  have t1 := cell_of_row _ _ 1 _ _ _ HZ.out
  have t2 := cell_of_row _ _ 2 _ _ _ HZ.out
  have t3 := cell_of_row _ _ 3 _ _ _ HZ.out
  have t4 := cell_of_row _ _ 4 _ _ _ HZ.out
  have t5 := cell_of_row _ _ 5 _ _ _ HZ.out
  have t6 := cell_of_row _ _ 6 _ _ _ HZ.out
  refine bodyPost_ret (v := limVal BigL 1000 1000 16) (by simp [results, Try.results53, go_sem, t0, t1, t2, t3, t4, t5, t6]; rfl) rfl ?_
  exact ⟨rfl, HB.out⟩

set_option maxRecDepth 100000 in
set_option maxHeartbeats 4000000 in
theorem put_ax (w : World) : Calls Try.prog 55 #[.string ⟨#[97]⟩, .string ⟨#[120]⟩] w fun r w' => ∃ A, r = .returned (.slice A 1 1) ∧ ChW w' w.heap.size w'.heap.size A 1 [⟨[97], false, [120]⟩] ∧ Below w.heap.size w w' := by
  have hcv := fun W => run_bytes_of_string (P := Try.prog) W 9 41 5 ⟨#[120]⟩ Try.underlying9 Try.underlying41 Try.underlying5
  go_enter Try.func55, Try.ntmps55
  go_wp2
  go_ret
  have hg1 := grownCap_ge w 1 0 5
  have hg2 := grownCap_le_maxLen w 1 0 5 (by decide)
  generalize grownCap w 1 0 5 = K at *
  have hr0 : ((w.alloc (.cells (bytesRow ⟨#[120]⟩ K) 5 ((bytesRow ⟨#[120]⟩ K).size, (bytesRow ⟨#[120]⟩ K).size + 1))).alloc (.cells #[.string ⟨#[97]⟩, .bool false, .slice (some ⟨w.heap.size, 0, none⟩) 1 K] 84)).drew.heap[w.heap.size]? = some (.cells (bytesRow ⟨#[120]⟩ K) 5 ((bytesRow ⟨#[120]⟩ K).size, (bytesRow ⟨#[120]⟩ K).size + 1)) := heap_allocs (heap_alloc_new w _) _
  have hr1 : ((w.alloc (.cells (bytesRow ⟨#[120]⟩ K) 5 ((bytesRow ⟨#[120]⟩ K).size, (bytesRow ⟨#[120]⟩ K).size + 1))).alloc (.cells #[.string ⟨#[97]⟩, .bool false, .slice (some ⟨w.heap.size, 0, none⟩) 1 K] 84)).drew.heap[w.heap.size + 1]? = some (.cells #[.string ⟨#[97]⟩, .bool false, .slice (some ⟨w.heap.size, 0, none⟩) 1 K] 84 (0, 0)) := heap_new2 w _ _
  have hsz : ((w.alloc (.cells (bytesRow ⟨#[120]⟩ K) 5 ((bytesRow ⟨#[120]⟩ K).size, (bytesRow ⟨#[120]⟩ K).size + 1))).alloc (.cells #[.string ⟨#[97]⟩, .bool false, .slice (some ⟨w.heap.size, 0, none⟩) 1 K] 84)).drew.heap.size = w.heap.size + 2 := by
    show ((w.alloc _).alloc _).heap.size = _
    simp
  have hb : Below w.heap.size w ((w.alloc (.cells (bytesRow ⟨#[120]⟩ K) 5 ((bytesRow ⟨#[120]⟩ K).size, (bytesRow ⟨#[120]⟩ K).size + 1))).alloc (.cells #[.string ⟨#[97]⟩, .bool false, .slice (some ⟨w.heap.size, 0, none⟩) 1 K] 84)).drew := (((Below.refl _ w).alloc (Nat.le_refl _) _).alloc (by simp) _).drew
  refine ⟨some ⟨w.heap.size + 1, 0, none⟩, rfl, ⟨Nat.le_refl _, by decide, (fun e => by cases e), [⟨⟨[97], false, [120]⟩, some ⟨w.heap.size, 0, none⟩, K⟩], rfl, ?_, ?_⟩, hb⟩
  · rw [hsz]
    exact (RowG.one (cs := mwCells) (x := ⟨⟨[97], false, [120]⟩, some ⟨w.heap.size, 0, none⟩, K⟩) hr1).wide (by omega) (by omega)
  · intro x hx
    rw [List.mem_singleton] at hx
    subst hx
    refine ⟨by unfold maxLen; simp, hg1, hg2, (fun e => by cases e), fun _ => ⟨w.heap.size, 0, rfl, Nat.le_refl _, by rw [hsz]; omega, fun j hj => ?_⟩⟩
    have hj0 : j = 0 := by simpa using hj
    subst hj0
    rw [cell_of_row _ w.heap.size _ _ _ _ hr0]
    unfold bytesRow
    rw [Array.getElem?_append_left (by simp)]
    simp

end Go.Proofs.Ytooegjdppeiccaa
