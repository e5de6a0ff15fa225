import Derived.Test.YtdpbllacfljmoaaGreatZF09
import Derived.Lib.MinMax
import Derived.Test.YtdpbllacfljmoaaGreatZF06
import Derived.Laws.Cover1
import Derived.Test.YtdpbllacfljmoaaGreatZF08
import Derived.Deep.LoopGhost
import Derived.Shelf.Abstract
set_option maxRecDepth 100000
set_option maxHeartbeats 16000000
set_option linter.unusedVariables false
namespace Go.Proofs.YtdpbllacfljmoaaGreat
open Go.RowKit
theorem q7d (l : List Sp) : q0a (q0a l) = q0a l := (q4f (q1L l) fun _ => rfl).symm
def Box6 (w : World) (b : Nat) (t : TypeId) : Prop := ∃ a0 a1 a2 a3 a4 a5, w.heap[b]? = some (.cells #[a0, a1, a2, a3, a4, a5] t (0, 0))
def set6 (w : World) (b : Nat) (v0 v1 v2 v3 v4 v5 : Value) : World := (((((w.setCell ⟨b, 0, none⟩ v0).setCell ⟨b, 1, none⟩ v1).setCell ⟨b, 2, none⟩ v2).setCell ⟨b, 3, none⟩ v3).setCell ⟨b, 4, none⟩ v4).setCell ⟨b, 5, none⟩ v5
section
variable {w w' : World} {b B g : Nat} {t : TypeId} {v0 v1 v2 v3 v4 v5 : Value}
theorem Box6.new (w : World) (v0 v1 v2 v3 v4 v5 : Value) (t : TypeId) : Box6 (w.alloc (.cells #[v0, v1, v2, v3, v4, v5] t)) w.heap.size t := ⟨v0, v1, v2, v3, v4, v5, heap_alloc_new w _⟩
theorem Box6.of (h : w.heap[b]? = some (.cells #[v0, v1, v2, v3, v4, v5] t (0, 0))) : Box6 w b t := ⟨_, _, _, _, _, _, h⟩
theorem Box6.lt (h : Box6 w b t) : b < w.heap.size := by
 obtain ⟨_, _, _, _, _, _, h⟩ := h
 exact q00 h
theorem Box6.below (h : Box6 w b t) (hb : Below B w w') (hB : b < B) : Box6 w' b t := by
 obtain ⟨_, _, _, _, _, _, h⟩ := h
 exact ⟨_, _, _, _, _, _, q01 h hb hB⟩
theorem Box6.frozen (h : Box6 w b t) (o : Nat) : w.frozen? ⟨b, o, none⟩ = false := by
 obtain ⟨_, _, _, _, _, _, h⟩ := h
 exact q02 h o
theorem Box6.cells (h : Box6 w b t) : ∃ a0 a1 a2 a3 a4 a5, w.cell? ⟨b, 0, none⟩ = some a0 ∧ w.cell? ⟨b, 1, none⟩ = some a1 ∧ w.cell? ⟨b, 2, none⟩ = some a2 ∧ w.cell? ⟨b, 3, none⟩ = some a3 ∧ w.cell? ⟨b, 4, none⟩ = some a4 ∧ w.cell? ⟨b, 5, none⟩ = some a5 ∧
  w.frozen? ⟨b, 0, none⟩ = false ∧ w.frozen? ⟨b, 1, none⟩ = false ∧ w.frozen? ⟨b, 2, none⟩ = false ∧ w.frozen? ⟨b, 3, none⟩ = false ∧ w.frozen? ⟨b, 4, none⟩ = false ∧ w.frozen? ⟨b, 5, none⟩ = false := by
 have hf := h.frozen
 obtain ⟨a0, a1, a2, a3, a4, a5, h⟩ := h
 obtain ⟨c0, c1, c2, c3, c4, c5⟩ := q0O h
 exact ⟨a0, a1, a2, a3, a4, a5, c0, c1, c2, c3, c4, c5, hf _, hf _, hf _, hf _, hf _, hf _⟩
theorem q1n {x : Array Value} (h : w.heap[b]? = some (.cells x t (0, 0))) (o : Nat) (v : Value) : (w.setCell ⟨b, o, none⟩ v).heap[b]? = some (.cells (x.setIfInBounds o v) t (0, 0)) := heap_setCell_same w b o x t v h
theorem Box6.set (h : Box6 w b t) : (set6 w b v0 v1 v2 v3 v4 v5).heap[b]? = some (.cells #[v0, v1, v2, v3, v4, v5] t (0, 0)) := by
 obtain ⟨a0, a1, a2, a3, a4, a5, h⟩ := h
 have h0 : (w.setCell ⟨b, 0, none⟩ v0).heap[b]? = some (.cells #[v0, a1, a2, a3, a4, a5] t (0, 0)) := by rw [q1n h 0 v0]; rfl
 have h1 : ((w.setCell ⟨b, 0, none⟩ v0).setCell ⟨b, 1, none⟩ v1).heap[b]? = some (.cells #[v0, v1, a2, a3, a4, a5] t (0, 0)) := by rw [q1n h0 1 v1]; rfl
 have h2 : (((w.setCell ⟨b, 0, none⟩ v0).setCell ⟨b, 1, none⟩ v1).setCell ⟨b, 2, none⟩ v2).heap[b]? = some (.cells #[v0, v1, v2, a3, a4, a5] t (0, 0)) := by rw [q1n h1 2 v2]; rfl
 have h3 : ((((w.setCell ⟨b, 0, none⟩ v0).setCell ⟨b, 1, none⟩ v1).setCell ⟨b, 2, none⟩ v2).setCell ⟨b, 3, none⟩ v3).heap[b]? = some (.cells #[v0, v1, v2, v3, a4, a5] t (0, 0)) := by rw [q1n h2 3 v3]; rfl
 have h4 : (((((w.setCell ⟨b, 0, none⟩ v0).setCell ⟨b, 1, none⟩ v1).setCell ⟨b, 2, none⟩ v2).setCell ⟨b, 3, none⟩ v3).setCell ⟨b, 4, none⟩ v4).heap[b]? = some (.cells #[v0, v1, v2, v3, v4, a5] t (0, 0)) := by rw [q1n h3 4 v4]; rfl
 unfold set6
 rw [q1n h4 5 v5]
 rfl
theorem q1p (hg : g ≠ b) (o : Nat) (v : Value) : (w.setCell ⟨b, o, none⟩ v).heap[g]? = w.heap[g]? := by
 have hg' : b ≠ g := fun e => hg e.symm
 simp [World.setCell, Array.getElem?_modify, hg']
theorem q4L (hg : g ≠ b) : (set6 w b v0 v1 v2 v3 v4 v5).heap[g]? = w.heap[g]? := by
 unfold set6
 rw [q1p hg, q1p hg, q1p hg, q1p hg, q1p hg, q1p hg]
theorem Below.set6 (h : Below B w w') (hb : B ≤ b) : Below B w (set6 w' b v0 v1 v2 v3 v4 v5) := (((((h.setCell hb _).setCell hb _).setCell hb _).setCell hb _).setCell hb _).setCell hb _
theorem _root_.Go.RowKit.Below.set6' {w w' : World} {b B : Nat} {v0 v1 v2 v3 v4 v5 : Value} (h : Below B w w') (hb : B ≤ b) : Below B w (set6 w' b v0 v1 v2 v3 v4 v5) := Below.set6 h hb
theorem q39 : (set6 w b v0 v1 v2 v3 v4 v5).heap.size = w.heap.size := by simp [Go.Proofs.YtdpbllacfljmoaaGreat.set6, World.setCell]
theorem cell_far (h : w'.heap[g]? = w.heap[g]?) (o : Nat) : w'.cell? ⟨g, o, none⟩ = w.cell? ⟨g, o, none⟩ := World.cell?_of_block h
end
theorem ChI.set6 {w : World} {b : Nat} {A : Option Addr} {c : Nat} {l : List Sp} {v0 v1 v2 v3 v4 v5 : Value} (h : ChI w w.heap.size A c l) (hb : ∀ x, A = some x → x.block ≠ b) : ChI (set6 w b v0 v1 v2 v3 v4 v5) (set6 w b v0 v1 v2 v3 v4 v5).heap.size A c l := by
 refine ⟨h.1, h.2.1, h.2.2.1, fun hn => ?_⟩
 obtain ⟨g, o, e, h1, h2, hc⟩ := h.2.2.2 hn
 refine ⟨g, o, e, h1, by rw [q39]; exact h2, fun j u hu => ?_⟩
 rw [cell_far (q4L (hb _ e))]
 exact hc j u hu
theorem qai {w : World} {b : Nat} {t : TypeId} {fz : Nat × Nat} {n0 n1 n2 n3 : Int} {A B : Option Addr} {x y c d : Nat} (h : w.heap[b]? = some (.cells #[.int .u64 n0, .int .u64 n1, .int .u64 n2, .int .u64 n3, .slice A x c, .slice B y d] t fz)) (o : Nat) (s : ByteArray) : w.cell? ⟨b, o, none⟩ ≠ some (.string s) := by
 intro e
 simp only [World.cell?, h] at e
 match o with
 | 0 | 1 | 2 | 3 | 4 | 5 => simp at e
 | o + 6 => simp at e
theorem ChI.set6z {w : World} {b : Nat} {A : Option Addr} {c : Nat} {l : List Sp} {v0 v1 v2 v3 v4 v5 : Value} {hi : Nat} (h : ChI w hi A c l) (hs : ∀ o s, w.cell? ⟨b, o, none⟩ ≠ some (.string s)) : ChI (Go.Proofs.YtdpbllacfljmoaaGreat.set6 w b v0 v1 v2 v3 v4 v5) hi A c l := by
 refine ⟨h.1, h.2.1, h.2.2.1, fun hn => ?_⟩
 obtain ⟨g, o, e, h1, h2, hc⟩ := h.2.2.2 hn
 have hg : g ≠ b := by
  rintro rfl
  cases l with
  | nil => simp at hn
  | cons x l => exact hs _ _ (hc 0 (.string (bs x.lo)) rfl)
 refine ⟨g, o, e, h1, h2, fun j u hu => ?_⟩
 rw [cell_far (q4L hg)]
 exact hc j u hu
theorem results6 {f : Func} {k : Nat} {t : TypeId} {tmps : Array Value} {w : World} {h : Nat} {a0 a1 a2 a3 a4 a5 : Value} (hr : f.results = #[.cell k t]) (ht : t = 86) (h4 : tmps[k]? = some (.pointer (some ⟨h, 0, none⟩)))
  (hb : w.heap[h]? = some (.cells #[a0, a1, a2, a3, a4, a5] t (0, 0))) : (results f tmps).run Tryz.prog w = .ok (.agg #[a0, a1, a2, a3, a4, a5]) w := by
 subst ht
 have hl := run_loadCells_list (P := Tryz.prog) w ⟨h, 0, none⟩ [a0, a1, a2, a3, a4, a5] (fun j v hv => by
  have e : (⟨h, 0, none⟩ : Addr).add j = ⟨h, j, none⟩ := by unfold Addr.add; split <;> simp_all
  rw [e]
  simp only [World.cell?, hb]
  simpa using hv)
 rw [show ([a0, a1, a2, a3, a4, a5] : List Value).length = 6 from rfl] at hl
 have ha : (isAgg 86).run Tryz.prog w = .ok true w := by kernel_rfl
 have hz : (sizeOf 86).run Tryz.prog w = .ok 6 w := by kernel_rfl
 simp [results, hr, asAddr, loadVar, ha, hl, h4]
open Go.RowKit
theorem q9T (a b : Nat) (w : World) (ha : a < 18446744073709551616) (hb : b < 18446744073709551616) :
  Calls Tryz.prog 244 #[.int .u64 a, .int .u64 b] w fun r w' => r = .returned (.int .u64 (q3t a b : Nat)) ∧ Below w.heap.size w w' := by
 by_cases h1 : a = 0
 ·subst h1
  have e : q3t 0 b = b := by unfold q3t; rw [if_pos (.inl rfl)]; omega
  rw [e]
  clear e
  go_enter Tryz.func244, Tryz.ntmps244
  go_wp2
  go_ret
  exact ⟨by first | rfl | (show Ending.returned (Value.int .u64 (min (a : Int) (b : Int))) = _; congr 2; omega), Below.refl _ _⟩
 ·have d1 : (((a : Int)) == 0) = false := by rw [beq_eq_false_iff_ne]; omega
  by_cases h2 : b = 0
  ·subst h2
   have e : q3t a 0 = a := by unfold q3t; rw [if_pos (.inr rfl)]; omega
   rw [e]
   clear e h1
   go_enter Tryz.func244, Tryz.ntmps244
   go_wp2
   go_ret
   exact ⟨by first | rfl | (show Ending.returned (Value.int .u64 (min (a : Int) (b : Int))) = _; congr 2; omega), Below.refl _ _⟩
  ·have d2 : (((b : Int)) == 0) = false := by rw [beq_eq_false_iff_ne]; omega
   have HE := qh (show q3t a b = min a b by unfold q3t; rw [if_neg (by omega)])
   clear h1 h2
   go_enter Tryz.func244, Tryz.ntmps244
   go_wp2
   go_ret
   rw [HE.out]
   exact ⟨by first | rfl | (show Ending.returned (Value.int .u64 (min (a : Int) (b : Int))) = _; congr 2; omega), Below.refl _ _⟩
open Go.RowKit
theorem qcw (k : List UInt8) : bs k ++ (⟨#[0]⟩ : ByteArray) = bs (k ++ [0]) := by
 apply ByteArray.ext
 simp [bs]
theorem qfn (k : List UInt8) (w : World) (hk : k.length ≤ 1000000) : Calls Tryz.prog 96 #[.string (bs k)] w fun r w' => r = .returned (q0T ⟨k, k ++ [0]⟩) ∧ Below w.heap.size w w' := by
 have hz : (bs k).size = k.length := q20 k
 have hq := qcw k
 unfold q0T
 simp only
 generalize bs (k ++ [0]) = K at *
 have HQ := qh hq
 clear hq
 go_enter Tryz.func96, Tryz.ntmps96
 go_wp2
 rw [HQ.out]
 exact bodyPost_ret (v := .agg #[.string (bs k), .string K]) (by simp [results, Tryz.results96, go_sem]) rfl ⟨rfl, (Below.refl _ w).alloc (Nat.le_refl _) _⟩
theorem q3Q (k : List UInt8) (w : World) (hk : k.length ≤ 1000000) : Calls Tryz.prog 79 #[.string (bs k)] w fun r w' => r = .returned (q0T ⟨k, k ++ [0]⟩) ∧ Below w.heap.size w w' := by
 have hz : (bs k).size = k.length := q20 k
 have hq := qcw k
 unfold q0T
 simp only
 generalize bs (k ++ [0]) = K at *
 have HQ := qh hq
 clear hq
 go_enter Tryz.func79, Tryz.ntmps79
 go_wp2
 rw [HQ.out]
 exact bodyPost_ret (v := .agg #[.string (bs k), .string K]) (by simp [results, Tryz.results79, go_sem]) rfl ⟨rfl, (Below.refl _ w).alloc (Nat.le_refl _) _⟩
open Go.RowKit
theorem q2d (k hi : List UInt8) (w : World) : Calls Tryz.prog 124 #[.string (bs k), .string (bs hi)] w fun r w' => r = .returned (.bool (endS hi k)) ∧ w = w' := by
 have h0 := qgq k hi
 unfold endS
 cases hq : hi.isEmpty with
 | true =>
  obtain ⟨q1, q2⟩ := qfg hq
  clear hq h0
  rw [Bool.true_or]
  go_enter Tryz.func124, Tryz.ntmps124
  go_wp2
  go_ret
  exact ⟨rfl, rfl⟩
 | false =>
  obtain ⟨q1, q2⟩ := qff hq
  clear hq
  rw [Bool.false_or]
  generalize blt k hi = x at *
  go_enter Tryz.func124, Tryz.ntmps124
  go_wp2
  go_ret
  exact ⟨rfl, rfl⟩
theorem q2I (s : Sp) (w : World) : Calls Tryz.prog 81 #[q0T s] w fun r w' => r = .returned (.bool (q0f s)) ∧ Below w.heap.size w w' := by
 obtain ⟨lo, hi⟩ := s
 have HB := qh ((Below.refl w.heap.size w).alloc (Nat.le_refl _) (.cells #[.string (bs lo), .string (bs hi)] 131))
 have HC := qh (q2d lo hi)
 unfold q0f q0T
 simp only
 generalize endS hi lo = x at *
 go_enter Tryz.func81, Tryz.ntmps81
 go_wp2_with (go_at_call 124; refine (HC.out _).mono ?_; rintro r w' ⟨rfl, rfl⟩)
 go_ret
 exact ⟨rfl, HB.out⟩
theorem qby (s : Sp) (k : List UInt8) (w : World) : Calls Tryz.prog 127 #[q0T s, .string (bs k)] w fun r w' => r = .returned (.bool (hasS s k)) ∧ w.alloc (.cells #[.string (bs s.lo), .string (bs s.hi)] 131) = w' := by
 obtain ⟨lo, hi⟩ := s
 have HC := qh (q2d k hi)
 have h0 := qgS k lo
 unfold hasS blo q0T
 simp only
 generalize endS hi k = x at *
 cases hl : blt k lo with
 | true =>
  rw [hl] at h0
  clear hl HC
  rw [Bool.not_true, Bool.false_and]
  go_enter Tryz.func127, Tryz.ntmps127
  go_wp2
  go_ret
  exact ⟨rfl, rfl⟩
 | false =>
  rw [hl] at h0
  clear hl
  rw [Bool.not_false, Bool.true_and]
  go_enter Tryz.func127, Tryz.ntmps127
  go_wp2_with (go_at_call 124; refine (HC.out _).mono ?_; rintro r w' ⟨rfl, rfl⟩)
  go_ret
  exact ⟨rfl, rfl⟩
theorem qcK (s : Sp) (k : List UInt8) (w : World) : Calls Tryz.prog 127 #[q0T s, .string (bs k)] w fun r w' => r = .returned (.bool (hasS s k)) ∧ Below w.heap.size w w' :=
 (qby s k w).mono fun _ _ q => ⟨q.1, by rw [← q.2]; exact (Below.refl _ w).alloc (Nat.le_refl _) _⟩
theorem q75 (a b : Sp) (w : World) : Calls Tryz.prog 241 #[q0T a, q0T b] w fun r w' => r = .returned (.bool (q2y a b)) ∧ Below w.heap.size w w' := by
 rw [q3W]
 obtain ⟨w0, hw0⟩ : ∃ y, (w.alloc (.cells #[.string (bs a.lo), .string (bs a.hi)] 131)).alloc (.cells #[.string (bs b.lo), .string (bs b.hi)] 131) = y := ⟨_, rfl⟩
 have hb0 : Below w.heap.size w w0 := by rw [← hw0]; exact ((Below.refl _ w).alloc (Nat.le_refl _) _).alloc (by simp) _
 have ha : w0.heap[w.heap.size]? = some (.cells #[.string (bs a.lo), .string (bs a.hi)] 131 (0, 0)) := by rw [← hw0]; exact q0G (heap_alloc_new w _) _
 have hb : w0.heap[w.heap.size + 1]? = some (.cells #[.string (bs b.lo), .string (bs b.hi)] 131 (0, 0)) := by rw [← hw0]; exact q23 w _ _
 have H1 := qh (q2I a)
 have H2 := qh (q2I b)
 have H3 := qh (q2d a.lo b.hi)
 have H4 := qh (q2d b.lo a.hi)
 obtain ⟨alo, ahi⟩ := a
 obtain ⟨blo', bhi⟩ := b
 unfold q0T at H1 H2
 simp only at ha hb hw0 H1 H2 H3 H4
 have KC := qh (fun (W : World) (h : Below w0.heap.size w0 W) => And.intro (cell_of_row W w.heap.size 0 _ _ _ (q01 ha h (q00 ha))) (And.intro (cell_of_row W w.heap.size 1 _ _ _ (q01 ha h (q00 ha))) (And.intro (cell_of_row W (w.heap.size + 1) 0 _ _ _ (q01 hb h (q00 hb))) (cell_of_row W (w.heap.size + 1) 1 _ _ _ (q01 hb h (q00 hb))))))
 obtain ⟨z0, z1, z2, z3⟩ := KC.out w0 (Below.refl _ _)
 have HB := qh hb0
 have HW := qh hw0
 clear ha hb hb0 hw0
 unfold q0T
 simp only
 generalize q0f ⟨alo, ahi⟩ = x at *
 generalize q0f ⟨blo', bhi⟩ = y at *
 generalize endS bhi alo = p at *
 generalize endS ahi blo' = q at *
 go_enter Tryz.func241, Tryz.ntmps241
 go_upto_region 1 with fail
 rw [HW.out]
 clear HW
 go_wp2_with fail
 refine (H1.out w0).mono ?_
 rintro r w1 ⟨rfl, hb1⟩
 have HB1 := qh hb1
 clear z0 z1 z2 z3
 obtain ⟨z0, z1, z2, z3⟩ := KC.out w1 hb1
 clear hb1
 cases x with
 | false =>
  go_wp2_with fail
  go_ret
  exact ⟨by simp, HB.out.trans (HB1.out.mono HB.out.size)⟩
 | true =>
  go_wp2_with fail
  refine (H2.out w1).mono ?_
  rintro r w2 ⟨rfl, hb2⟩
  have HB2 := qh (HB1.out.trans (hb2.mono HB1.out.size))
  clear z0 z1 z2 z3 hb2
  obtain ⟨z0, z1, z2, z3⟩ := KC.out w2 HB2.out
  cases y with
  | false =>
   go_wp2_with fail
   go_ret
   exact ⟨by simp, HB.out.trans (HB2.out.mono HB.out.size)⟩
  | true =>
   cases p with
   | false =>
    go_wp2_with (go_at_call 124; refine (H3.out _).mono ?_; rintro r w' ⟨rfl, rfl⟩)
    go_ret
    exact ⟨by simp, HB.out.trans (HB2.out.mono HB.out.size)⟩
   | true =>
    go_wp2_with (first
     | (go_at_call 124; with_reducible refine (H3.out _).mono ?_; rintro r w' ⟨rfl, rfl⟩)
     | (go_at_call 124; with_reducible refine (H4.out _).mono ?_; rintro r w' ⟨rfl, rfl⟩))
    go_ret
    exact ⟨by simp, HB.out.trans (HB2.out.mono HB.out.size)⟩
theorem qdL {h : List UInt8} (e : h.isEmpty = true) : ((bs h).toList != []) = false := by
 rw [bne, (qfg e).1]
 rfl
theorem nil_bne' {h : List UInt8} (e : h.isEmpty = false) : ((bs h).toList != []) = true := by
 rw [bne, (qff e).1]
 rfl
theorem q71 (a b : Sp) (w : World) : Calls Tryz.prog 222 #[q0T a, q0T b] w fun r w' => r = .returned (.bool (gapB a b)) ∧ Below w.heap.size w w' := by
 obtain ⟨alo, ahi⟩ := a
 obtain ⟨blo', bhi⟩ := b
 have HB := qh (((Below.refl w.heap.size w).alloc (Nat.le_refl _) (.cells #[.string (bs alo), .string (bs ahi)] 131)).alloc (by simp) (.cells #[.string (bs blo'), .string (bs bhi)] 131))
 have h0 := qgT blo' ahi
 unfold gapB q0T
 simp only
 cases hq : ahi.isEmpty with
 | true =>
  obtain ⟨q1, q2⟩ := qfg hq
  have q3 := qdL hq
  clear hq h0
  rw [Bool.not_true, Bool.false_and]
  go_enter Tryz.func222, Tryz.ntmps222
  go_wp2
  go_ret
  exact ⟨rfl, HB.out⟩
 | false =>
  obtain ⟨q1, q2⟩ := qff hq
  have q3 := nil_bne' hq
  clear hq
  rw [Bool.not_false, Bool.true_and]
  generalize blt ahi blo' = x at *
  go_enter Tryz.func222, Tryz.ntmps222
  go_wp2
  go_ret
  exact ⟨rfl, HB.out⟩
theorem qbB (a b : List UInt8) (w : World) : Calls Tryz.prog 223 #[.string (bs a), .string (bs b)] w fun r w' => r = .returned (.string (bs (q2K a b))) ∧ w = w' := by
 have HC := qh (q2d a b)
 unfold q2K
 cases hq : a.isEmpty with
 | true =>
  obtain ⟨q1, q2⟩ := qfg hq
  have q3 := qdL hq
  rw [if_neg (fun h => h.1 (List.isEmpty_iff.1 hq))]
  clear hq HC
  go_enter Tryz.func223, Tryz.ntmps223
  go_wp2
  go_ret
  exact ⟨rfl, rfl⟩
 | false =>
  obtain ⟨q1, q2⟩ := qff hq
  have q3 := nil_bne' hq
  cases he : endS b a with
  | true =>
   rw [if_pos ⟨List.isEmpty_eq_false_iff.1 hq, rfl⟩]
   rw [he] at HC
   clear hq he
   go_enter Tryz.func223, Tryz.ntmps223
   go_wp2_with (go_at_call 124; refine (HC.out _).mono ?_; rintro r w' ⟨rfl, rfl⟩)
   go_ret
   exact ⟨rfl, rfl⟩
  | false =>
   rw [if_neg (fun h => by cases h.2)]
   rw [he] at HC
   clear hq he
   go_enter Tryz.func223, Tryz.ntmps223
   go_wp2_with (go_at_call 124; refine (HC.out _).mono ?_; rintro r w' ⟨rfl, rfl⟩)
   go_ret
   exact ⟨rfl, rfl⟩
open Go.RowKit
theorem q69 (l : List Sp) (A : Option Addr) (c : Nat) (w : World) (hl : l.length ≤ 4294967296) (hr : RowG q07 w 0 w.heap.size A l) :
    Calls Tryz.prog 266 #[.slice A l.length c] w fun r w' => r = .returned (.bool (q3F l)) ∧ Below w.heap.size w w' := by
  have HR := qh hr
  clear hr
  go_enter Tryz.func266, Tryz.ntmps266
  go_wp2
  go_loopg [3, 7] l.length (fun q _ i wr => ∃ j : Nat, j + q = l.length ∧ i = .int .i64 j ∧ q8N l j ∧ Below w.heap.size w wr)
  case atStart => exact ⟨0, by omega, rfl, qdf _, Below.refl _ _⟩
  case round =>
    obtain ⟨j, hk, rfl, hall, hb⟩ := hrel
    have HK := qh hk
    have HA := qh hall
    have HB := qh hb
    clear hall hb hk
    by_cases hj : j < l.length
    · have hlt : decide ((j : Int) < (l.length : Int)) = true := by simpa using hj
      have hlt3 : decide (j < l.length) = true := by simpa using hj
      have hR := HR.out.below HB.out (Nat.le_refl _)
      have HR1 := qh hR
      obtain ⟨b, o, rfl, _, hbl, hc⟩ := hR.at_ spF hj
      have c0 := hc 0 _ rfl
      have c1 := hc 1 _ rfl
      simp only [Nat.add_zero] at c0
      have HG := qh (fun h1 h2 => qde HA.out hj h1 h2)
      have HBad := qh (fun h => qcq hj h)
      have HGap := qh (fun (i : Nat) (hi : i + 1 = j) => qfT hi hj)
      have hbw := Nat.lt_of_lt_of_le hbl HB.out.size
      obtain ⟨p, hp⟩ : ∃ p, p = j - 1 := ⟨_, rfl⟩
      have hpl : p < l.length := by omega
      obtain ⟨b9, o9, e9, _, hb9, hc9⟩ := hR.at_ spF hpl
      obtain ⟨rfl, rfl⟩ : b = b9 ∧ o = o9 := by simpa using e9
      have p0 := hc9 0 _ rfl
      have p1 := hc9 1 _ rfl
      have HP := qh (show ∀ (i : Nat) (hi : i + 1 = j), l[i]'(by omega) = l[p] from fun i hi => by
        have : i = p := by omega
        subst this
        rfl)
      have HPj := qh hp
      clear hc hc9 hR e9 hp
      generalize l[j] = x at *
      generalize l[p] = y at *
      obtain ⟨x1, x2⟩ := x
      obtain ⟨y1, y2⟩ := y
      simp only [Nat.add_zero] at c0 c1 p0 p1
      obtain ⟨wt, hwt⟩ : ∃ y, wr.alloc (.cells #[.string (bs x1), .string (bs x2)] 131) = y := ⟨_, rfl⟩
      have hbt : Below w.heap.size w wt := by rw [← hwt]; exact HB.out.alloc HB.out.size _
      have hrt : Below wr.heap.size wr wt := by rw [← hwt]; exact (Below.refl _ _).alloc (Nat.le_refl _) _
      have hnt : wt.heap[wr.heap.size]? = some (.cells #[.string (bs x1), .string (bs x2)] 131 (0, 0)) := by rw [← hwt]; exact heap_alloc_new wr _
      have hst : wr.heap.size < wt.heap.size := by rw [← hwt]; simp
      have HCl := qh (fun (W : World) (h : Below wt.heap.size wt W) => And.intro (cell_of_row W wr.heap.size 0 _ _ _ (q01 hnt h hst)) (And.intro (cell_of_row W wr.heap.size 1 _ _ _ (q01 hnt h hst)) (And.intro (((h.cell (p := ⟨b, o + p * 2, none⟩) (by simp only; omega)).trans (hrt.cell (p := ⟨b, o + p * 2, none⟩) hbw)).trans p0) (((h.cell (p := ⟨b, o + p * 2 + 1, none⟩) (by simp only; omega)).trans (hrt.cell (p := ⟨b, o + p * 2 + 1, none⟩) hbw)).trans p1))))
      have HBt := qh hbt
      have HWt := qh hwt
      have hC := fun (W : World) (h : Below wt.heap.size wt W) => (q2I (⟨x1, x2⟩ : Sp) W).mono fun r w' (q : r = .returned (.bool (q0f ⟨x1, x2⟩)) ∧ Below W.heap.size W w') => (⟨q.1, h.trans (q.2.mono h.size)⟩ : r = .returned (.bool (q0f ⟨x1, x2⟩)) ∧ Below wt.heap.size wt w')
      unfold q0T at hC
      simp only at hC
      clear hnt hst hrt hbt hwt hbw p0 p1 hb9 hbl
      cases hq : q0f (⟨x1, x2⟩ : Sp) with
      | false =>
        rw [hq] at hC
        have HC := qh hC
        have hF := HBad.out hq
        clear hq hC HG HGap HP HBad
        go_upto_region 4 with fail
        rw [HWt.out]
        clear HWt
        refine q04 (C := fun w' => Below wt.heap.size wt w') (by kernel_rfl) (by kernel_rfl) ((Below.refl _ _).drew) ?_
        repeat (
          refine no_implicit_lambda% (wpQuiet_step ?_)
          intro K hK
          go_simp
          first
          | (refine no_implicit_lambda% (hK _ ?_); clear hK K)
          | (apply Exists.intro
             refine ⟨fun _ => ?_, hK _ ?_⟩
             (first
               | (intro hw; with_reducible exact HC.out _ hw)
               | (intro hw; with_reducible exact HAp.out _ hw)
               | (intro hw; obtain ⟨z0, z1, z2, z3⟩ := HCl.out _ hw; go_simp; with_reducible exact ⟨rfl, rfl⟩)
               | (intro hw; obtain ⟨z0, z1, z2, z3⟩ := HCl.out _ hw; go_simp; with_reducible rfl)
               | (intro hw; simp only [go_sem, e1]; with_reducible exact ⟨rfl, rfl⟩)
               | (intro _; with_reducible rfl)
               | (intro hw; go_simp; with_reducible exact ⟨rfl, rfl⟩))
             clear hK K))
        refine wpQuiet_nil ?_
        intro w8 hb8
        have HB8 := qh (HBt.out.trans (hb8.mono HBt.out.size))
        clear hb8
        go_wp2_with fail
        go_ret
        rw [hF]
        exact ⟨rfl, HB8.out⟩
      | true =>
        rw [hq] at hC
        have HC := qh hC
        clear hC HBad
        by_cases h0 : j = 0
        · have g0 : decide ((0 : Int) < (j : Int)) = false := by rw [decide_eq_false_iff_not]; omega
          have g1 : decide (0 < j) = false := by rw [decide_eq_false_iff_not]; omega
          have HF := qh (HG.out hq fun i hi => by omega)
          clear hq HG HGap HP h0
          go_upto_region 4 with fail
          rw [HWt.out]
          clear HWt
          refine q04 (C := fun w' => Below wt.heap.size wt w') (by kernel_rfl) (by kernel_rfl) ((Below.refl _ _).drew) ?_
          repeat (
            refine no_implicit_lambda% (wpQuiet_step ?_)
            intro K hK
            go_simp
            first
            | (refine no_implicit_lambda% (hK _ ?_); clear hK K)
            | (apply Exists.intro
               refine ⟨fun _ => ?_, hK _ ?_⟩
               (first
                 | (intro hw; with_reducible exact HC.out _ hw)
                 | (intro hw; with_reducible exact HAp.out _ hw)
                 | (intro hw; obtain ⟨z0, z1, z2, z3⟩ := HCl.out _ hw; go_simp; with_reducible exact ⟨rfl, rfl⟩)
                 | (intro hw; obtain ⟨z0, z1, z2, z3⟩ := HCl.out _ hw; go_simp; with_reducible rfl)
                 | (intro hw; simp only [go_sem, e1]; with_reducible exact ⟨rfl, rfl⟩)
                 | (intro _; with_reducible rfl)
                 | (intro hw; go_simp; with_reducible exact ⟨rfl, rfl⟩))
               clear hK K))
          refine wpQuiet_nil ?_
          intro w8 hb8
          have HB8 := qh (HBt.out.trans (hb8.mono HBt.out.size))
          clear hb8
          go_wp2_with fail
          go_roundg (gk - 1)
          case measure => have := HK.out; omega
          case rel => exact ⟨j + 1, by have := HK.out; omega, by go_num, HF.out, HB8.out⟩
        · have g0 : decide ((0 : Int) < (j : Int)) = true := by rw [decide_eq_true_iff]; omega
          have g1 : decide (0 < j) = true := by rw [decide_eq_true_iff]; omega
          have e1 : IntKind.i64.wrap ((j : Int) - 1) = (p : Int) := by have := HPj.out; simp [IntKind.wrap, IntKind.bits, IntKind.signed]; omega
          have gb := fun (q : gapB ⟨y1, y2⟩ ⟨x1, x2⟩ = false) => HGap.out p (by have := HPj.out; omega) (by rw [HP.out p (by have := HPj.out; omega)]; exact q)
          have gg := fun (q : gapB ⟨y1, y2⟩ ⟨x1, x2⟩ = true) => HG.out hq fun i hi => by rw [HP.out i hi]; exact q
          have GB := qh gb
          have GG := qh gg
          clear gb gg HG HGap HP hq h0
          have hAp := fun (W : World) (h : Below wt.heap.size wt W) => (q71 ⟨y1, y2⟩ ⟨x1, x2⟩ W).mono fun r w' (q : r = .returned (.bool (gapB ⟨y1, y2⟩ ⟨x1, x2⟩)) ∧ Below W.heap.size W w') => (⟨q.1, h.trans (q.2.mono h.size)⟩ : r = .returned (.bool (gapB ⟨y1, y2⟩ ⟨x1, x2⟩)) ∧ Below wt.heap.size wt w')
          unfold q0T at hAp
          simp only at hAp
          cases hx : gapB ⟨y1, y2⟩ ⟨x1, x2⟩ with
          | true =>
            rw [hx] at hAp
            have HAp := qh hAp
            have HF := qh (GG.out hx)
            clear hx GB GG hAp
            go_upto_region 4 with fail
            rw [HWt.out]
            clear HWt
            refine q04 (C := fun w' => Below wt.heap.size wt w') (by kernel_rfl) (by kernel_rfl) ((Below.refl _ _).drew) ?_
            repeat (
              refine no_implicit_lambda% (wpQuiet_step ?_)
              intro K hK
              go_simp
              first
              | (refine no_implicit_lambda% (hK _ ?_); clear hK K)
              | (apply Exists.intro
                 refine ⟨fun _ => ?_, hK _ ?_⟩
                 (first
                   | (intro hw; with_reducible exact HC.out _ hw)
                   | (intro hw; with_reducible exact HAp.out _ hw)
                   | (intro hw; obtain ⟨z0, z1, z2, z3⟩ := HCl.out _ hw; go_simp; with_reducible exact ⟨rfl, rfl⟩)
                   | (intro hw; obtain ⟨z0, z1, z2, z3⟩ := HCl.out _ hw; go_simp; with_reducible rfl)
                   | (intro hw; simp only [go_sem, e1]; with_reducible exact ⟨rfl, rfl⟩)
                   | (intro _; with_reducible rfl)
                   | (intro hw; go_simp; with_reducible exact ⟨rfl, rfl⟩))
                 clear hK K))
            refine wpQuiet_nil ?_
            intro w8 hb8
            have HB8 := qh (HBt.out.trans (hb8.mono HBt.out.size))
            clear hb8
            go_wp2_with fail
            go_roundg (gk - 1)
            case measure => have := HK.out; omega
            case rel => exact ⟨j + 1, by have := HK.out; omega, by go_num, HF.out, HB8.out⟩
          | false =>
            rw [hx] at hAp
            have HAp := qh hAp
            have hF := GB.out hx
            clear hx GB GG hAp
            go_upto_region 4 with fail
            rw [HWt.out]
            clear HWt
            refine q04 (C := fun w' => Below wt.heap.size wt w') (by kernel_rfl) (by kernel_rfl) ((Below.refl _ _).drew) ?_
            repeat (
              refine no_implicit_lambda% (wpQuiet_step ?_)
              intro K hK
              go_simp
              first
              | (refine no_implicit_lambda% (hK _ ?_); clear hK K)
              | (apply Exists.intro
                 refine ⟨fun _ => ?_, hK _ ?_⟩
                 (first
                   | (intro hw; with_reducible exact HC.out _ hw)
                   | (intro hw; with_reducible exact HAp.out _ hw)
                   | (intro hw; obtain ⟨z0, z1, z2, z3⟩ := HCl.out _ hw; go_simp; with_reducible exact ⟨rfl, rfl⟩)
                   | (intro hw; obtain ⟨z0, z1, z2, z3⟩ := HCl.out _ hw; go_simp; with_reducible rfl)
                   | (intro hw; simp only [go_sem, e1]; with_reducible exact ⟨rfl, rfl⟩)
                   | (intro _; with_reducible rfl)
                   | (intro hw; go_simp; with_reducible exact ⟨rfl, rfl⟩))
                 clear hK K))
            refine wpQuiet_nil ?_
            intro w8 hb8
            have HB8 := qh (HBt.out.trans (hb8.mono HBt.out.size))
            clear hb8
            go_wp2_with fail
            go_ret
            rw [hF]
            exact ⟨rfl, HB8.out⟩
    · have hj' : j = l.length := by have := HK.out; omega
      subst hj'
      have hlt : decide ((l.length : Int) < (l.length : Int)) = false := by simp
      have hlt2 : decide (l.length < l.length) = false := by simp
      have hF := qf2 HA.out
      clear hj
      go_wp2
      go_ret
      rw [hF]
      exact ⟨rfl, HB.out⟩
def AtI (l : List Sp) (p : Sp → Bool) (z : Int) : Prop :=
 (∃ j, ∃ h : j < l.length, z = (j : Int) ∧ p (l[j]'h) = true ∧ ∀ i (hi : i < l.length), i < j → p (l[i]'hi) = false) ∨ (z = -1 ∧ ∀ i (hi : i < l.length), p (l[i]'hi) = false)
def qgx (g : Nat) (lb : Array Value) (p : Sp → Bool) (w : World) : Prop :=
 ∀ (W : World) (x : Sp), Below w.heap.size w W → Calls Tryz.prog g (#[q0T x] ++ lb) W fun e w' => e = .returned (.bool (p x)) ∧ Below W.heap.size W w'
theorem q73 (p : Sp → Bool) (g : Nat) (lb : Array Value) (eg : ∀ args w, (callFunc g args).run Tryz.prog w = .ok (.enter g args) w) (l : List Sp) (A : Option Addr) (c lo hi : Nat) (w : World)
  (hp : qgx g lb p w) (hl : l.length ≤ 9223372036854775807) (hr : RowG q07 w lo hi A l) (hhi : hi ≤ w.heap.size) :
  Calls Tryz.prog 270 #[.slice A l.length c, .func (.func g) #[] lb] w fun e w' => (∃ z : Int, e = .returned (.int .i64 z) ∧ AtI l p z) ∧ Below w.heap.size w w' := by
 have HR := qh hr
 have HP := qh hp
 have HHi := qh hhi
 clear hr hp hhi
 go_enter Tryz.func270, Tryz.ntmps270
 go_wp2
 go_loopg [5, 8] l.length (fun q _ i wr => ∃ j : Nat, j + q = l.length ∧ i = .int .i64 j ∧ (∀ i (hi : i < l.length), i < j → p (l[i]'hi) = false) ∧ Below w.heap.size w wr)
 case atStart => exact ⟨0, by omega, rfl, fun i _ h => absurd h (by omega), Below.refl _ _⟩
 case round =>
  obtain ⟨j, hk, rfl, hall, hb⟩ := hrel
  have HK := qh hk
  have HA := qh hall
  have HB := qh hb
  clear hall hb hk
  by_cases hj : j < l.length
  ·have hlt : decide ((j : Int) < (l.length : Int)) = true := by simpa using hj
   have hlt2 : decide (j < l.length) = true := by simpa using hj
   obtain ⟨b, o, rfl, _, _, hc⟩ := (HR.out.below HB.out HHi.out).at_ spF hj
   have c0 := hc 0 _ rfl
   have c1 := hc 1 _ rfl
   simp only [Nat.add_zero] at c0
   have hcall := HP.out wr (l[j]'hj) HB.out
   have HT := qh (fun (h : p (l[j]'hj) = true) => show AtI l p (j : Int) from .inl ⟨j, hj, rfl, h, HA.out⟩)
   have HF := qh (fun (h : p (l[j]'hj) = false) => show ∀ i (hi : i < l.length), i < j + 1 → p (l[i]'hi) = false from fun i hi hij => by
     by_cases e : i = j
     ·subst e; exact h
     ·exact HA.out i hi (by omega))
   clear hc
   generalize l[j]'hj = x at *
   obtain ⟨xl, xh⟩ := x
   simp only at c0 c1
   unfold q0T at hcall
   simp only at hcall
   cases hq : p ⟨xl, xh⟩ with
   | true =>
    rw [hq] at hcall
    have HC := qh hcall
    have HQ := qh hq
    clear hcall hq
    go_wp2_with (go_at_fn g; refine HC.out.mono ?_; rintro e w' ⟨rfl, hb'⟩)
    go_ret
    exact ⟨⟨_, rfl, HT.out HQ.out⟩, HB.out.trans (hb'.mono HB.out.size)⟩
   | false =>
    rw [hq] at hcall
    have HC := qh hcall
    have HQ := qh hq
    clear hcall hq
    go_wp2_with (go_at_fn g; refine HC.out.mono ?_; rintro e w' ⟨rfl, hb'⟩)
    go_roundg (gk - 1)
    case measure => have := HK.out; omega
    case rel => exact ⟨j + 1, by have := HK.out; omega, by go_num, HF.out HQ.out, HB.out.trans (hb'.mono HB.out.size)⟩
  ·have hlt : decide ((j : Int) < (l.length : Int)) = false := by simpa using hj
   have HN := qh (show AtI l p (-1) from .inr ⟨rfl, fun i hi => HA.out i hi (by have := HK.out; omega)⟩)
   go_wp2
   go_ret
   exact ⟨⟨_, rfl, HN.out⟩, HB.out⟩
end Go.Proofs.YtdpbllacfljmoaaGreat
