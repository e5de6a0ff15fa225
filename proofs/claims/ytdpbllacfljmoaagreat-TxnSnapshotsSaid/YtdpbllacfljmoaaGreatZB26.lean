import Derived.Test.YtdpbllacfljmoaaGreatZB25
import Derived.Sort.OwnSorted
import Derived.Shelf.Slices.In.SortNone
import Derived.Test.YtdpbllacfljmoaaGreatZB00
import Derived.Lib.SliceRun
import Derived.Laws.IdiomCopy
set_option maxRecDepth 100000
set_option maxHeartbeats 16000000
set_option linter.unusedVariables false
namespace Go.Proofs.YtdpbllacfljmoaaGreat
open Go.RowKit Go.Sort
theorem q9P (l : List Int) : q0g q2o l = l.map (Value.int .i64) := by
 induction l with
 | nil => rfl
 | cons x l ih => rw [q0k, ih]; rfl
theorem qfH {w : World} {g : Nat} {cur : Array Value} {e : TypeId} {zs : List Int} (hb : w.heap[g]? = some (.cells cur e (0, 0))) (ht : cur.toList.take zs.length = zs.map (Value.int .i64)) : Holds (Value.int .i64) w g 0 zs.toArray := by
 intro j hj
 have hj' : j < zs.length := by simpa using hj
 refine ⟨?_, by simp [World.frozen?, hb]⟩
 have h1 : (cur.toList.take zs.length)[j]? = (zs.map (Value.int .i64))[j]? := by rw [ht]
 rw [List.getElem?_take_of_lt hj'] at h1
 simp only [World.cell?, hb, Nat.zero_add]
 simp only [Option.isSome_none, Bool.false_eq_true, if_false]
 rw [← Array.getElem?_toList, h1]
 simp [hj']
theorem qgd {w : World} {g n : Nat} {os : Array Obj} {cur : Array Value} {e : TypeId} {fr : Nat × Nat} (d : Array Int) (hb : w.heap[g]? = some (.cells cur e fr)) :
  (grow (putRow (Value.int .i64) (Sort.ahead w n) g 0 d) os).heap[g]? = some (.cells (putCells (Value.int .i64) 0 d cur) e fr) := by
 have hg : g < w.heap.size := (Array.getElem?_eq_some_iff.1 hb).1
 rw [heap_grow_old _ _ (by simpa using hg)]
 simp [putRow, mapBlock, Sort.ahead, Array.getElem?_modify, hb, onCells]
theorem qfG {w : World} {g n : Nat} {os : Array Obj} (d : Array Int) : w.grownBy (grow (putRow (Value.int .i64) (Sort.ahead w n) g 0 d) os) (some g) := by
 refine ⟨rfl, rfl, rfl, by simp, fun k hk hne => ?_⟩
 rw [heap_grow_old _ _ (by simpa using hk)]
 have : g ≠ k := fun e => hne (by rw [e])
 simp [putRow, mapBlock, Sort.ahead, Array.getElem?_modify, this]
theorem qge (cur : Array Value) (ts : List Int) (h : ts.length ≤ cur.size) : (putCells (Value.int .i64) 0 ts.toArray cur).toList.take ts.length = ts.map (Value.int .i64) := by
 apply List.ext_getElem?
 intro j
 by_cases hj : j < ts.length
 ·rw [List.getElem?_take_of_lt hj, Array.getElem?_toList]
  simp [putCells, hj, show j < cur.size by omega]
 ·rw [List.getElem?_take_eq_none (by omega), List.getElem?_eq_none (by simp; omega)]
theorem qbq (w0 : World) (zs : List Int) (v : Value) (w : World) (hl : zs.length ≤ 1000) (ho : OwnG 3 1 q2o w w0.heap.size v zs) (hs : w0.heap.size ≤ w.heap.size) (hb0 : Below w0.heap.size w0 w) :
  Calls Tryz.prog 66 #[v] w fun e w' => e = .returned (.tuple #[]) ∧ OwnG 3 1 q2o w' w0.heap.size v (zs.mergeSort fun x y => decide (x ≤ y)) ∧ Below w0.heap.size w0 w' := by
 rcases ho with ⟨hn, hnil | ⟨g, cap, cur, rfl, hbase, hb, h1, h2, h3, h4⟩⟩
 ·obtain ⟨rfl, h0⟩ := hnil
  have h0 : zs = [] := by
   first
    | exact List.eq_nil_of_length_eq_zero h0
    | (cases zs with | nil => rfl | cons x l => simp at h0)
  subst h0
  have hz := Any.slices_Sort_int_none Tryz.sortInts none 0 w
  change Calls Tryz.prog 66 _ _ _ at hz
  exact hz.mono fun _ _ q => ⟨q.1, by rw [List.mergeSort_nil]; exact OwnG.none_ _ _ _ _ _, by rw [q.2]; exact hb0⟩
 ·have hg : g < w.heap.size := (Array.getElem?_eq_some_iff.1 hb).1
  rw [Nat.mul_one, q9P] at h4
  have hc := Any.slices_Sort_int Tryz.sortInts g 0 cap zs w (qfH hb h4) hg (by omega)
  change Calls Tryz.prog 66 _ _ _ at hc
  refine hc.mono ?_
  rintro e w' ⟨rfl, n, os, rfl⟩
  have hll : (zs.mergeSort fun x y => decide (x ≤ y)).length = zs.length := by simp
  refine ⟨rfl, ⟨by rw [q9P]; simp, .inr ⟨g, cap, _, by rw [hll], hbase, qgd _ hb, by rw [hll]; exact h1, h2, by simp [putCells, h3], ?_⟩⟩, ?_⟩
  ·rw [Nat.mul_one, q9P]
   exact qge cur _ (by rw [hll]; omega)
  ·exact hb0.grown (qfG _) hs (fun g' hg' => by injection hg' with hg'; omega)
theorem q7a : ∀ {a c : List Int}, a.Pairwise (· < ·) → c.Pairwise (· < ·) → (∀ z, z ∈ a ↔ z ∈ c) → a = c
 | [], [], _, _, _ => rfl
 | [], y :: c, _, _, h => absurd ((h y).2 (List.mem_cons_self ..)) (by simp)
 | x :: a, [], _, _, h => absurd ((h x).1 (List.mem_cons_self ..)) (by simp)
 | x :: a, y :: c, ha, hc, h => by
  obtain ⟨a1, a2⟩ := List.pairwise_cons.1 ha
  obtain ⟨c1, c2⟩ := List.pairwise_cons.1 hc
  have e : x = y := by
   rcases List.mem_cons.1 ((h x).1 (List.mem_cons_self ..)) with q | q
   ·exact q
   ·rcases List.mem_cons.1 ((h y).2 (List.mem_cons_self ..)) with q2 | q2
    ·exact q2.symm
    ·have := c1 x q
     have := a1 y q2
     omega
  subst e
  refine congrArg (x :: ·) (q7a a2 c2 fun z => ⟨fun hz => ?_, fun hz => ?_⟩)
  ·rcases List.mem_cons.1 ((h z).1 (List.mem_cons_of_mem _ hz)) with q | q
   ·have := a1 z hz
    omega
   ·exact q
  ·rcases List.mem_cons.1 ((h z).2 (List.mem_cons_of_mem _ hz)) with q | q
   ·have := c1 z hz
    omega
   ·exact q
theorem q9X {l : List TxS} {zs : List Int} (hi : IdsT l) (hn : zs.Nodup) (hm : ∀ z, z ∈ zs ↔ ∃ t ∈ l, (t.id : Int) = z) : (zs.mergeSort fun x y => decide (x ≤ y)) = l.map fun t => (t.id : Int) := by
 have hp := List.mergeSort_perm zs fun x y => decide (x ≤ y)
 have hs := List.pairwise_mergeSort (le := fun x y : Int => decide (x ≤ y)) (fun a b c => by simp only [decide_eq_true_iff]; omega) (fun a b => by simp only [Bool.or_eq_true, decide_eq_true_iff]; omega) zs
 refine q7a ?_ ?_ fun z => ?_
 ·refine (List.Pairwise.and hs (hp.nodup_iff.2 hn)).imp fun {x y} ⟨q1, q2⟩ => ?_
  have q1 : x ≤ y := by simpa using q1
  have : x ≠ y := q2
  omega
 ·rw [List.pairwise_map]
  exact hi.imp fun {x y} q => by omega
 ·rw [hp.mem_iff, hm, List.mem_map]
theorem qgy {w : World} {lo : Nat} {A : Option Addr} {l : List Nat} {S : Nat → Prop} (h : RowG q2o w lo w.heap.size A (l.map fun n : Nat => (n : Int))) (hS : ∀ g, lo ≤ g → S g) : RowS q9V w S A l := fun hn => by
 obtain ⟨b, o, e, h1, h2, hc⟩ := h (by simpa using hn)
 refine ⟨b, o, e, hS b h1, fun j u hu => hc j u ?_⟩
 have e2 : q0g q2o (l.map fun n : Nat => (n : Int)) = q0g q9V l := by
  clear hn hc hu h e
  induction l with
  | nil => rfl
  | cons x l ih => rw [List.map_cons, q0k, q0k, ih]; rfl
 rw [e2]
 exact hu
theorem qbo {w : World} {o p : Nat} {F : Nat → Prop} {L : LimT} {b : q05} (h : StT o w p F L b) (_ : q0I b) :
  Calls Tryz.prog 24 #[ptrS p] w fun r w' => ∃ A c, r = .returned (.slice A b.live.length c) ∧ InS_ w' (ResT F o w) A c (b.live.map TxS.id) ∧ Below w.heap.size w w' := by
 obtain ⟨ρ, ps, B, P, rv, hv, rfl, hraw, hok, hri, hm⟩ := h
 have hlv : b.live.length ≤ 1000 := by
  have h1 := hok.few
  have h2 := q3A hm
  omega
 refine (qbn hraw hlv fun zs v W hl ho hs hb => qbq w zs v W hl ho hs hb).mono ?_
 rintro r w' ⟨v, zs, rfl, hn, hmem, ho, hb⟩
 rw [q9X hok.ids hn hmem] at ho
 obtain ⟨A, c, rfl, h1, h2, h3, h4⟩ := ho.form
 rw [List.length_map] at h1 ⊢
 refine ⟨A, c, rfl, ⟨by rw [List.length_map]; exact h1, h2, h3, qgy (lo := w.heap.size) ?_ fun g hg => .inr (.inr hg)⟩, hb⟩
 rw [List.map_map]
 exact h4
open Go.RowKit
section
variable {α : Type} {k : Nat} {cs : α → List Value} {e : TypeId} {w w' : World} {lo g cap : Nat} {l : List α}
def BlkG (e : TypeId) (k : Nat) (cs : α → List Value) (w : World) (lo g cap : Nat) (l : List α) : Prop :=
 ∃ cur, lo ≤ g ∧ w.heap[g]? = some (.cells cur e (0, 0)) ∧ l.length ≤ cap ∧ cap ≤ maxLen ∧ cur.size = cap * k ∧ cur.toList.take (l.length * k) = q0g cs l
theorem BlkG.own (hF : q0Z k cs) (h : BlkG e k cs w lo g cap l) : OwnG e k cs w lo (.slice (some ⟨g, 0, none⟩) l.length cap) l := by
 obtain ⟨cur, h1, h2, h3, h4, h5, h6⟩ := h
 exact ⟨hF.flat_len l, .inr ⟨g, cap, cur, rfl, h1, h2, h3, h4, h5, h6⟩⟩
theorem OwnG.blkG {v : Value} (h : OwnG e k cs w lo v l) : (v = .slice none 0 0 ∧ l = []) ∨ ∃ g cap, v = .slice (some ⟨g, 0, none⟩) l.length cap ∧ BlkG e k cs w lo g cap l := by
 rcases h.2 with ⟨h1, h2⟩ | ⟨g, cap, cur, hv, h1, h2, h3, h4, h5, h6⟩
 ·exact .inl ⟨h1, List.eq_nil_of_length_eq_zero h2⟩
 ·exact .inr ⟨g, cap, hv, cur, h1, h2, h3, h4, h5, h6⟩
theorem BlkG.len (h : BlkG e k cs w lo g cap l) : l.length ≤ cap ∧ cap ≤ maxLen := by
 obtain ⟨_, _, _, h3, h4, _⟩ := h
 exact ⟨h3, h4⟩
theorem BlkG.lt (h : BlkG e k cs w lo g cap l) : lo ≤ g ∧ g < w.heap.size := by
 obtain ⟨_, h1, h2, _⟩ := h
 exact ⟨h1, q00 h2⟩
theorem BlkG.keep (h : BlkG e k cs w lo g cap l) (hk : w'.heap[g]? = w.heap[g]?) : BlkG e k cs w' lo g cap l := by
 obtain ⟨cur, h1, h2, h3⟩ := h
 exact ⟨cur, h1, hk.trans h2, h3⟩
theorem BlkG.below (h : BlkG e k cs w lo g cap l) (hb : Below w.heap.size w w') : BlkG e k cs w' lo g cap l := h.keep (hb.block g h.lt.2)
theorem BlkG.allocs (h : BlkG e k cs w lo g cap l) (o : Obj) : BlkG e k cs (w.alloc o) lo g cap l := h.below ((Below.refl _ w).alloc (Nat.le_refl _) o)
theorem BlkG.cur (h : BlkG e k cs w lo g cap l) : ∃ cur : Array Value, w.heap[g]? = some (.cells cur e (0, 0)) ∧ cur.size = cap * k ∧ ∀ (j : Nat) (u : Value), (q0g cs l)[j]? = some u → cur[j]? = some u := by
 obtain ⟨cur, _, h2, _, _, h5, h6⟩ := h
 refine ⟨cur, h2, h5, fun j u hu => ?_⟩
 rw [← h6, List.getElem?_take] at hu
 split at hu
 ·rw [← hu, Array.getElem?_toList]
 ·cases hu
theorem BlkG.at_ (hF : q0Z k cs) (h : BlkG e k cs w lo g cap l) {j : Nat} (hj : j < l.length) (i : Nat) (u : Value) (hu : (cs (l[j]'hj))[i]? = some u) : w.cell? ⟨g, j * k + i, none⟩ = some u := by
 obtain ⟨cur, h2, _, hc⟩ := h.cur
 have hi := (List.getElem?_eq_some_iff.1 hu).1
 rw [hF.len] at hi
 rw [cell_of_row w g _ _ _ _ h2]
 exact hc _ _ ((hF.flat_at l j hj i hi).trans hu)
theorem BlkG.frozen (h : BlkG e k cs w lo g cap l) (o : Nat) : w.frozen? ⟨g, o, none⟩ = false := by
 obtain ⟨cur, _, h2, _⟩ := h
 exact q02 h2 o
theorem BlkG.row (h : BlkG e k cs w lo g cap l) : RowG cs w 0 w.heap.size (some ⟨g, 0, none⟩) l := by
 obtain ⟨cur, h2, _, hc⟩ := h.cur
 exact (RowG.block h2 hc).wide (Nat.zero_le _) (q00 h2)
theorem BlkG.take (hF : q0Z k cs) (h : BlkG e k cs w lo g cap l) (m : Nat) : BlkG e k cs w lo g cap (l.take m) := by
 obtain ⟨cur, h1, h2, h3, h4, h5, h6⟩ := h
 refine ⟨cur, h1, h2, ?_, h4, h5, ?_⟩
 ·rw [List.length_take]; omega
 ·have e := congrArg (List.take (m * k)) h6
  rw [List.take_take, hF.flat_take] at e
  have hm : min m l.length * k = min (m * k) (l.length * k) := by
   rcases Nat.le_total m l.length with hle | hle
   ·rw [Nat.min_eq_left hle, Nat.min_eq_left (Nat.mul_le_mul_right k hle)]
   ·rw [Nat.min_eq_right hle, Nat.min_eq_right (Nat.mul_le_mul_right k hle)]
  rw [List.length_take, hm]
  exact e
theorem q3l (g : Nat) (t : TypeId) : ∀ (vs : List Value) (o : Nat) (w : World) (cur : Array Value), w.heap[g]? = some (.cells cur t (0, 0)) →
  ∃ cur' : Array Value, (w.setCells g o vs).heap[g]? = some (.cells cur' t (0, 0)) ∧ cur'.size = cur.size ∧ (∀ i, i < o ∨ o + vs.length ≤ i → cur'[i]? = cur[i]?) ∧ ∀ i, i < vs.length → o + i < cur.size → cur'[o + i]? = vs[i]?
 | [], o, w, cur, h => ⟨cur, h, rfl, fun _ _ => rfl, fun _ hi => absurd hi (by simp)⟩
 | v :: vs, o, w, cur, h => by
  have h1 : (w.setCell ⟨g, o, none⟩ v).heap[g]? = some (.cells (cur.setIfInBounds o v) t (0, 0)) := by
   simp [World.setCell, Array.getElem?_modify, h]
  obtain ⟨cur', k1, k2, k3, k4⟩ := q3l g t vs (o + 1) (w.setCell ⟨g, o, none⟩ v) _ h1
  rw [Array.size_setIfInBounds] at k2 k4
  refine ⟨cur', k1, k2, fun i hi => ?_, fun i hi hs => ?_⟩
  ·simp only [List.length_cons] at hi
   rw [k3 i (by omega), Array.getElem?_setIfInBounds_ne (by omega)]
  ·cases i with
   | zero =>
    rw [Nat.add_zero, k3 o (.inl (by omega)), Array.getElem?_setIfInBounds_self]
    simp
    omega
   | succ i =>
    simp only [List.length_cons] at hi
    have := k4 i (by omega) (by omega)
    rw [show o + (i + 1) = o + 1 + i by omega, this]
    simp
theorem BlkG.storeG (hF : q0Z k cs) (h : BlkG e k cs w lo g cap l) (j : Nat) (x : α) (hj : j < l.length) : BlkG e k cs (w.setCells g (j * k) (cs x)) lo g cap (l.set j x) := by
 obtain ⟨cur, h1, h2, h3, h4, h5, h6⟩ := h
 obtain ⟨cur', k1, k2, k3, k4⟩ := q3l g e (cs x) (j * k) w cur h2
 rw [hF.len] at k3 k4
 refine ⟨cur', h1, k1, by rw [List.length_set]; exact h3, h4, by rw [k2, h5], ?_⟩
 have hjk : j * k + k ≤ cap * k := by
  have : (j + 1) * k ≤ cap * k := Nat.mul_le_mul_right k (by omega)
  rwa [Nat.add_mul, Nat.one_mul] at this
 apply List.ext_getElem?
 intro i
 rw [List.getElem?_take, List.length_set]
 have hk := hF.pos
 by_cases hi : i < l.length * k
 ·rw [if_pos hi, Array.getElem?_toList]
  have hq : i / k < l.length := by rwa [Nat.div_lt_iff_lt_mul hk]
  have hr : i % k < k := Nat.mod_lt _ hk
  have hi2 : i = i / k * k + i % k := (Nat.div_add_mod' i k).symm
  have e1 := hF.flat_at (l.set j x) (i / k) (by rw [List.length_set]; exact hq) (i % k) hr
  rw [← hi2] at e1
  rw [e1]
  by_cases hjq : j = i / k
  ·subst hjq
   rw [List.getElem_set_self]
   have := k4 (i % k) hr (by rw [h5]; omega)
   rw [← hi2] at this
   exact this
  ·rw [List.getElem_set_ne hjq]
   have hout : i < j * k ∨ j * k + k ≤ i := by
    rcases Nat.lt_or_gt_of_ne hjq with h | h
    ·right
     have : (j + 1) * k ≤ i / k * k := Nat.mul_le_mul_right k h
     rw [Nat.add_mul, Nat.one_mul] at this
     omega
    ·left
     have : (i / k + 1) * k ≤ j * k := Nat.mul_le_mul_right k h
     rw [Nat.add_mul, Nat.one_mul] at this
     omega
   rw [k3 i hout]
   have e2 := hF.flat_at l (i / k) hq (i % k) hr
   rw [← hi2, ← h6, List.getElem?_take, if_pos hi, Array.getElem?_toList] at e2
   exact e2
 ·rw [if_neg hi, List.getElem?_eq_none (by rw [hF.flat_len, List.length_set]; omega)]
theorem q2z {B b : Nat} : ∀ (vs : List Value) (o : Nat) (w0 w : World), Below B w0 w → B ≤ b → Below B w0 (w.setCells b o vs)
 | [], _, _, _, h, _ => h
 | v :: vs, o, w0, w, h, hb => q2z vs (o + 1) w0 _ (h.setCell hb _) hb
theorem q3k {b g : Nat} (hg : g ≠ b) : ∀ (vs : List Value) (o : Nat) (w : World), (w.setCells b o vs).heap[g]? = w.heap[g]?
 | [], _, _ => rfl
 | v :: vs, o, w => by
  show ((w.setCell ⟨b, o, none⟩ v).setCells b (o + 1) vs).heap[g]? = _
  rw [q3k hg vs (o + 1) _]
  have hg' : b ≠ g := fun e => hg e.symm
  simp [World.setCell, Array.getElem?_modify, hg']
theorem q1G {b : Nat} : ∀ (vs : List Value) (o : Nat) (w : World), (w.setCells b o vs).heap.size = w.heap.size
 | [], _, _ => rfl
 | v :: vs, o, w => by
  show ((w.setCell ⟨b, o, none⟩ v).setCells b (o + 1) vs).heap.size = _
  rw [q1G vs (o + 1) _]
  simp [World.setCell]
theorem BlkG.tail (hF : q0Z k cs) (h : BlkG e k cs w lo g cap l) (m : Nat) (vs : List Value) : BlkG e k cs (w.setCells g (m * k) vs) lo g cap (l.take m) := by
 obtain ⟨cur, h1, h2, h3, h4, h5, h6⟩ := h.take hF m
 obtain ⟨cur', k1, k2, k3, _⟩ := q3l g _ vs (m * k) w cur h2
 refine ⟨cur', h1, k1, h3, h4, by rw [k2, h5], ?_⟩
 rw [← h6]
 apply List.ext_getElem?
 intro i
 rw [List.getElem?_take, List.getElem?_take]
 split
 ·next hi =>
  rw [Array.getElem?_toList, Array.getElem?_toList]
  refine k3 i (.inl ?_)
  have : (l.take m).length * k ≤ m * k := Nat.mul_le_mul_right k (by rw [List.length_take]; omega)
  omega
 ·rfl
end
end Go.Proofs.YtdpbllacfljmoaaGreat
