import Derived.Deep.RegionHeld3
import Derived.KernelRfl
import Derived.Test.YtfdiidhilonkoaaZC01
import Derived.Lib.SliceRun
import Derived.Laws.IdiomCopy
set_option linter.unusedVariables false
/-
  A region that draws its order, walked step by step by the numbers of its operations; the condition on the world may be turned into a stronger one on the way.
-/
namespace Go.Proofs.Ytfdiidhilonkoaa
open Go

section
variable {P : Program} {md : Region.Mode} {Q : Exit → Act → World → Prop} {S S' : World → Prop} {l : List Oper}

/-- What is held may grow on the way. -/
theorem turn_held {ops : Array Oper} (h : ∀ w, S' w → S w) : ∀ (fuel : Nat) (listed : Array Bool) (a : Act) (w : World), wpAnyH P md ops Q S' fuel listed a w → wpAnyH P md ops Q S fuel listed a w
  | 0, _, _, _, hh => hh
  | fuel + 1, _, _, _, hh => ⟨hh.1, fun i hi => wpOp_mono (fun a' w' h' => ⟨h w' h'.1, turn_held h fuel _ a' w' h'.2⟩) (hh.2 i hi)⟩

/-- Number i is taken first. -/
theorem take_held {i fuel : Nat} {oi : Oper} {v : Value} {listed : Array Bool} {a : Act} {w : World} (hi : l[i]? = some oi)
    (hs : Region.noSelect l.toArray = true) (hf : Region.free md l.toArray listed i = true) (hr : (Region.ready md l.toArray listed).contains i = true)
    (hQ : ∀ c a w, Q (.panic c) (a.put oi.dst v) w → Q (.panic c) a w) (hw : Region.wanted oi (yielded l.toArray a.tmps) = true) (hy : ∀ w, S w → (execOp a.eval oi).run P w = .ok (.value v) w) (hS : S w)
    (h : wpAnyH P md l.toArray Q S fuel (listed.setIfInBounds i true) (a.put oi.dst v) w) : wpAnyH P md l.toArray Q S (fuel + 1) listed a w :=
  wpAnyH_take (by simpa using hi) hs hf hr hQ (Or.inl ⟨hw, hy⟩) hS h

/-- Number i alone may come up. -/
theorem step_held {i fuel : Nat} {o : Oper} {listed : Array Bool} {a : Act} {w : World} (hr : Region.ready md l.toArray listed = [i]) (ho : l[i]? = some o)
    (h : ∀ K' : Act → World → Prop, Shut (∀ a w, S w → (S w → wpAnyH P md l.toArray Q S fuel (listed.setIfInBounds i true) a w) → K' a w) → if Region.wanted o (yielded l.toArray a.tmps) = true then Oper.wp P o a w K' Q else K' (a.put o.dst undef) w) :
    wpAnyH P md l.toArray Q S (fuel + 1) listed a w :=
  wpAnyH_ready hr (by simp) (AllReadyH.cons (by simpa using ho) h AllReadyH.nil)
end
section
variable {P : Program} {md : Region.Mode} {Q : Exit → Act → World → Prop} {S : World → Prop} {l : List Oper}
/-- Two may come up. -/
theorem step2_held {i j fuel : Nat} {o o' : Oper} {listed : Array Bool} {a : Act} {w : World} (hr : Region.ready md l.toArray listed = [i, j]) (ho : l[i]? = some o) (ho' : l[j]? = some o')
    (h : ∀ K' : Act → World → Prop, Shut (∀ a w, S w → (S w → wpAnyH P md l.toArray Q S fuel (listed.setIfInBounds i true) a w) → K' a w) → if Region.wanted o (yielded l.toArray a.tmps) = true then Oper.wp P o a w K' Q else K' (a.put o.dst undef) w)
    (h' : ∀ K' : Act → World → Prop, Shut (∀ a w, S w → (S w → wpAnyH P md l.toArray Q S fuel (listed.setIfInBounds j true) a w) → K' a w) → if Region.wanted o' (yielded l.toArray a.tmps) = true then Oper.wp P o' a w K' Q else K' (a.put o'.dst undef) w) :
    wpAnyH P md l.toArray Q S (fuel + 1) listed a w :=
  wpAnyH_ready hr (by simp) (AllReadyH.cons (by simpa using ho) h (AllReadyH.cons (by simpa using ho') h' AllReadyH.nil))
end
section
variable {P : Program} {md : Region.Mode} {Q : Exit → Act → World → Prop} {S : World → Prop} {l : List Oper}
/-- take_held, with what is always paid alike. -/
theorem tkH {i fuel : Nat} {oi : Oper} {v : Value} {listed : Array Bool} {a : Act} {w : World} (hy : ∀ w, S w → (execOp a.eval oi).run P w = .ok (.value v) w) (h : wpAnyH P md l.toArray Q S fuel (listed.setIfInBounds i true) (a.put oi.dst v) w)
    (hi : l[i]? = some oi := by rfl) (hs : Region.noSelect l.toArray = true := by kernel_rfl) (hf : Region.free md l.toArray listed i = true := by kernel_rfl) (hr : (Region.ready md l.toArray listed).contains i = true := by kernel_rfl)
    (hQ : ∀ c a w, Q (.panic c) (a.put oi.dst v) w → Q (.panic c) a w := by exact fun _ _ _ h => h) (hw : Region.wanted oi (yielded l.toArray a.tmps) = true := by rfl) (hS : S w := by assumption) : wpAnyH P md l.toArray Q S (fuel + 1) listed a w :=
  take_held hi hs hf hr hQ hw hy hS h
end
section
variable {P : Program} {md : Region.Mode} {Q : Exit → Act → World → Prop} {S : World → Prop} {l : List Oper}
theorem tkS {i fuel : Nat} {oi : Oper} {v : Value} {listed : Array Bool} {a : Act} {w : World} (h : wpAnyH P md l.toArray Q S fuel (listed.setIfInBounds i true) (a.put oi.dst v) w)
    (hi : l[i]? = some oi := by rfl) (hs : Region.noSelect l.toArray = true := by kernel_rfl) (hf : Region.free md l.toArray listed i = true := by kernel_rfl) (hr : (Region.ready md l.toArray listed).contains i = true := by kernel_rfl)
    (hQ : ∀ c a w, Q (.panic c) (a.put oi.dst v) w → Q (.panic c) a w := by exact fun _ _ _ h => h) (hw : Region.wanted oi (yielded l.toArray a.tmps) = true := by rfl) (hS : S w := by assumption)
    (hy : ∀ w, S w → (execOp a.eval oi).run P w = .ok (.value v) w := by intro w _; go_simp <;> with_reducible rfl) : wpAnyH P md l.toArray Q S (fuel + 1) listed a w :=
  take_held hi hs hf hr hQ hw hy hS h
theorem stH {i fuel : Nat} {o : Oper} {listed : Array Bool} {a : Act} {w : World}
    (h : ∀ K' : Act → World → Prop, Shut (∀ a w, S w → (S w → wpAnyH P md l.toArray Q S fuel (listed.setIfInBounds i true) a w) → K' a w) → if Region.wanted o (yielded l.toArray a.tmps) = true then Oper.wp P o a w K' Q else K' (a.put o.dst undef) w)
    (ho : l[i]? = some o := by rfl) (hr : Region.ready md l.toArray listed = [i] := by kernel_rfl) : wpAnyH P md l.toArray Q S (fuel + 1) listed a w := step_held hr ho h
end
theorem qA {α : Type} (xs : List α) (i : Nat) (a : α) : xs.toArray.setIfInBounds i a = (xs.set i a).toArray := by simp
theorem qB {α : Type} (x : α) (xs : List α) (a : α) : (x :: xs).set 0 a = a :: xs := rfl
theorem qC {α : Type} (x : α) (xs : List α) (n : Nat) (a : α) : (x :: xs).set (n + 1) a = x :: xs.set n a := rfl
end Go.Proofs.Ytfdiidhilonkoaa

/-
  Rows of elements of any number of cells that a call changes in its own memory: stored into, cut, cleared. No Go function is named here.
-/
namespace Go.Proofs.Ytfdiidhilonkoaa
open Go.RowKit

section
variable {α : Type} {k : Nat} {cs : α → List Value} {e : TypeId} {w w' : World} {lo g cap : Nat} {l : List α}
/-- Block g, from lo on, has room for cap elements, and the first ones are l. -/
def BlkG (e : TypeId) (k : Nat) (cs : α → List Value) (w : World) (lo g cap : Nat) (l : List α) : Prop :=
  ∃ cur, lo ≤ g ∧ w.heap[g]? = some (.cells cur e (0, 0)) ∧ l.length ≤ cap ∧ cap ≤ maxLen ∧ cur.size = cap * k ∧ cur.toList.take (l.length * k) = flatG cs l
theorem BlkG.own (hF : Fixed k cs) (h : BlkG e k cs w lo g cap l) : OwnG e k cs w lo (.slice (some ⟨g, 0, none⟩) l.length cap) l := by
  obtain ⟨cur, h1, h2, h3, h4, h5, h6⟩ := h
  exact ⟨hF.flat_len l, .inr ⟨g, cap, cur, rfl, h1, h2, h3, h4, h5, h6⟩⟩
theorem OwnG.blkG {v : Value} (h : OwnG e k cs w lo v l) : (v = .slice none 0 0 ∧ l = []) ∨ ∃ g cap, v = .slice (some ⟨g, 0, none⟩) l.length cap ∧ BlkG e k cs w lo g cap l := by
  rcases h.2 with ⟨h1, h2⟩ | ⟨g, cap, cur, hv, h1, h2, h3, h4, h5, h6⟩
  · exact .inl ⟨h1, List.eq_nil_of_length_eq_zero h2⟩
  · exact .inr ⟨g, cap, hv, cur, h1, h2, h3, h4, h5, h6⟩
theorem BlkG.len (h : BlkG e k cs w lo g cap l) : l.length ≤ cap ∧ cap ≤ maxLen := by
  obtain ⟨_, _, _, h3, h4, _⟩ := h
  exact ⟨h3, h4⟩
theorem BlkG.lt (h : BlkG e k cs w lo g cap l) : lo ≤ g ∧ g < w.heap.size := by
  obtain ⟨_, h1, h2, _⟩ := h
  exact ⟨h1, lt_of_heap h2⟩
theorem BlkG.keep (h : BlkG e k cs w lo g cap l) (hk : w'.heap[g]? = w.heap[g]?) : BlkG e k cs w' lo g cap l := by
  obtain ⟨cur, h1, h2, h3⟩ := h
  exact ⟨cur, h1, hk.trans h2, h3⟩
theorem BlkG.below (h : BlkG e k cs w lo g cap l) (hb : Below w.heap.size w w') : BlkG e k cs w' lo g cap l := h.keep (hb.block g h.lt.2)
theorem BlkG.allocs (h : BlkG e k cs w lo g cap l) (o : Obj) : BlkG e k cs (w.alloc o) lo g cap l := h.below ((Below.refl _ w).alloc (Nat.le_refl _) o)
theorem BlkG.cur (h : BlkG e k cs w lo g cap l) : ∃ cur : Array Value, w.heap[g]? = some (.cells cur e (0, 0)) ∧ cur.size = cap * k ∧ ∀ (j : Nat) (u : Value), (flatG cs l)[j]? = some u → cur[j]? = some u := by
  obtain ⟨cur, _, h2, _, _, h5, h6⟩ := h
  refine ⟨cur, h2, h5, fun j u hu => ?_⟩
  rw [← h6, List.getElem?_take] at hu
  split at hu
  · rw [← hu, Array.getElem?_toList]
  · cases hu
theorem BlkG.at_ (hF : Fixed k cs) (h : BlkG e k cs w lo g cap l) {j : Nat} (hj : j < l.length) (i : Nat) (u : Value) (hu : (cs (l[j]'hj))[i]? = some u) : w.cell? ⟨g, j * k + i, none⟩ = some u := by
  obtain ⟨cur, h2, _, hc⟩ := h.cur
  have hi := (List.getElem?_eq_some_iff.1 hu).1
  rw [hF.len] at hi
  rw [cell_of_row w g _ _ _ _ h2]
  exact hc _ _ ((hF.flat_at l j hj i hi).trans hu)
theorem BlkG.frozen (h : BlkG e k cs w lo g cap l) (o : Nat) : w.frozen? ⟨g, o, none⟩ = false := by
  obtain ⟨cur, _, h2, _⟩ := h
  exact frozen_of h2 o
theorem BlkG.row (h : BlkG e k cs w lo g cap l) : RowG cs w 0 w.heap.size (some ⟨g, 0, none⟩) l := by
  obtain ⟨cur, h2, _, hc⟩ := h.cur
  exact (RowG.block h2 hc).wide (Nat.zero_le _) (lt_of_heap h2)
theorem BlkG.take (hF : Fixed k cs) (h : BlkG e k cs w lo g cap l) (m : Nat) : BlkG e k cs w lo g cap (l.take m) := by
  obtain ⟨cur, h1, h2, h3, h4, h5, h6⟩ := h
  refine ⟨cur, h1, h2, ?_, h4, h5, ?_⟩
  · rw [List.length_take]; omega
  · have e := congrArg (List.take (m * k)) h6
    rw [List.take_take, hF.flat_take] at e
    have hm : min m l.length * k = min (m * k) (l.length * k) := by
      rcases Nat.le_total m l.length with hle | hle
      · rw [Nat.min_eq_left hle, Nat.min_eq_left (Nat.mul_le_mul_right k hle)]
      · rw [Nat.min_eq_right hle, Nat.min_eq_right (Nat.mul_le_mul_right k hle)]
    rw [List.length_take, hm]
    exact e
theorem setCells_getN (g : Nat) (t : TypeId) : ∀ (vs : List Value) (o : Nat) (w : World) (cur : Array Value), w.heap[g]? = some (.cells cur t (0, 0)) →
    ∃ cur' : Array Value, (w.setCells g o vs).heap[g]? = some (.cells cur' t (0, 0)) ∧ cur'.size = cur.size ∧ (∀ i, i < o ∨ o + vs.length ≤ i → cur'[i]? = cur[i]?) ∧ ∀ i, i < vs.length → o + i < cur.size → cur'[o + i]? = vs[i]?
  | [], o, w, cur, h => ⟨cur, h, rfl, fun _ _ => rfl, fun _ hi => absurd hi (by simp)⟩
  | v :: vs, o, w, cur, h => by
    have h1 : (w.setCell ⟨g, o, none⟩ v).heap[g]? = some (.cells (cur.setIfInBounds o v) t (0, 0)) := by
      simp [World.setCell, Array.getElem?_modify, h]
    obtain ⟨cur', k1, k2, k3, k4⟩ := setCells_getN g t vs (o + 1) (w.setCell ⟨g, o, none⟩ v) _ h1
    rw [Array.size_setIfInBounds] at k2 k4
    refine ⟨cur', k1, k2, fun i hi => ?_, fun i hi hs => ?_⟩
    · simp only [List.length_cons] at hi
      rw [k3 i (by omega), Array.getElem?_setIfInBounds_ne (by omega)]
    · cases i with
      | zero =>
        rw [Nat.add_zero, k3 o (.inl (by omega)), Array.getElem?_setIfInBounds_self]
        simp
        omega
      | succ i =>
        simp only [List.length_cons] at hi
        have := k4 i (by omega) (by omega)
        rw [show o + (i + 1) = o + 1 + i by omega, this]
        simp
/-- An element is stored at place j. -/
theorem BlkG.storeG (hF : Fixed k cs) (h : BlkG e k cs w lo g cap l) (j : Nat) (x : α) (hj : j < l.length) : BlkG e k cs (w.setCells g (j * k) (cs x)) lo g cap (l.set j x) := by
  obtain ⟨cur, h1, h2, h3, h4, h5, h6⟩ := h
  obtain ⟨cur', k1, k2, k3, k4⟩ := setCells_getN g e (cs x) (j * k) w cur h2
  rw [hF.len] at k3 k4
  refine ⟨cur', h1, k1, by rw [List.length_set]; exact h3, h4, by rw [k2, h5], ?_⟩
  have hjk : j * k + k ≤ cap * k := by
    have : (j + 1) * k ≤ cap * k := Nat.mul_le_mul_right k (by omega)
    rwa [Nat.add_mul, Nat.one_mul] at this
  apply List.ext_getElem?
  intro i
  rw [List.getElem?_take, List.length_set]
  have hk := hF.pos
  by_cases hi : i < l.length * k
  · rw [if_pos hi, Array.getElem?_toList]
    have hq : i / k < l.length := by rwa [Nat.div_lt_iff_lt_mul hk]
    have hr : i % k < k := Nat.mod_lt _ hk
    have hi2 : i = i / k * k + i % k := (Nat.div_add_mod' i k).symm
    have e1 := hF.flat_at (l.set j x) (i / k) (by rw [List.length_set]; exact hq) (i % k) hr
    rw [← hi2] at e1
    rw [e1]
    by_cases hjq : j = i / k
    · subst hjq
      rw [List.getElem_set_self]
      have := k4 (i % k) hr (by rw [h5]; omega)
      rw [← hi2] at this
      exact this
    · rw [List.getElem_set_ne hjq]
      have hout : i < j * k ∨ j * k + k ≤ i := by
        rcases Nat.lt_or_gt_of_ne hjq with h | h
        · right
          have : (j + 1) * k ≤ i / k * k := Nat.mul_le_mul_right k h
          rw [Nat.add_mul, Nat.one_mul] at this
          omega
        · left
          have : (i / k + 1) * k ≤ j * k := Nat.mul_le_mul_right k h
          rw [Nat.add_mul, Nat.one_mul] at this
          omega
      rw [k3 i hout]
      have e2 := hF.flat_at l (i / k) hq (i % k) hr
      rw [← hi2, ← h6, List.getElem?_take, if_pos hi, Array.getElem?_toList] at e2
      exact e2
  · rw [if_neg hi, List.getElem?_eq_none (by rw [hF.flat_len, List.length_set]; omega)]
theorem belowN_setCells {B b : Nat} : ∀ (vs : List Value) (o : Nat) (w0 w : World), Below B w0 w → B ≤ b → Below B w0 (w.setCells b o vs)
  | [], _, _, _, h, _ => h
  | v :: vs, o, w0, w, h, hb => belowN_setCells vs (o + 1) w0 _ (h.setCell hb _) hb
theorem setCells_farN {b g : Nat} (hg : g ≠ b) : ∀ (vs : List Value) (o : Nat) (w : World), (w.setCells b o vs).heap[g]? = w.heap[g]?
  | [], _, _ => rfl
  | v :: vs, o, w => by
    show ((w.setCell ⟨b, o, none⟩ v).setCells b (o + 1) vs).heap[g]? = _
    rw [setCells_farN hg vs (o + 1) _]
    have hg' : b ≠ g := fun e => hg e.symm
    simp [World.setCell, Array.getElem?_modify, hg']
theorem setCells_sizeN {b : Nat} : ∀ (vs : List Value) (o : Nat) (w : World), (w.setCells b o vs).heap.size = w.heap.size
  | [], _, _ => rfl
  | v :: vs, o, w => by
    show ((w.setCell ⟨b, o, none⟩ v).setCells b (o + 1) vs).heap.size = _
    rw [setCells_sizeN vs (o + 1) _]
    simp [World.setCell]
/-- What is behind the first m is laid anew. -/
theorem BlkG.tail (hF : Fixed k cs) (h : BlkG e k cs w lo g cap l) (m : Nat) (vs : List Value) : BlkG e k cs (w.setCells g (m * k) vs) lo g cap (l.take m) := by
  obtain ⟨cur, h1, h2, h3, h4, h5, h6⟩ := h.take hF m
  obtain ⟨cur', k1, k2, k3, _⟩ := setCells_getN g _ vs (m * k) w cur h2
  refine ⟨cur', h1, k1, h3, h4, by rw [k2, h5], ?_⟩
  rw [← h6]
  apply List.ext_getElem?
  intro i
  rw [List.getElem?_take, List.getElem?_take]
  split
  · next hi =>
    rw [Array.getElem?_toList, Array.getElem?_toList]
    refine k3 i (.inl ?_)
    have : (l.take m).length * k ≤ m * k := Nat.mul_le_mul_right k (by rw [List.length_take]; omega)
    omega
  · rfl
end
end Go.Proofs.Ytfdiidhilonkoaa
