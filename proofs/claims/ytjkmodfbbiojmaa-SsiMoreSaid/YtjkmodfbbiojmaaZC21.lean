import Derived.Test.YtjkmodfbbiojmaaZC07
import Derived.Lib.SliceRun
import Derived.Laws.IdiomCopy
/-
  Rows of stretches that a call changes in its own memory: stored into, cut, cleared.
-/
namespace Go.Proofs.Ytjkmodfbbiojmaa
open Go.RowKit

/-- Block g, from lo on, has room for cap stretches, and the first ones are l. -/
def BlkI (w : World) (lo g cap : Nat) (l : List Sp) : Prop :=
  ∃ cur, lo ≤ g ∧ w.heap[g]? = some (.cells cur 58 (0, 0)) ∧ l.length ≤ cap ∧ cap ≤ maxLen ∧ cur.size = cap * 2 ∧ cur.toList.take (l.length * 2) = flatG spCells l
section
variable {w w' : World} {lo g cap : Nat} {l : List Sp}
theorem BlkI.own (h : BlkI w lo g cap l) : OwnG 58 2 spCells w lo (.slice (some ⟨g, 0, none⟩) l.length cap) l := by
  obtain ⟨cur, h1, h2, h3, h4, h5, h6⟩ := h
  exact ⟨spF.flat_len l, .inr ⟨g, cap, cur, rfl, h1, h2, h3, h4, h5, h6⟩⟩
theorem OwnG.blk {v : Value} (h : OwnG 58 2 spCells w lo v l) : (v = .slice none 0 0 ∧ l = []) ∨ ∃ g cap, v = .slice (some ⟨g, 0, none⟩) l.length cap ∧ BlkI w lo g cap l := by
  rcases h.2 with ⟨h1, h2⟩ | ⟨g, cap, cur, hv, h1, h2, h3, h4, h5, h6⟩
  · exact .inl ⟨h1, List.eq_nil_of_length_eq_zero h2⟩
  · exact .inr ⟨g, cap, hv, cur, h1, h2, h3, h4, h5, h6⟩
theorem BlkI.len (h : BlkI w lo g cap l) : l.length ≤ cap ∧ cap ≤ maxLen := by
  obtain ⟨_, _, _, h3, h4, _⟩ := h
  exact ⟨h3, h4⟩
theorem BlkI.lt (h : BlkI w lo g cap l) : lo ≤ g ∧ g < w.heap.size := by
  obtain ⟨_, h1, h2, _⟩ := h
  exact ⟨h1, lt_of_heap h2⟩
theorem BlkI.keep (h : BlkI w lo g cap l) (hk : w'.heap[g]? = w.heap[g]?) : BlkI w' lo g cap l := by
  obtain ⟨cur, h1, h2, h3⟩ := h
  exact ⟨cur, h1, hk.trans h2, h3⟩
theorem BlkI.below (h : BlkI w lo g cap l) (hb : Below w.heap.size w w') : BlkI w' lo g cap l := h.keep (hb.block g h.lt.2)
theorem BlkI.allocs (h : BlkI w lo g cap l) (o : Obj) : BlkI (w.alloc o) lo g cap l := h.below ((Below.refl _ w).alloc (Nat.le_refl _) o)
theorem BlkI.cur (h : BlkI w lo g cap l) : ∃ cur : Array Value, w.heap[g]? = some (.cells cur 58 (0, 0)) ∧ cur.size = cap * 2 ∧ ∀ (j : Nat) (u : Value), (flatG spCells l)[j]? = some u → cur[j]? = some u := by
  obtain ⟨cur, _, h2, _, _, h5, h6⟩ := h
  refine ⟨cur, h2, h5, fun j u hu => ?_⟩
  rw [← h6, List.getElem?_take] at hu
  split at hu
  · rw [← hu, Array.getElem?_toList]
  · cases hu
theorem BlkI.at_ (h : BlkI w lo g cap l) {j : Nat} (hj : j < l.length) : w.cell? ⟨g, j * 2, none⟩ = some (.string (bs (l[j]'hj).lo)) ∧ w.cell? ⟨g, j * 2 + 1, none⟩ = some (.string (bs (l[j]'hj).hi)) := by
  obtain ⟨cur, h2, _, hc⟩ := h.cur
  have e0 := spF.flat_at l j hj 0 (by decide)
  have e1 := spF.flat_at l j hj 1 (by decide)
  rw [Nat.add_zero] at e0
  refine ⟨?_, ?_⟩
  · rw [cell_of_row w g _ _ _ _ h2]
    exact hc _ _ (e0.trans rfl)
  · rw [cell_of_row w g _ _ _ _ h2]
    exact hc _ _ (e1.trans rfl)
theorem BlkI.frozen (h : BlkI w lo g cap l) (o : Nat) : w.frozen? ⟨g, o, none⟩ = false := by
  obtain ⟨cur, _, h2, _⟩ := h
  exact frozen_of h2 o
theorem BlkI.row (h : BlkI w lo g cap l) : RowG spCells w 0 w.heap.size (some ⟨g, 0, none⟩) l := by
  obtain ⟨cur, h2, _, hc⟩ := h.cur
  exact (RowG.block h2 hc).wide (Nat.zero_le _) (lt_of_heap h2)
theorem BlkI.take (h : BlkI w lo g cap l) (m : Nat) : BlkI w lo g cap (l.take m) := by
  obtain ⟨cur, h1, h2, h3, h4, h5, h6⟩ := h
  refine ⟨cur, h1, h2, ?_, h4, h5, ?_⟩
  · rw [List.length_take]; omega
  · have e := congrArg (List.take (m * 2)) h6
    rw [List.take_take, spF.flat_take] at e
    rw [List.length_take, show min m l.length * 2 = min (m * 2) (l.length * 2) by omega]
    exact e
theorem flat_set2 : ∀ (l : List Sp) (j : Nat) (x : Sp), j < l.length → flatG spCells (l.set j x) = ((flatG spCells l).set (j * 2) (.string (bs x.lo))).set (j * 2 + 1) (.string (bs x.hi))
  | [], _, _, h => absurd h (by simp)
  | y :: l, 0, x, _ => by simp [flatG_cons, spCells]
  | y :: l, j + 1, x, h => by
    have ih := flat_set2 l j x (by simpa using h)
    rw [List.set_cons_succ, flatG_cons, flatG_cons, ih]
    rw [show (j + 1) * 2 = (j * 2) + 2 by omega]
    simp [spCells]
theorem BlkI.cells2 (h : BlkI w lo g cap l) (j : Nat) (x : Sp) (hj : j < l.length) (hw' : ∃ cur', w'.heap[g]? = some (.cells cur' 58 (0, 0)) ∧ ∀ cur, w.heap[g]? = some (.cells cur 58 (0, 0)) → cur' = (cur.setIfInBounds (j * 2) (.string (bs x.lo))).setIfInBounds (j * 2 + 1) (.string (bs x.hi))) : BlkI w' lo g cap (l.set j x) := by
  obtain ⟨cur, h1, h2, h3, h4, h5, h6⟩ := h
  obtain ⟨cur', k1, k2⟩ := hw'
  have e := k2 cur h2
  subst e
  refine ⟨_, h1, k1, by rw [List.length_set]; exact h3, h4, by simp [h5], ?_⟩
  rw [List.length_set, flat_set2 l j x hj, ← h6]
  simp only [Array.toList_setIfInBounds, List.take_set]
/-- A stretch is stored at place j. -/
theorem BlkI.store (h : BlkI w lo g cap l) (j : Nat) (x : Sp) (hj : j < l.length) : BlkI ((w.setCell ⟨g, j * 2, none⟩ (.string (bs x.lo))).setCell ⟨g, j * 2 + 1, none⟩ (.string (bs x.hi))) lo g cap (l.set j x) := by
  have h' := h
  obtain ⟨cur0, _, h0, _⟩ := h
  refine h'.cells2 j x hj ⟨(cur0.setIfInBounds (j * 2) (.string (bs x.lo))).setIfInBounds (j * 2 + 1) (.string (bs x.hi)), ?_, fun cur hc => ?_⟩
  · simp [World.setCell, Array.getElem?_modify, h0]
  · rw [h0] at hc
    injection hc with hc
    injection hc with hc
    rw [hc]
theorem BlkI.store_hi (h : BlkI w lo g cap l) (j : Nat) (hi : List UInt8) (hj : j < l.length) : BlkI (w.setCell ⟨g, j * 2 + 1, none⟩ (.string (bs hi))) lo g cap (l.set j ⟨(l[j]'hj).lo, hi⟩) := by
  have h' := h
  obtain ⟨cur0, a1, h0, a3, a4, a5, a6⟩ := h
  have hc := (h'.at_ hj).1
  rw [cell_of_row w g _ _ _ _ h0] at hc
  have hs : cur0.setIfInBounds (j * 2) (.string (bs (l[j]'hj).lo)) = cur0 := by
    apply Array.ext_getElem?
    intro i
    rw [Array.getElem?_setIfInBounds]
    split
    · next e =>
      subst e
      split
      · exact hc.symm
      · next h => rw [Array.getElem?_eq_none (by omega)]
    · rfl
  refine h'.cells2 j ⟨(l[j]'hj).lo, hi⟩ hj ⟨cur0.setIfInBounds (j * 2 + 1) (.string (bs hi)), ?_, fun cur hc2 => ?_⟩
  · simp [World.setCell, Array.getElem?_modify, h0]
  · rw [h0] at hc2
    injection hc2 with hc2
    injection hc2 with hc2
    subst hc2
    rw [hs]
theorem BlkI.store_lo (h : BlkI w lo g cap l) (j : Nat) (x : List UInt8) (hj : j < l.length) : BlkI (w.setCell ⟨g, j * 2, none⟩ (.string (bs x))) lo g cap (l.set j ⟨x, (l[j]'hj).hi⟩) := by
  have h' := h
  obtain ⟨cur0, a1, h0, a3, a4, a5, a6⟩ := h
  have hc := (h'.at_ hj).2
  rw [cell_of_row w g _ _ _ _ h0] at hc
  have hs : (cur0.setIfInBounds (j * 2) (.string (bs x))).setIfInBounds (j * 2 + 1) (.string (bs (l[j]'hj).hi)) = cur0.setIfInBounds (j * 2) (.string (bs x)) := by
    apply Array.ext_getElem?
    intro i
    rw [Array.getElem?_setIfInBounds]
    split
    · next e =>
      subst e
      rw [Array.getElem?_setIfInBounds_ne (by omega)]
      split
      · exact hc.symm
      · next h => rw [Array.getElem?_eq_none (by simpa using h)]
    · rfl
  refine h'.cells2 j ⟨x, (l[j]'hj).hi⟩ hj ⟨cur0.setIfInBounds (j * 2) (.string (bs x)), ?_, fun cur hc2 => ?_⟩
  · simp [World.setCell, Array.getElem?_modify, h0]
  · rw [h0] at hc2
    injection hc2 with hc2
    injection hc2 with hc2
    subst hc2
    rw [hs]
theorem Below.setCells {B b : Nat} : ∀ (vs : List Value) (o : Nat) (w0 w : World), Below B w0 w → B ≤ b → Below B w0 (w.setCells b o vs)
  | [], _, _, _, h, _ => h
  | v :: vs, o, w0, w, h, hb => Below.setCells vs (o + 1) w0 _ (h.setCell hb _) hb
theorem setCells_rowI (g : Nat) (t : TypeId) : ∀ (vs : List Value) (o : Nat) (w : World) (cur : Array Value), w.heap[g]? = some (.cells cur t (0, 0)) →
    ∃ cur' : Array Value, (w.setCells g o vs).heap[g]? = some (.cells cur' t (0, 0)) ∧ cur'.size = cur.size ∧ (∀ i, i < o → cur'[i]? = cur[i]?)
  | [], o, w, cur, h => ⟨cur, h, rfl, fun _ _ => rfl⟩
  | v :: vs, o, w, cur, h => by
    have h1 : (w.setCell ⟨g, o, none⟩ v).heap[g]? = some (.cells (cur.setIfInBounds o v) t (0, 0)) := by
      simp [World.setCell, Array.getElem?_modify, h]
    obtain ⟨cur', k1, k2, k3⟩ := setCells_rowI g t vs (o + 1) (w.setCell ⟨g, o, none⟩ v) _ h1
    refine ⟨cur', k1, by rw [k2, Array.size_setIfInBounds], fun i hi => ?_⟩
    rw [k3 i (by omega), Array.getElem?_setIfInBounds_ne (by omega)]
/-- What is behind the first m is laid anew. -/
theorem BlkI.tail (h : BlkI w lo g cap l) (m : Nat) (vs : List Value) : BlkI (w.setCells g (m * 2) vs) lo g cap (l.take m) := by
  obtain ⟨cur, h1, h2, h3, h4, h5, h6⟩ := h.take m
  obtain ⟨cur', k1, k2, k3⟩ := setCells_rowI g _ vs (m * 2) w cur h2
  refine ⟨cur', h1, k1, h3, h4, by rw [k2, h5], ?_⟩
  rw [← h6]
  apply List.ext_getElem?
  intro i
  rw [List.getElem?_take, List.getElem?_take]
  split
  · next hi =>
    rw [Array.getElem?_toList, Array.getElem?_toList]
    refine k3 i ?_
    rw [List.length_take] at hi
    omega
  · rfl
/-! ### clear -/
def zeroI (n : Nat) : List Value := (Builtin.zeroCells #[.string ⟨#[]⟩, .string ⟨#[]⟩] n).toList
theorem infoI : (Try.prog.info? 58).map (fun i => i.zero.map (fun z => z.cells.toList)) = some (some [.string ⟨#[]⟩, .string ⟨#[]⟩]) := by kernel_rfl
theorem zero_runI (w : World) : ∃ z : Value, (zeroValue 58).run Try.prog w = .ok z w ∧ z.cells = #[.string ⟨#[]⟩, .string ⟨#[]⟩] := by
  obtain ⟨i, hi, hz⟩ := Option.map_eq_some_iff.1 infoI
  obtain ⟨z, hz0, hz1⟩ := Option.map_eq_some_iff.1 hz
  exact ⟨z, by simp [zeroValue, typeInfo, hi, hz0], by rw [← hz1]⟩
theorem zeroI_len (n : Nat) : (zeroI n).length = n * 2 := by simp [zeroI, Builtin.zeroCells]
theorem zeroI_one (n : Nat) : ∀ v ∈ zeroI n, v.oneCell' = true := by
  intro v hv
  unfold zeroI at hv
  obtain ⟨k, hk, rfl⟩ := List.getElem_of_mem hv
  have h2 : k % 2 = 0 ∨ k % 2 = 1 := by omega
  rcases h2 with h | h <;> simp [Builtin.zeroCells, h, Value.oneCell']
theorem run_clearI {P : Program} (hp : P = Try.prog) (h : BlkI w lo g cap l) (ty : TypeId) (m n c : Nat) (hn : 0 < n) (hm : m + n ≤ cap) :
    (Builtin.clear_ #[27] ty #[.slice (some ⟨g, m * 2, none⟩) n c]).run P w = .ok (.tuple #[]) (w.setCells g (m * 2) (zeroI n)) := by
  subst hp
  obtain ⟨cur, h2, h5, _⟩ := h.cur
  obtain ⟨z, hz1, hz2⟩ := zero_runI w
  have hst := run_storeCells_cells (P := Try.prog) g (m * 2) (zeroI n) 0 w (fun j hj => by
    rw [zeroI_len] at hj
    rw [cell_of_row w g _ _ _ _ h2, Array.getElem?_eq_getElem (by omega)]
    rfl) (fun j _ => h.frozen _) (zeroI_one n)
  simp only [Nat.add_zero] at hst
  obtain ⟨k, rfl⟩ : ∃ k, n = k + 1 := ⟨n - 1, by omega⟩
  have hz3 : (Builtin.zeroCells z.cells (k + 1)).toList = zeroI (k + 1) := by rw [hz2]; rfl
  simp [Builtin.clear_, run_underlying Try.underlying27, hz1, hz3, hst]
end
end Go.Proofs.Ytjkmodfbbiojmaa
