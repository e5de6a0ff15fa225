import Derived.Test.YtfdiidhilonkoaaZC19
import Derived.Lib.SliceRun
import Derived.Laws.IdiomCopy
import Derived.Test.YtfdiidhilonkoaaZC39
import Derived.Lib.AppendZerosOnto
set_option linter.unusedVariables false
/-
  Rows of stretches that a call changes in its own memory: stored into, cut, cleared.
-/
namespace Go.Proofs.Ytfdiidhilonkoaa
open Go.RowKit

/-- Block g, from lo on, has room for cap stretches, and the first ones are l. -/
def BlkI (w : World) (lo g cap : Nat) (l : List Sp) : Prop :=
  ∃ cur, lo ≤ g ∧ w.heap[g]? = some (.cells cur 52 (0, 0)) ∧ l.length ≤ cap ∧ cap ≤ maxLen ∧ cur.size = cap * 2 ∧ cur.toList.take (l.length * 2) = flatG spCells l
section
variable {w w' : World} {lo g cap : Nat} {l : List Sp}
theorem BlkI.own (h : BlkI w lo g cap l) : OwnG 52 2 spCells w lo (.slice (some ⟨g, 0, none⟩) l.length cap) l := by
  obtain ⟨cur, h1, h2, h3, h4, h5, h6⟩ := h
  exact ⟨spF.flat_len l, .inr ⟨g, cap, cur, rfl, h1, h2, h3, h4, h5, h6⟩⟩
theorem OwnG.blk {v : Value} (h : OwnG 52 2 spCells w lo v l) : (v = .slice none 0 0 ∧ l = []) ∨ ∃ g cap, v = .slice (some ⟨g, 0, none⟩) l.length cap ∧ BlkI w lo g cap l := by
  rcases h.2 with ⟨h1, h2⟩ | ⟨g, cap, cur, hv, h1, h2, h3, h4, h5, h6⟩
  · exact .inl ⟨h1, List.eq_nil_of_length_eq_zero h2⟩
  · exact .inr ⟨g, cap, hv, cur, h1, h2, h3, h4, h5, h6⟩
theorem BlkI.len (h : BlkI w lo g cap l) : l.length ≤ cap ∧ cap ≤ maxLen := by
  obtain ⟨_, _, _, h3, h4, _⟩ := h
  exact ⟨h3, h4⟩
theorem BlkI.lt (h : BlkI w lo g cap l) : lo ≤ g ∧ g < w.heap.size := by
  obtain ⟨_, h1, h2, _⟩ := h
  exact ⟨h1, lt_of_heap h2⟩
theorem BlkI.keep (h : BlkI w lo g cap l) (hk : w'.heap[g]? = w.heap[g]?) : BlkI w' lo g cap l := by
  obtain ⟨cur, h1, h2, h3⟩ := h
  exact ⟨cur, h1, hk.trans h2, h3⟩
theorem BlkI.below (h : BlkI w lo g cap l) (hb : Below w.heap.size w w') : BlkI w' lo g cap l := h.keep (hb.block g h.lt.2)
theorem BlkI.allocs (h : BlkI w lo g cap l) (o : Obj) : BlkI (w.alloc o) lo g cap l := h.below ((Below.refl _ w).alloc (Nat.le_refl _) o)
theorem BlkI.cur (h : BlkI w lo g cap l) : ∃ cur : Array Value, w.heap[g]? = some (.cells cur 52 (0, 0)) ∧ cur.size = cap * 2 ∧ ∀ (j : Nat) (u : Value), (flatG spCells l)[j]? = some u → cur[j]? = some u := by
  obtain ⟨cur, _, h2, _, _, h5, h6⟩ := h
  refine ⟨cur, h2, h5, fun j u hu => ?_⟩
  rw [← h6, List.getElem?_take] at hu
  split at hu
  · rw [← hu, Array.getElem?_toList]
  · cases hu
theorem BlkI.at_ (h : BlkI w lo g cap l) {j : Nat} (hj : j < l.length) : w.cell? ⟨g, j * 2, none⟩ = some (.string (bs (l[j]'hj).lo)) ∧ w.cell? ⟨g, j * 2 + 1, none⟩ = some (.string (bs (l[j]'hj).hi)) := by
  obtain ⟨cur, h2, _, hc⟩ := h.cur
  have e0 := spF.flat_at l j hj 0 (by decide)
  have e1 := spF.flat_at l j hj 1 (by decide)
  rw [Nat.add_zero] at e0
  refine ⟨?_, ?_⟩
  · rw [cell_of_row w g _ _ _ _ h2]
    exact hc _ _ (e0.trans rfl)
  · rw [cell_of_row w g _ _ _ _ h2]
    exact hc _ _ (e1.trans rfl)
theorem BlkI.frozen (h : BlkI w lo g cap l) (o : Nat) : w.frozen? ⟨g, o, none⟩ = false := by
  obtain ⟨cur, _, h2, _⟩ := h
  exact frozen_of h2 o
theorem BlkI.row (h : BlkI w lo g cap l) : RowG spCells w 0 w.heap.size (some ⟨g, 0, none⟩) l := by
  obtain ⟨cur, h2, _, hc⟩ := h.cur
  exact (RowG.block h2 hc).wide (Nat.zero_le _) (lt_of_heap h2)
theorem BlkI.take (h : BlkI w lo g cap l) (m : Nat) : BlkI w lo g cap (l.take m) := by
  obtain ⟨cur, h1, h2, h3, h4, h5, h6⟩ := h
  refine ⟨cur, h1, h2, ?_, h4, h5, ?_⟩
  · rw [List.length_take]; omega
  · have e := congrArg (List.take (m * 2)) h6
    rw [List.take_take, spF.flat_take] at e
    rw [List.length_take, show min m l.length * 2 = min (m * 2) (l.length * 2) by omega]
    exact e
theorem flat_set2 : ∀ (l : List Sp) (j : Nat) (x : Sp), j < l.length → flatG spCells (l.set j x) = ((flatG spCells l).set (j * 2) (.string (bs x.lo))).set (j * 2 + 1) (.string (bs x.hi))
  | [], _, _, h => absurd h (by simp)
  | y :: l, 0, x, _ => by simp [flatG_cons, spCells]
  | y :: l, j + 1, x, h => by
    have ih := flat_set2 l j x (by simpa using h)
    rw [List.set_cons_succ, flatG_cons, flatG_cons, ih]
    rw [show (j + 1) * 2 = (j * 2) + 2 by omega]
    simp [spCells]
theorem BlkI.cells2 (h : BlkI w lo g cap l) (j : Nat) (x : Sp) (hj : j < l.length) (hw' : ∃ cur', w'.heap[g]? = some (.cells cur' 52 (0, 0)) ∧ ∀ cur, w.heap[g]? = some (.cells cur 52 (0, 0)) → cur' = (cur.setIfInBounds (j * 2) (.string (bs x.lo))).setIfInBounds (j * 2 + 1) (.string (bs x.hi))) : BlkI w' lo g cap (l.set j x) := by
  obtain ⟨cur, h1, h2, h3, h4, h5, h6⟩ := h
  obtain ⟨cur', k1, k2⟩ := hw'
  have e := k2 cur h2
  subst e
  refine ⟨_, h1, k1, by rw [List.length_set]; exact h3, h4, by simp [h5], ?_⟩
  rw [List.length_set, flat_set2 l j x hj, ← h6]
  simp only [Array.toList_setIfInBounds, List.take_set]
/-- A stretch is stored at place j. -/
theorem BlkI.store (h : BlkI w lo g cap l) (j : Nat) (x : Sp) (hj : j < l.length) : BlkI ((w.setCell ⟨g, j * 2, none⟩ (.string (bs x.lo))).setCell ⟨g, j * 2 + 1, none⟩ (.string (bs x.hi))) lo g cap (l.set j x) := by
  have h' := h
  obtain ⟨cur0, _, h0, _⟩ := h
  refine h'.cells2 j x hj ⟨(cur0.setIfInBounds (j * 2) (.string (bs x.lo))).setIfInBounds (j * 2 + 1) (.string (bs x.hi)), ?_, fun cur hc => ?_⟩
  · simp [World.setCell, Array.getElem?_modify, h0]
  · rw [h0] at hc
    injection hc with hc
    injection hc with hc
    rw [hc]
theorem BlkI.store_hi (h : BlkI w lo g cap l) (j : Nat) (hi : List UInt8) (hj : j < l.length) : BlkI (w.setCell ⟨g, j * 2 + 1, none⟩ (.string (bs hi))) lo g cap (l.set j ⟨(l[j]'hj).lo, hi⟩) := by
  have h' := h
  obtain ⟨cur0, a1, h0, a3, a4, a5, a6⟩ := h
  have hc := (h'.at_ hj).1
  rw [cell_of_row w g _ _ _ _ h0] at hc
  have hs : cur0.setIfInBounds (j * 2) (.string (bs (l[j]'hj).lo)) = cur0 := by
    apply Array.ext_getElem?
    intro i
    rw [Array.getElem?_setIfInBounds]
    split
    · next e =>
      subst e
      split
      · exact hc.symm
      · next h => rw [Array.getElem?_eq_none (by omega)]
    · rfl
  refine h'.cells2 j ⟨(l[j]'hj).lo, hi⟩ hj ⟨cur0.setIfInBounds (j * 2 + 1) (.string (bs hi)), ?_, fun cur hc2 => ?_⟩
  · simp [World.setCell, Array.getElem?_modify, h0]
  · rw [h0] at hc2
    injection hc2 with hc2
    injection hc2 with hc2
    subst hc2
    rw [hs]
theorem BlkI.store_lo (h : BlkI w lo g cap l) (j : Nat) (x : List UInt8) (hj : j < l.length) : BlkI (w.setCell ⟨g, j * 2, none⟩ (.string (bs x))) lo g cap (l.set j ⟨x, (l[j]'hj).hi⟩) := by
  have h' := h
  obtain ⟨cur0, a1, h0, a3, a4, a5, a6⟩ := h
  have hc := (h'.at_ hj).2
  rw [cell_of_row w g _ _ _ _ h0] at hc
  have hs : (cur0.setIfInBounds (j * 2) (.string (bs x))).setIfInBounds (j * 2 + 1) (.string (bs (l[j]'hj).hi)) = cur0.setIfInBounds (j * 2) (.string (bs x)) := by
    apply Array.ext_getElem?
    intro i
    rw [Array.getElem?_setIfInBounds]
    split
    · next e =>
      subst e
      rw [Array.getElem?_setIfInBounds_ne (by omega)]
      split
      · exact hc.symm
      · next h => rw [Array.getElem?_eq_none (by simpa using h)]
    · rfl
  refine h'.cells2 j ⟨x, (l[j]'hj).hi⟩ hj ⟨cur0.setIfInBounds (j * 2) (.string (bs x)), ?_, fun cur hc2 => ?_⟩
  · simp [World.setCell, Array.getElem?_modify, h0]
  · rw [h0] at hc2
    injection hc2 with hc2
    injection hc2 with hc2
    subst hc2
    rw [hs]
theorem Below.setCells {B b : Nat} : ∀ (vs : List Value) (o : Nat) (w0 w : World), Below B w0 w → B ≤ b → Below B w0 (w.setCells b o vs)
  | [], _, _, _, h, _ => h
  | v :: vs, o, w0, w, h, hb => Below.setCells vs (o + 1) w0 _ (h.setCell hb _) hb
theorem setCells_rowI (g : Nat) (t : TypeId) : ∀ (vs : List Value) (o : Nat) (w : World) (cur : Array Value), w.heap[g]? = some (.cells cur t (0, 0)) →
    ∃ cur' : Array Value, (w.setCells g o vs).heap[g]? = some (.cells cur' t (0, 0)) ∧ cur'.size = cur.size ∧ (∀ i, i < o → cur'[i]? = cur[i]?)
  | [], o, w, cur, h => ⟨cur, h, rfl, fun _ _ => rfl⟩
  | v :: vs, o, w, cur, h => by
    have h1 : (w.setCell ⟨g, o, none⟩ v).heap[g]? = some (.cells (cur.setIfInBounds o v) t (0, 0)) := by
      simp [World.setCell, Array.getElem?_modify, h]
    obtain ⟨cur', k1, k2, k3⟩ := setCells_rowI g t vs (o + 1) (w.setCell ⟨g, o, none⟩ v) _ h1
    refine ⟨cur', k1, by rw [k2, Array.size_setIfInBounds], fun i hi => ?_⟩
    rw [k3 i (by omega), Array.getElem?_setIfInBounds_ne (by omega)]
/-- What is behind the first m is laid anew. -/
theorem BlkI.tail (h : BlkI w lo g cap l) (m : Nat) (vs : List Value) : BlkI (w.setCells g (m * 2) vs) lo g cap (l.take m) := by
  obtain ⟨cur, h1, h2, h3, h4, h5, h6⟩ := h.take m
  obtain ⟨cur', k1, k2, k3⟩ := setCells_rowI g _ vs (m * 2) w cur h2
  refine ⟨cur', h1, k1, h3, h4, by rw [k2, h5], ?_⟩
  rw [← h6]
  apply List.ext_getElem?
  intro i
  rw [List.getElem?_take, List.getElem?_take]
  split
  · next hi =>
    rw [Array.getElem?_toList, Array.getElem?_toList]
    refine k3 i ?_
    rw [List.length_take] at hi
    omega
  · rfl
/-! ### clear -/
def zeroI (n : Nat) : List Value := (Builtin.zeroCells #[.string ⟨#[]⟩, .string ⟨#[]⟩] n).toList
theorem infoI : (Try.prog.info? 52).map (fun i => i.zero.map (fun z => z.cells.toList)) = some (some [.string ⟨#[]⟩, .string ⟨#[]⟩]) := by kernel_rfl
theorem zero_runI (w : World) : ∃ z : Value, (zeroValue 52).run Try.prog w = .ok z w ∧ z.cells = #[.string ⟨#[]⟩, .string ⟨#[]⟩] := by
  obtain ⟨i, hi, hz⟩ := Option.map_eq_some_iff.1 infoI
  obtain ⟨z, hz0, hz1⟩ := Option.map_eq_some_iff.1 hz
  exact ⟨z, by simp [zeroValue, typeInfo, hi, hz0], by rw [← hz1]⟩
theorem zeroI_len (n : Nat) : (zeroI n).length = n * 2 := by simp [zeroI, Builtin.zeroCells]
theorem zeroI_one (n : Nat) : ∀ v ∈ zeroI n, v.oneCell' = true := by
  intro v hv
  unfold zeroI at hv
  obtain ⟨k, hk, rfl⟩ := List.getElem_of_mem hv
  have h2 : k % 2 = 0 ∨ k % 2 = 1 := by omega
  rcases h2 with h | h <;> simp [Builtin.zeroCells, h, Value.oneCell']
theorem run_clearI {P : Program} (hp : P = Try.prog) (h : BlkI w lo g cap l) (ty : TypeId) (m n c : Nat) (hn : 0 < n) (hm : m + n ≤ cap) :
    (Builtin.clear_ #[27] ty #[.slice (some ⟨g, m * 2, none⟩) n c]).run P w = .ok (.tuple #[]) (w.setCells g (m * 2) (zeroI n)) := by
  subst hp
  obtain ⟨cur, h2, h5, _⟩ := h.cur
  obtain ⟨z, hz1, hz2⟩ := zero_runI w
  have hst := run_storeCells_cells (P := Try.prog) g (m * 2) (zeroI n) 0 w (fun j hj => by
    rw [zeroI_len] at hj
    rw [cell_of_row w g _ _ _ _ h2, Array.getElem?_eq_getElem (by omega)]
    rfl) (fun j _ => h.frozen _) (zeroI_one n)
  simp only [Nat.add_zero] at hst
  obtain ⟨k, rfl⟩ : ∃ k, n = k + 1 := ⟨n - 1, by omega⟩
  have hz3 : (Builtin.zeroCells z.cells (k + 1)).toList = zeroI (k + 1) := by rw [hz2]; rfl
  simp [Builtin.clear_, run_underlying Try.underlying27, hz1, hz3, hst]
end
end Go.Proofs.Ytfdiidhilonkoaa

/-
  Package span, as it landed: what slices.Grow and slices.Concat do for it.
-/
namespace Go.Proofs.Ytfdiidhilonkoaa
open Go.RowKit

theorem infoFull : ∃ i z, Try.prog.info? 52 = some i ∧ i.zero = some z ∧ z.cells.size = 2 ∧ i.size = 2 ∧ i.bytes = 32 := spInfo
set_option maxHeartbeats 4000000 in
set_option maxRecDepth 100000 in
theorem dGrow_any (n : Nat) (w : World) (hn : n ≤ 1000000) : Calls Try.prog 62 #[.slice none 0 0, .int .i64 n] w fun e w' => ∃ v, e = .returned v ∧ OwnG 52 2 spCells w' w.heap.size v ([] : List Sp) ∧ Below w.heap.size w w' := by
  by_cases h0 : n = 0
  · subst h0
    go_enter Try.func62, Try.ntmps62
    go_wp2
    go_ret
    exact ⟨_, rfl, OwnG.none_ _ _ _ _ _, Below.refl _ _⟩
  · obtain ⟨i0, z, hi0, hz0, hzs, hs2, hb2⟩ := infoFull
    have h1 : ¬ ((n : Int) < 0) := by omega
    have h4 : (n : Int) > 0 := by omega
    have hold : (Builtin.firstCells i0.size 0 (.slice none 0 0)).run Try.prog w.drew = .ok #[] w.drew := run_firstCells_none w.drew i0.size 0 0 0
    obtain ⟨G, hG⟩ : ∃ G, G = grownCap w n 0 52 := ⟨_, rfl⟩
    have hGn : n ≤ G := by rw [hG]; exact grownCap_ge w _ _ _
    have hG63 : G ≤ maxLen := by rw [hG]; exact grownCap_le_maxLen w n 0 52 (by unfold maxLen; omega)
    have hrz : ∀ ty, (Builtin.append_ #[27, 3] ty #[.slice none 0 0, .int .i64 (n : Int)]).run Try.prog w =
        .ok (.slice (some ⟨w.heap.size, 0, none⟩) n G) (w.drew.alloc (.cells (#[] ++ Builtin.zeroCells z.cells n ++ Builtin.zeroCells z.cells (G - n)) 52)) := fun ty => by
      have h := Lib.run_append_grow_zeros w 27 3 ty 52 i0 z .i64 .i64 Try.underlying27 Try.underlying3 hi0 hz0 none 0 0 [] hold n (by omega) (by omega) (by omega) (by omega)
        (by rw [hb2]; omega)
        (by rw [Nat.zero_add]; exact growslice_fits (by omega) (by rw [hb2]; omega))
      rw [Nat.zero_add, ← hG] at h
      simpa using h
    have HOw := Lib.hid (show OwnG 52 2 spCells (w.drew.alloc (.cells (#[] ++ Builtin.zeroCells z.cells n ++ Builtin.zeroCells z.cells (G - n)) 52)) w.heap.size (.slice (some ⟨w.heap.size, 0, none⟩) 0 G) ([] : List Sp) from by
      refine ⟨rfl, .inr ⟨w.heap.size, G, _, rfl, Nat.le_refl _, heap_alloc_new w.drew _, Nat.zero_le _, hG63, ?_, by simp [flatG]⟩⟩
      simp [Builtin.zeroCells, hzs]
      omega)
    have HBw := Lib.hid (show Below w.heap.size w (w.drew.alloc (.cells (#[] ++ Builtin.zeroCells z.cells n ++ Builtin.zeroCells z.cells (G - n)) 52)) from (Below.refl _ w).drew.alloc (Nat.le_refl _) _)
    have hG63' : G ≤ 9223372036854775807 := by unfold maxLen at hG63; omega
    generalize Obj.cells (#[] ++ Builtin.zeroCells z.cells n ++ Builtin.zeroCells z.cells (G - n)) 52 = ob at *
    clear hold hG hi0 hz0 hzs hs2 hb2
    go_enter Try.func62, Try.ntmps62
    go_wp2_with (at_builtin; refine Lib.wpList_append_run _ rfl _ _ _ _ rfl _ _ rfl rfl _ _ (hrz _) ?_)
    go_ret
    exact ⟨_, rfl, HOw.out, HBw.out⟩
end Go.Proofs.Ytfdiidhilonkoaa

/-
  Package span, as it landed: slices.Concat of lists of stretches.
-/
namespace Go.Proofs.Ytfdiidhilonkoaa
open Go.RowKit

/-- A list, and where it lies. -/
structure ML where
  A : Option Addr
  c : Nat
  l : List Sp
def mlCells (x : ML) : List Value := [.slice x.A x.l.length x.c]
theorem mlF : Fixed 1 mlCells := ⟨by decide, fun _ => rfl, fun x v hv => by
  simp only [mlCells, List.mem_cons, List.not_mem_nil, or_false] at hv
  rcases hv with rfl
  rfl⟩
def allL (ms : List ML) : List Sp := ms.flatMap ML.l
theorem allL_take {ms : List ML} {j : Nat} (hj : j < ms.length) : allL (ms.take (j + 1)) = allL (ms.take j) ++ (ms[j]'hj).l := by
  unfold allL
  rw [List.take_succ_eq_append_getElem hj, List.flatMap_append]
  simp
theorem allL_take_le (ms : List ML) (j : Nat) : (allL (ms.take j)).length ≤ (allL ms).length := by
  have : allL ms = allL (ms.take j) ++ allL (ms.drop j) := by
    unfold allL
    rw [← List.flatMap_append, List.take_append_drop]
  rw [this, List.length_append]
  omega
/-- The lists ms lie at A, below hi. -/
def ChL (w : World) (hi : Nat) (A : Option Addr) (ms : List ML) : Prop := RowG mlCells w 0 hi A ms ∧ ∀ x ∈ ms, ChI w hi x.A x.c x.l
theorem ChL.below {w w' : World} {hi B : Nat} {A : Option Addr} {ms : List ML} (h : ChL w hi A ms) (hb : Below B w w') (hB : hi ≤ B) : ChL w' hi A ms := ⟨h.1.below hb hB, fun x hx => (h.2 x hx).below hb hB (Nat.le_refl _)⟩
set_option maxHeartbeats 4000000 in
set_option maxRecDepth 100000 in
theorem dConcat_any (ms : List ML) (A : Option Addr) (c : Nat) (w : World) (hm : ms.length ≤ 100) (hl : (allL ms).length ≤ 1000000) (hr : ChL w w.heap.size A ms) :
    Calls Try.prog 52 #[.slice A ms.length c] w fun e w' => ∃ v, e = .returned v ∧ OwnG 52 2 spCells w' w.heap.size v (allL ms) ∧ Below w.heap.size w w' := by
  have HR := Lib.hid hr
  have HL := Lib.hid hl
  clear hr hl
  go_enter Try.func52, Try.ntmps52
  go_wp2
  go_loopg [3, 5, 11] ms.length (fun q n _ i wr => ∃ j : Nat, j + q = ms.length ∧ i = .int .i64 j ∧ n = .int .i64 ((allL (ms.take j)).length : Nat) ∧ w = wr)
  case atStart => exact ⟨0, by omega, rfl, rfl, rfl⟩
  case round =>
    obtain ⟨j, hk, rfl, rfl, rfl⟩ := hrel
    have HK := Lib.hid hk
    clear hk
    by_cases hj : j < ms.length
    · have hlt : decide ((j : Int) < (ms.length : Int)) = true := by simpa using hj
      have hlt2 : decide (j < ms.length) = true := by simpa using hj
      obtain ⟨b, o, rfl, _, _, hc⟩ := HR.out.1.at_ mlF hj
      have c0 := hc 0 _ rfl
      simp only [Nat.add_zero, Nat.mul_one] at c0
      have HT := Lib.hid (show (allL (ms.take (j + 1))).length = (allL (ms.take j)).length + (ms[j]'hj).l.length by rw [allL_take hj, List.length_append])
      have hle := allL_take_le ms (j + 1)
      rw [HT.out] at hle
      have hlm := HL.out
      clear hc
      generalize (ms[j]'hj).l.length = n at *
      generalize (allL (ms.take j)).length = m at *
      have d0 : decide ((m : Int) + (n : Int) < 0) = false := by rw [decide_eq_false_iff_not]; omega
      have d1 : ¬ ((m : Int) + (n : Int) < 0) := by omega
      go_wp2
      go_roundg (gk - 1)
      case measure => have := HK.out; omega
      case rel => exact ⟨j + 1, by have := HK.out; omega, by go_num, by rw [HT.out]; push_cast; rfl, rfl⟩
    · have hj' : j = ms.length := by have := HK.out; omega
      subst hj'
      have hlt : decide ((ms.length : Int) < (ms.length : Int)) = false := by simp
      have hlt2 : decide (ms.length < ms.length) = false := by simp
      rw [List.take_length]
      have HG := Lib.hid (dGrow_any (allL ms).length w HL.out)
      generalize hN : (allL ms).length = N at *
      have HNe := Lib.hid hN
      clear hj hN
      go_wp2_with fail
      refine HG.out.mono ?_
      rintro r w1 ⟨v1, rfl, ho1, hb1⟩
      have HO1 := Lib.hid ho1
      have HB1 := Lib.hid hb1
      clear ho1 hb1 HG
      go_wp2_with fail
      go_loopg [6, 8, 27] ms.length (fun q v _ i wr => ∃ j : Nat, j + q = ms.length ∧ i = .int .i64 j ∧ OwnG 52 2 spCells wr w.heap.size v (allL (ms.take j)) ∧ Below w.heap.size w wr)
      case atStart => exact ⟨0, by omega, rfl, HO1.out, HB1.out⟩
      case round =>
        obtain ⟨j, hk, rfl, ho, hb⟩ := hrel
        have HK2 := Lib.hid hk
        have HO := Lib.hid ho
        have HB := Lib.hid hb
        clear hk ho hb
        by_cases hj : j < ms.length
        · have hlt : decide ((j : Int) < (ms.length : Int)) = true := by simpa using hj
          have hlt2 : decide (j < ms.length) = true := by simpa using hj
          obtain ⟨b, o, rfl, _, _, hc⟩ := (HR.out.1.below HB.out (Nat.le_refl _)).at_ mlF hj
          have c0 := hc 0 _ rfl
          simp only [Nat.add_zero, Nat.mul_one] at c0
          have HT := Lib.hid (allL_take hj)
          have hX := (HR.out.2 _ (List.getElem_mem hj)).below HB.out (Nat.le_refl _) (Nat.le_refl _)
          have HX := Lib.hid hX
          have hle := allL_take_le ms (j + 1)
          rw [HT.out, List.length_append] at hle
          have HLe := Lib.hid (show (allL (ms.take j)).length + (ms[j]'hj).l.length ≤ 1000000 by have := HL.out; have := HNe.out; omega)
          have HSZ := Lib.hid HB.out.size
          clear hc hX hle
          generalize ms[j]'hj = x at *
          generalize allL (ms.take j) = M at *
          obtain ⟨xA, xc, xl⟩ := x
          simp only at c0 HT HX HLe
          go_wp2_with (at_builtin; refine append_row _ rfl _ _ 27 52 32 spF spInfo Try.underlying27 rfl w.heap.size _ M rfl HO.out 0 w.heap.size xA xl.length xc xl rfl rfl HX.out.2.2.1 HX.out.2.2.2 (by have := HLe.out; unfold maxLen; omega) (by have := HLe.out; omega) HSZ.out ?_; intro v2 w5 ho5 hg5; have HO5 := Lib.hid ho5; have HB5 := Lib.hid (OwnG.grown_below HB.out HO.out hg5 (Nat.le_refl _) HSZ.out); clear ho5 hg5)
          go_roundg (gk - 1)
          case measure => have := HK2.out; omega
          case rel => exact ⟨j + 1, by have := HK2.out; omega, by go_num, by rw [HT.out]; exact HO5.out, HB5.out⟩
        · have hj' : j = ms.length := by have := HK2.out; omega
          subst hj'
          have hlt : decide ((ms.length : Int) < (ms.length : Int)) = false := by simp
          have hlt2 : decide (ms.length < ms.length) = false := by simp
          rw [List.take_length] at HO
          clear hj
          go_wp2_with fail
          go_ret
          exact ⟨_, rfl, HO.out, HB.out⟩
end Go.Proofs.Ytfdiidhilonkoaa
