import Derived.Test.YtidomoibhjgkjaaGreatDoorZC10
import Derived.Laws.CopyOwn
import Derived.Laws.CopyRow
import Derived.Laws.MakeOwn
/-
  Variables: slices of them that read as a list; few of the statements on values.
-/
namespace Go.Proofs.YtidomoibhjgkjaaGreatDoor
open Go.RowKit

def varVal (x : VN) : Value := .agg #[.string x.1, .int .i64 x.2.k, .int .i64 x.2.n, .string x.2.s]
/-- The cells of a variable stand at a place. -/
def VarAt (w : World) (b o : Nat) (x : VN) : Prop :=
  w.cell? ⟨b, o, none⟩ = some (.string x.1) ∧ w.cell? ⟨b, o + 1, none⟩ = some (.int .i64 x.2.k) ∧ w.cell? ⟨b, o + 2, none⟩ = some (.int .i64 x.2.n) ∧ w.cell? ⟨b, o + 3, none⟩ = some (.string x.2.s)
/-- A slice at A reads as the variables l, in a block from lo on and below hi; of an empty one nothing is asked. -/
def RowN (w : World) (lo hi : Nat) (A : Option Addr) (l : List VN) : Prop :=
  0 < l.length → ∃ b o, A = some ⟨b, o, none⟩ ∧ lo ≤ b ∧ b < hi ∧ ∀ j (h : j < l.length), VarAt w b (o + j * 4) (l[j]'h)
theorem VarAt.below {w w' : World} {B b o : Nat} {x : VN} (h : VarAt w b o x) (hb : Below B w w') (hB : b < B) : VarAt w' b o x :=
  ⟨(hb.cell (p := ⟨b, o, none⟩) hB).trans h.1, (hb.cell (p := ⟨b, o + 1, none⟩) hB).trans h.2.1, (hb.cell (p := ⟨b, o + 2, none⟩) hB).trans h.2.2.1, (hb.cell (p := ⟨b, o + 3, none⟩) hB).trans h.2.2.2⟩
theorem RowN.below {w w' : World} {lo hi B : Nat} {A : Option Addr} {l : List VN} (h : RowN w lo hi A l) (hb : Below B w w') (hB : hi ≤ B) : RowN w' lo hi A l := fun hn => by
  obtain ⟨b, o, e, h1, h2, hc⟩ := h hn
  exact ⟨b, o, e, h1, h2, fun j hj => (hc j hj).below hb (Nat.lt_of_lt_of_le h2 hB)⟩
theorem RowN.wide {w : World} {lo hi lo' hi' : Nat} {A : Option Addr} {l : List VN} (h : RowN w lo hi A l) (h1 : lo' ≤ lo) (h2 : hi ≤ hi') : RowN w lo' hi' A l := fun hn => by
  obtain ⟨b, o, e, h3, h4, hc⟩ := h hn
  exact ⟨b, o, e, by omega, by omega, hc⟩
theorem RowN.at_ {w : World} {lo hi k : Nat} {A : Option Addr} {l : List VN} (h : RowN w lo hi A l) (hk : k < l.length) : ∃ b o, A = some ⟨b, o, none⟩ ∧ VarAt w b (o + k * 4) (l[k]'hk) := by
  obtain ⟨b, o, e, _, _, hc⟩ := h (by omega)
  exact ⟨b, o, e, hc k hk⟩

theorem RowN.take {w : World} {lo hi : Nat} {A : Option Addr} {l : List VN} (h : RowN w lo hi A l) (k : Nat) : RowN w lo hi A (l.take k) := fun hn => by
  rw [List.length_take] at hn
  obtain ⟨b, o, rfl, h1, h2, hc⟩ := h (by omega)
  refine ⟨b, o, rfl, h1, h2, fun j hj => ?_⟩
  rw [List.length_take] at hj
  rw [List.getElem_take]
  exact hc j (by omega)
theorem RowN.drop {w : World} {lo hi : Nat} {A : Option Addr} {l : List VN} (h : RowN w lo hi A l) (k cap : Nat) (hc : l.length ≤ cap) (hk : k ≤ l.length) : RowN w lo hi (if cap = k then A else A.map (·.add (k * 4))) (l.drop k) := fun hn => by
  rw [List.length_drop] at hn
  obtain ⟨b, o, rfl, h1, h2, hcell⟩ := h (by omega)
  rw [if_neg (by omega)]
  refine ⟨b, o + k * 4, by simp [addr_add], h1, h2, fun j hj => ?_⟩
  rw [List.length_drop] at hj
  rw [List.getElem_drop, show o + k * 4 + j * 4 = o + (k + j) * 4 by omega]
  exact hcell (k + j) (by omega)

/-- Are these few short variables? -/
def fewVar (x : VN) : Bool := decide (x.1.size ≤ 100) && decide (x.2.s.size ≤ 200)
def fewV (l : List VN) : Bool := l.all fewVar && decide (l.length ≤ 40)
theorem fewV_yes {l : List VN} (h : fewV l = true) : (∀ x ∈ l, x.1.size ≤ 100 ∧ x.2.s.size ≤ 200) ∧ l.length ≤ 40 := by
  unfold fewV at h
  rw [Bool.and_eq_true, List.all_eq_true] at h
  exact ⟨fun x hx => by simpa [fewVar] using h.1 x hx, by simpa using h.2⟩

end Go.Proofs.YtidomoibhjgkjaaGreatDoor

/-
  Rows of variables that a call makes for itself: made, copied into, set; of what copy does where an element has more than one cell.
-/
namespace Go.Proofs.YtidomoibhjgkjaaGreatDoor
open Go.RowKit

/-! ### copy, whatever an element's size -/
theorem run_copy_rows {P : Program} (w : World) (dT sT ty elem : TypeId) (size g o dLen dCap : Nat) (a : Addr) (sLen sCap : Nat) (cur : Array Value) (t : TypeId) (cs : List Value)
    (hu : P.underlying dT = some (.slice elem)) (hs : (P.info? elem).map (·.size) = some size)
    (hg : w.heap[g]? = some (.cells cur t (0, 0))) (hn : cs.length = Nat.min sLen dLen * size)
    (hsrc : ∀ j v, cs[j]? = some v → w.cell? (a.add j) = some v) (hfit : o + cs.length ≤ cur.size) (h1 : ∀ v ∈ cs, v.oneCell' = true) :
    (Builtin.copy_ #[dT, sT] ty #[.slice (some ⟨g, o, none⟩) dLen dCap, .slice (some a) sLen sCap]).run P w =
      .ok (goInt (Nat.min sLen dLen : Nat)) (w.setRow g (cur.toList.take o ++ cs ++ cur.toList.drop (o + cs.length)).toArray) := by
  have hl := run_loadCells_list (P := P) w a cs hsrc
  have hst := run_storeCells_at P g o t cs 0 cur w hg (by simpa using hfit) h1
  cases hq : P.info? elem with
  | none => simp [hq] at hs
  | some i =>
    have hi : i.size = size := by simpa [hq] using hs
    simp [Builtin.copy_, run_underlying hu, Builtin.lenOf, Builtin.firstCells, sizeOf, typeInfo, hq, hi, ← hn, hl, hst]
theorem run_copy_no {P : Program} (w : World) (dT sT ty elem : TypeId) (size : Nat) (d a : Option Addr) (dLen dCap sLen sCap : Nat) (hu : P.underlying dT = some (.slice elem)) (hs : (P.info? elem).map (·.size) = some size) (hn : Nat.min sLen dLen = 0) :
    (Builtin.copy_ #[dT, sT] ty #[.slice d dLen dCap, .slice a sLen sCap]).run P w = .ok (goInt 0) w := by
  cases hq : P.info? elem with
  | none => simp [hq] at hs
  | some i =>
    have hl : ∀ (x : Addr), (loadCells x 0).run P w = .ok #[] w := fun x => by simpa using run_loadCells_list (P := P) w x [] (by simp)
    cases d <;> cases a <;> simp [Builtin.copy_, run_underlying hu, Builtin.lenOf, Builtin.firstCells, sizeOf, typeInfo, hq, hn, storeCells, hl]

/-! ### the cells of variables -/
def varCells (x : VN) : List Value := [.string x.1, .int .i64 x.2.k, .int .i64 x.2.n, .string x.2.s]
def flatV (l : List VN) : List Value := l.flatMap varCells
theorem flatV_cons (x : VN) (l : List VN) : flatV (x :: l) = varCells x ++ flatV l := by simp [flatV]
theorem flatV_append (a b : List VN) : flatV (a ++ b) = flatV a ++ flatV b := by simp [flatV]
theorem flatV_len (l : List VN) : (flatV l).length = l.length * 4 := by
  induction l with
  | nil => rfl
  | cons x l ih => rw [flatV_cons, List.length_append, ih, List.length_cons]; simp [varCells]; omega
theorem flatV_one (l : List VN) : ∀ v ∈ flatV l, v.oneCell' = true := by
  intro v hv
  simp only [flatV, List.mem_flatMap] at hv
  obtain ⟨x, _, hx⟩ := hv
  simp only [varCells, List.mem_cons, List.not_mem_nil, or_false] at hx
  rcases hx with rfl | rfl | rfl | rfl <;> rfl
theorem flatV_at : ∀ (l : List VN) (j : Nat) (h : j < l.length), (flatV l)[j * 4]? = some (.string (l[j]'h).1) ∧ (flatV l)[j * 4 + 1]? = some (.int .i64 (l[j]'h).2.k) ∧ (flatV l)[j * 4 + 2]? = some (.int .i64 (l[j]'h).2.n) ∧ (flatV l)[j * 4 + 3]? = some (.string (l[j]'h).2.s)
  | [], _, h => absurd h (by simp)
  | x :: l, 0, _ => by simp [flatV_cons, varCells]
  | x :: l, j + 1, h => by
    have ih := flatV_at l j (by simpa using h)
    have e : ∀ k, (flatV (x :: l))[(j + 1) * 4 + k]? = (flatV l)[j * 4 + k]? := fun k => by
      rw [flatV_cons, List.getElem?_append_right (by simp [varCells]; omega)]
      congr 1
      simp [varCells]
      omega
    have e0 := e 0
    simp only [Nat.add_zero] at e0
    rw [e0, e 1, e 2, e 3]
    simpa using ih
theorem flatV_take : ∀ (l : List VN) (j : Nat), (flatV l).take (j * 4) = flatV (l.take j)
  | [], j => by simp [flatV]
  | x :: l, 0 => by simp [flatV]
  | x :: l, j + 1 => by
    rw [List.take_succ_cons, flatV_cons, flatV_cons, ← flatV_take l j, List.take_append]
    have : (varCells x).length = 4 := rfl
    rw [List.take_of_length_le (by omega), this]
    congr 2
    omega
theorem flatV_drop : ∀ (l : List VN) (j : Nat), (flatV l).drop (j * 4) = flatV (l.drop j)
  | [], j => by simp [flatV]
  | x :: l, 0 => by simp [flatV]
  | x :: l, j + 1 => by
    rw [List.drop_succ_cons, flatV_cons, ← flatV_drop l j, List.drop_append]
    have : (varCells x).length = 4 := rfl
    rw [List.drop_of_length_le (by omega), this, List.nil_append]
    congr 1
    omega
theorem flatV_set (l : List VN) (j : Nat) (x : VN) (h : j < l.length) : flatV (l.set j x) = (flatV l).take (j * 4) ++ varCells x ++ (flatV l).drop (j * 4 + 4) := by
  rw [List.set_eq_take_append_cons_drop, if_pos h, flatV_append, flatV_cons, flatV_take, show j * 4 + 4 = (j + 1) * 4 by omega, flatV_drop, List.append_assoc]

/-! ### rows in memory -/
/-- A block is a row of variables. -/
def RowOf (w : World) (g : Nat) (l : List VN) : Prop := w.heap[g]? = some (.cells (flatV l).toArray 67 (0, 0))
theorem RowOf.lt {w : World} {g : Nat} {l : List VN} (h : RowOf w g l) : g < w.heap.size := (Array.getElem?_eq_some_iff.1 h).1
theorem RowOf.below {w w' : World} {g : Nat} {l : List VN} (h : RowOf w g l) (hb : Below w.heap.size w w') : RowOf w' g l := (hb.block g h.lt).trans h
theorem RowOf.grown {w w' : World} {g : Nat} {l : List VN} {row : Option Nat} (h : RowOf w g l) (hg : w.grownBy w' row) (hne : row ≠ some g) : RowOf w' g l := (hg.block g h.lt (fun e => hne e.symm)).trans h
theorem RowOf.reads {w : World} {g : Nat} {l : List VN} (h : RowOf w g l) : RowN w g (g + 1) (some ⟨g, 0, none⟩) l := fun _ => by
  refine ⟨g, 0, rfl, Nat.le_refl _, by omega, fun j hj => ?_⟩
  obtain ⟨h0, h1, h2, h3⟩ := flatV_at l j hj
  unfold VarAt
  rw [cell_of_row _ g _ _ _ _ h, cell_of_row _ g _ _ _ _ h, cell_of_row _ g _ _ _ _ h, cell_of_row _ g _ _ _ _ h]
  simp only [Nat.zero_add, List.getElem?_toArray]
  exact ⟨h0, h1, h2, h3⟩
theorem RowOf.at_ {w : World} {g j : Nat} {l : List VN} (h : RowOf w g l) (hj : j < l.length) : VarAt w g (j * 4) (l[j]'hj) := by
  obtain ⟨b, o, e, _, _, hc⟩ := h.reads (by omega)
  injection e with e
  injection e with e1 e2
  subst e1 e2
  have := hc j hj
  rwa [Nat.zero_add] at this
theorem RowOf.frozen {w : World} {g : Nat} {l : List VN} (h : RowOf w g l) (o : Nat) : w.frozen? ⟨g, o, none⟩ = false := by
  unfold RowOf at h
  simp [World.frozen?, h]
/-- The variable that make lays. -/
def varZero : VN := (⟨#[]⟩, V0)
theorem info_var : (Tryz.prog.info? 67).map (fun i => (i.zero.map (·.cells.toList), i.size, i.bytes)) = some (some (varCells varZero), 4, 48) := by kernel_rfl
theorem size_var : (Tryz.prog.info? 67).map (·.size) = some 4 := by kernel_rfl
theorem made_flat (z : Array Value) (hz : z.toList = varCells varZero) (n : Nat) : madeCells z (n * 4) = (flatV (List.replicate n varZero)).toArray := by
  obtain ⟨z⟩ := z
  simp only at hz
  subst hz
  apply Array.ext'
  apply List.ext_getElem?
  intro i
  simp only [madeCells]
  by_cases hi : i < n * 4
  · have hj : i / 4 < n := by omega
    obtain ⟨h0, h1, h2, h3⟩ := flatV_at (List.replicate n varZero) (i / 4) (by simpa using hj)
    have hm : i % 4 = 0 ∨ i % 4 = 1 ∨ i % 4 = 2 ∨ i % 4 = 3 := by omega
    have hsz : (varCells varZero).toArray.size = 4 := rfl
    simp only [Array.toList_map, List.getElem?_map, Array.toList_range, List.getElem?_range hi, Option.map_some, hsz]
    rcases hm with h | h | h | h
    · have e : i = i / 4 * 4 := by omega
      rw [h, e, h0]; simp [varCells]
    · have e : i = i / 4 * 4 + 1 := by omega
      rw [h, e, h1]; simp [varCells]
    · have e : i = i / 4 * 4 + 2 := by omega
      rw [h, e, h2]; simp [varCells]
    · have e : i = i / 4 * 4 + 3 := by omega
      rw [h, e, h3]; simp [varCells]
  · rw [List.getElem?_eq_none (by simp; omega), List.getElem?_eq_none (by rw [flatV_len]; simp; omega)]
theorem make_vars (n : Nat) (hn : n ≤ 100000) (w : World) : (Instr.makeSlice 23 (.int .i64 (n : Int)) (.int .i64 (n : Int))).run Tryz.prog w = .ok (.slice (some ⟨w.heap.size, 0, none⟩) n n) (w.alloc (.cells (flatV (List.replicate n varZero)).toArray 67)) := by
  obtain ⟨i, hi, hz⟩ := Option.map_eq_some_iff.1 info_var
  simp only [Prod.mk.injEq] at hz
  obtain ⟨z, hz0, hz1⟩ := Option.map_eq_some_iff.1 hz.1
  rw [run_make w 23 67 i z Tryz.underlying23 hi hz0 .i64 .i64 n n (by omega) (by omega) (by rw [hz.2.2]; omega) (by omega), Int.toNat_natCast, hz.2.1, made_flat _ hz1]
theorem RowOf.made (w : World) (n : Nat) : RowOf (w.alloc (.cells (flatV (List.replicate n varZero)).toArray 67)) w.heap.size (List.replicate n varZero) := heap_alloc_new w _
/-- A variable is stored at place j. -/
theorem RowOf.store {w : World} {g : Nat} {l : List VN} (h : RowOf w g l) (j : Nat) (x : VN) (hj : j < l.length) :
    RowOf ((((w.setCell ⟨g, j * 4, none⟩ (.string x.1)).setCell ⟨g, j * 4 + 1, none⟩ (.int .i64 x.2.k)).setCell ⟨g, j * 4 + 2, none⟩ (.int .i64 x.2.n)).setCell ⟨g, j * 4 + 3, none⟩ (.string x.2.s)) g (l.set j x) := by
  have hl := flatV_len l
  unfold RowOf at *
  simp only [World.setCell, Array.getElem?_modify, h, if_true, Option.map_some]
  congr 2
  apply Array.toList_inj.1
  rw [flatV_set l j x hj]
  simp only [Option.isSome_none, Bool.false_eq_true, if_false, Array.toList_setIfInBounds]
  apply List.ext_getElem?
  intro i
  have hb : j * 4 + 4 ≤ (flatV l).length := by omega
  have hlen : ((flatV l).take (j * 4) ++ varCells x).length = j * 4 + 4 := by rw [List.length_append, List.length_take]; simp [varCells]; omega
  have htl : ((flatV l).take (j * 4)).length = j * 4 := by rw [List.length_take]; omega
  simp only [List.getElem?_set, List.length_set]
  by_cases h4 : i < j * 4 + 4
  · rw [List.getElem?_append_left (by rw [hlen]; exact h4)]
    by_cases h0 : i < j * 4
    · rw [List.getElem?_append_left (by rw [htl]; exact h0), List.getElem?_take_of_lt h0, if_neg (by omega), if_neg (by omega), if_neg (by omega), if_neg (by omega)]
    · rw [List.getElem?_append_right (by rw [htl]; omega), htl]
      have hc : i = j * 4 ∨ i = j * 4 + 1 ∨ i = j * 4 + 2 ∨ i = j * 4 + 3 := by omega
      rcases hc with rfl | rfl | rfl | rfl
      · rw [if_neg (by omega), if_neg (by omega), if_neg (by omega), if_pos rfl, if_pos (by omega)]; simp [varCells]
      · rw [if_neg (by omega), if_neg (by omega), if_pos rfl, if_pos (by omega), show j * 4 + 1 - j * 4 = 1 by omega]; simp [varCells]
      · rw [if_neg (by omega), if_pos rfl, if_pos (by omega), show j * 4 + 2 - j * 4 = 2 by omega]; simp [varCells]
      · rw [if_pos rfl, if_pos (by omega), show j * 4 + 3 - j * 4 = 3 by omega]; simp [varCells]
  · rw [List.getElem?_append_right (by rw [hlen]; omega), hlen, List.getElem?_drop, if_neg (by omega), if_neg (by omega), if_neg (by omega), if_neg (by omega)]
    congr 1
    omega
theorem Below.store4 {w w' : World} {B g : Nat} (h : Below B w w') (hb : B ≤ g) (o0 o1 o2 o3 : Nat) (v0 v1 v2 v3 : Value) : Below B w ((((w'.setCell ⟨g, o0, none⟩ v0).setCell ⟨g, o1, none⟩ v1).setCell ⟨g, o2, none⟩ v2).setCell ⟨g, o3, none⟩ v3) :=
  (((h.setCell hb _).setCell hb _).setCell hb _).setCell hb _
theorem RowN.cellsL {w : World} {b o : Nat} {l : List VN} (h : ∀ j (hj : j < l.length), VarAt w b (o + j * 4) (l[j]'hj)) : ∀ j v, (flatV l)[j]? = some v → w.cell? ((⟨b, o, none⟩ : Addr).add j) = some v := by
  intro i v hv
  have hl := flatV_len l
  have hi : i < l.length * 4 := by
    have := (List.getElem?_eq_some_iff.1 hv).1
    omega
  have hj : i / 4 < l.length := by omega
  obtain ⟨h0, h1, h2, h3⟩ := flatV_at l (i / 4) hj
  obtain ⟨c0, c1, c2, c3⟩ := h (i / 4) hj
  rw [addr_add]
  have hm : i = i / 4 * 4 ∨ i = i / 4 * 4 + 1 ∨ i = i / 4 * 4 + 2 ∨ i = i / 4 * 4 + 3 := by omega
  rcases hm with e | e | e | e
  · rw [e, h0] at hv; rw [e, c0, hv]
  · rw [e, h1] at hv; rw [e, ← Nat.add_assoc, c1, hv]
  · rw [e, h2] at hv; rw [e, ← Nat.add_assoc, c2, hv]
  · rw [e, h3] at hv; rw [e, ← Nat.add_assoc, c3, hv]

/-- A copy of variables that are read, into a row of the call's own. -/
theorem wpList_copy_vars (w : World) {ops : Array Oper} {rest : List Oper} {op : Oper} {a : Act} {Q : Exit → Act → World → Prop} (hgd : op.guard = none) (d s : Operand)
    (ho : op.op = .call { callee := .builtin .copy, args := #[d, s], argTypes := #[23, 23] }) (g off : Nat) (rows l : List VN) (lo hi dLen dCap sLen sCap : Nat) (dp sp : Option Addr)
    (hd : a.eval d = .slice dp dLen dCap) (hs : a.eval s = .slice sp sLen sCap) (hsl : sLen = l.length) (hdl : l.length ≤ dLen) (hfit : off + l.length ≤ rows.length) (hdp : 0 < l.length → dp = some ⟨g, off * 4, none⟩) (hrow : RowOf w g rows) (hr : RowN w lo hi sp l)
    (h : ∀ w', RowOf w' g (rows.take off ++ l ++ rows.drop (off + l.length)) → w.grownBy w' (some g) → wpList Tryz.prog ops Q rest (a.put op.dst (goInt (l.length : Nat))) w') : wpList Tryz.prog ops Q (op :: rest) a w := by
  subst hsl
  have run : ∀ v' w', (Builtin.copy_ #[23, 23] op.type #[.slice dp dLen dCap, .slice sp l.length sCap]).run Tryz.prog w = .ok v' w' → wpList Tryz.prog ops Q rest (a.put op.dst v') w' → wpList Tryz.prog ops Q (op :: rest) a w := fun v' w' hrun hk => by
    refine wpList_plain hgd fun K hK => ?_
    unfold Oper.wp execOp
    simp only [ho, resolve, invoke, builtin, Sem.run_bind, Sem.run_pure, Result.andThen_ok, List.map_toArray, List.map_cons, List.map_nil, hd, hs, hrun]
    exact hK _ _ hk
  have hmin : Nat.min l.length dLen = l.length := Nat.min_eq_left hdl
  by_cases h0 : l.length = 0
  · have hrun := run_copy_no (P := Tryz.prog) w 23 23 op.type 67 4 dp sp dLen dCap l.length sCap Tryz.underlying23 size_var (by rw [hmin]; exact h0)
    refine run _ _ hrun ?_
    have hl : l = [] := List.eq_nil_of_length_eq_zero h0
    subst hl
    have := h w (by simpa using hrow) ⟨rfl, rfl, rfl, Nat.le_refl _, fun _ _ _ => rfl⟩
    simpa using this
  · obtain ⟨b, o, rfl, _, _, hc⟩ := hr (by omega)
    have hdp' := hdp (by omega)
    subst hdp'
    have hfl := flatV_len l
    have hfr := flatV_len rows
    have hrun := run_copy_rows (P := Tryz.prog) w 23 23 op.type 67 4 g (off * 4) dLen dCap ⟨b, o, none⟩ l.length sCap (flatV rows).toArray 67 (flatV l) Tryz.underlying23 size_var hrow (by rw [hmin, hfl]) (RowN.cellsL hc) (by rw [hfl]; simp [hfr]; omega) (flatV_one l)
    refine run _ _ hrun ?_
    rw [hmin]
    have e : ((flatV rows).toArray.toList.take (off * 4) ++ flatV l ++ (flatV rows).toArray.toList.drop (off * 4 + (flatV l).length)) = flatV (rows.take off ++ l ++ rows.drop (off + l.length)) := by
      rw [List.toList_toArray, flatV_take, hfl, ← Nat.add_mul, flatV_drop, flatV_append, flatV_append]
    rw [e]
    refine h _ (setRow_heap w g _ _ _ _ hrow) ⟨rfl, rfl, rfl, by simp [World.setRow], fun k _ hk => setRow_other w g k _ (fun hh => hk (by rw [hh]))⟩
/-- 'l[p:]' of a slice of variables. -/
def fromA (A : Option Addr) (c p : Nat) : Option Addr := if c = p then A else A.map (·.add (p * 4))
theorem slice_from (A : Option Addr) (n c p : Nat) (x : Int) (hx : x = (p : Int)) (hp : p ≤ n) (hn : n ≤ c) (hc : c ≤ 9223372036854775807) (hz : A = none → c = 0) (w : World) :
    (Instr.slice 23 (.slice A n c) (some (.int .i64 x)) none none).run Tryz.prog w = .ok (.slice (fromA A c p) (n - p) (c - p)) w := by
  subst hx
  cases A with
  | none =>
    have h0 := hz rfl
    subst h0
    have hn0 : n = 0 := by omega
    have hp0 : p = 0 := by omega
    subst hn0 hp0
    simp [Instr.slice, Instr.sliceBounds, Instr.sliceBound, asIntOf, run_underlying Tryz.underlying23, go_sem, fromA]
  | some a =>
    by_cases h1 : c = p
    · have hn2 : n = p := by omega
      subst h1 hn2
      simp [Instr.slice, Instr.sliceBounds, Instr.sliceBound, asIntOf, run_underlying Tryz.underlying23, go_sem, fromA]
    · simp [Instr.slice, Instr.sliceBounds, Instr.sliceBound, asIntOf, run_underlying Tryz.underlying23, go_sem, fromA, h1]
      intro h2
      omega
end Go.Proofs.YtidomoibhjgkjaaGreatDoor
