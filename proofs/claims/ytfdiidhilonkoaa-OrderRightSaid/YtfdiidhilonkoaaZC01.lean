import Derived.Test.YtfdiidhilonkoaaZC00
import Derived.Laws.AppendOwn
import Derived.Laws.AppendOwnNone
import Derived.Deep.AppendLies
import Derived.Deep.Slices
import Derived.Deep.Fields
set_option linter.unusedVariables false
/-
  Rows of elements of any number of cells: in memory, of a call's own, appended to, come in as arguments. No Go function is named here.
-/
namespace Go.Proofs.Ytfdiidhilonkoaa
open Go.RowKit

/-- Elements of k cells each. -/
structure Fixed {α : Type} (k : Nat) (cs : α → List Value) : Prop where
  pos : 0 < k
  len : ∀ x, (cs x).length = k
  one : ∀ x, ∀ v ∈ cs x, v.oneCell' = true

section
variable {α : Type} {k : Nat} {cs : α → List Value}
def flatG (cs : α → List Value) (l : List α) : List Value := l.flatMap cs
theorem flatG_nil : flatG cs [] = [] := rfl
theorem flatG_cons (x : α) (l : List α) : flatG cs (x :: l) = cs x ++ flatG cs l := by simp [flatG]
theorem flatG_one (x : α) : flatG cs [x] = cs x := by simp [flatG]
theorem flatG_append (a b : List α) : flatG cs (a ++ b) = flatG cs a ++ flatG cs b := by simp [flatG]
theorem Fixed.flat_len (h : Fixed k cs) (l : List α) : (flatG cs l).length = l.length * k := by
  induction l with
  | nil => simp [flatG]
  | cons x l ih => rw [flatG_cons, List.length_append, ih, List.length_cons, h.len, Nat.add_mul]; omega
theorem Fixed.flat_one (h : Fixed k cs) (l : List α) : ∀ v ∈ flatG cs l, v.oneCell' = true := by
  intro v hv
  simp only [flatG, List.mem_flatMap] at hv
  obtain ⟨x, _, hx⟩ := hv
  exact h.one x v hx
theorem Fixed.flat_at (h : Fixed k cs) : ∀ (l : List α) (j : Nat) (hj : j < l.length) (i : Nat), i < k → (flatG cs l)[j * k + i]? = (cs (l[j]'hj))[i]?
  | [], _, hj, _, _ => absurd hj (by simp)
  | x :: l, 0, _, i, hi => by
    rw [flatG_cons, Nat.zero_mul, Nat.zero_add, List.getElem?_append_left (by rw [h.len]; exact hi)]
    rfl
  | x :: l, j + 1, hj, i, hi => by
    have ih := h.flat_at l j (by simpa using hj) i hi
    have e : (j + 1) * k + i = k + (j * k + i) := by rw [Nat.add_mul]; omega
    rw [flatG_cons, e, List.getElem?_append_right (by rw [h.len]; omega), h.len, Nat.add_sub_cancel_left, ih]
    rfl
theorem Fixed.flat_take (h : Fixed k cs) : ∀ (l : List α) (j : Nat), (flatG cs l).take (j * k) = flatG cs (l.take j)
  | [], j => by simp [flatG]
  | x :: l, 0 => by simp [flatG]
  | x :: l, j + 1 => by
    rw [List.take_succ_cons, flatG_cons, flatG_cons, ← h.flat_take l j, List.take_append, h.len, List.take_of_length_le (by rw [h.len, Nat.add_mul]; omega)]
    congr 2
    rw [Nat.add_mul]; omega
theorem Fixed.flat_drop (h : Fixed k cs) : ∀ (l : List α) (j : Nat), (flatG cs l).drop (j * k) = flatG cs (l.drop j)
  | [], j => by simp [flatG]
  | x :: l, 0 => by simp [flatG]
  | x :: l, j + 1 => by
    rw [List.drop_succ_cons, flatG_cons, ← h.flat_drop l j, List.drop_append, h.len, List.drop_of_length_le (by rw [h.len, Nat.add_mul]; omega), List.nil_append]
    congr 1
    rw [Nat.add_mul]; omega

/-- A slice at A holds the elements l, in a block from lo on and below hi; of an empty one nothing is asked. -/
def RowG (cs : α → List Value) (w : World) (lo hi : Nat) (A : Option Addr) (l : List α) : Prop :=
  0 < l.length → ∃ b o, A = some ⟨b, o, none⟩ ∧ lo ≤ b ∧ b < hi ∧ ∀ j u, (flatG cs l)[j]? = some u → w.cell? ⟨b, o + j, none⟩ = some u
section
variable {w w' : World} {lo hi lo' hi' B : Nat} {A : Option Addr} {l : List α}
theorem RowG.nil_ : RowG cs w lo hi A [] := fun h => absurd h (by simp)
theorem RowG.keep (h : RowG cs w lo hi A l) (hk : ∀ p : Addr, lo ≤ p.block → p.block < hi → w'.cell? p = w.cell? p) : RowG cs w' lo hi A l := fun hn => by
  obtain ⟨b, o, e, h1, h2, hc⟩ := h hn
  exact ⟨b, o, e, h1, h2, fun j u hj => (hk _ h1 h2).trans (hc j u hj)⟩
theorem RowG.below (h : RowG cs w lo hi A l) (hb : Below B w w') (hB : hi ≤ B) : RowG cs w' lo hi A l := h.keep fun _ _ h2 => hb.cell (by omega)
theorem RowG.grown {row : Option Nat} (h : RowG cs w lo hi A l) (hg : w.grownBy w' row) (hB : hi ≤ w.heap.size) (hr : ∀ g, row = some g → g < lo ∨ hi ≤ g) : RowG cs w' lo hi A l :=
  h.keep fun p h1 h2 => World.cell?_of_block (hg.block p.block (by omega) (fun e => by rcases hr _ e.symm with h | h <;> omega))
theorem RowG.wide (h : RowG cs w lo hi A l) (h1 : lo' ≤ lo) (h2 : hi ≤ hi') : RowG cs w lo' hi' A l := fun hn => by
  obtain ⟨b, o, e, h3, h4, hc⟩ := h hn
  exact ⟨b, o, e, by omega, by omega, hc⟩
theorem RowG.some_ (h : RowG cs w lo hi A l) (hn : 0 < l.length) : ∃ b o, A = some ⟨b, o, none⟩ ∧ lo ≤ b ∧ b < hi := by
  obtain ⟨b, o, e, h1, h2, _⟩ := h hn
  exact ⟨b, o, e, h1, h2⟩
theorem RowG.at_ (hF : Fixed k cs) (h : RowG cs w lo hi A l) {j : Nat} (hj : j < l.length) :
    ∃ b o, A = some ⟨b, o, none⟩ ∧ lo ≤ b ∧ b < hi ∧ ∀ i u, (cs (l[j]'hj))[i]? = some u → w.cell? ⟨b, o + j * k + i, none⟩ = some u := by
  obtain ⟨b, o, e, h1, h2, hc⟩ := h (by omega)
  refine ⟨b, o, e, h1, h2, fun i u hu => ?_⟩
  have hi := (List.getElem?_eq_some_iff.1 hu).1
  rw [hF.len] at hi
  rw [Nat.add_assoc]
  exact hc _ u (by rw [hF.flat_at l j hj i hi]; exact hu)
theorem RowG.take (hF : Fixed k cs) (h : RowG cs w lo hi A l) (j : Nat) : RowG cs w lo hi A (l.take j) := fun hn => by
  obtain ⟨b, o, e, h1, h2, hc⟩ := h (by rw [List.length_take] at hn; omega)
  refine ⟨b, o, e, h1, h2, fun i u hu => hc i u ?_⟩
  rw [← hF.flat_take, List.getElem?_take] at hu
  split at hu
  · exact hu
  · cases hu
theorem RowG.drop (hF : Fixed k cs) (h : RowG cs w lo hi A l) (j c : Nat) (hj : j ≤ l.length) (hc : l.length ≤ c) : RowG cs w lo hi (if c = j then A else A.map (·.add (j * k))) (l.drop j) := fun hn => by
  rw [List.length_drop] at hn
  obtain ⟨b, o, rfl, h1, h2, hcell⟩ := h (by omega)
  rw [if_neg (by omega)]
  refine ⟨b, o + j * k, by simp [addr_add], h1, h2, fun i u hu => ?_⟩
  rw [← hF.flat_drop, List.getElem?_drop] at hu
  rw [Nat.add_assoc]
  exact hcell _ u hu
/-- A block that is known whole. -/
theorem RowG.block {g : Nat} {e : TypeId} {fz : Nat × Nat} {cur : Array Value} (h : w.heap[g]? = some (.cells cur e fz)) (hc : ∀ (j : Nat) (u : Value), (flatG cs l)[j]? = some u → cur[j]? = some u) : RowG cs w g (g + 1) (some ⟨g, 0, none⟩) l := fun _ => by
  refine ⟨g, 0, rfl, Nat.le_refl _, by omega, fun j u hu => ?_⟩
  rw [cell_of_row w g _ _ _ _ h, Nat.zero_add]
  exact hc j u hu
theorem RowG.one {g : Nat} {e : TypeId} {fz : Nat × Nat} {x : α} (h : w.heap[g]? = some (.cells (cs x).toArray e fz)) : RowG cs w g (g + 1) (some ⟨g, 0, none⟩) [x] :=
  RowG.block h (fun j u hu => by rw [flatG_one] at hu; simpa using hu)
end

/-- A slice of these elements, in a block from lo on that nothing else has. -/
def OwnG (e : TypeId) (k : Nat) (cs : α → List Value) (w : World) (lo : Nat) (v : Value) (l : List α) : Prop := w.ownsRow lo e k v l.length (flatG cs l)
section
variable {w w' w1 : World} {lo lo' B : Nat} {v : Value} {l : List α} {e : TypeId}
theorem OwnG.lt (h : OwnG e k cs w lo v l) : ∀ g, v.ownBlock = some g → lo ≤ g ∧ g < w.heap.size := fun g hg => World.ownsRow.lt h g hg
theorem OwnG.allocs (h : OwnG e k cs w lo v l) (o : Obj) : OwnG e k cs (w.alloc o) lo v l := World.ownsRow.alloc h o
theorem OwnG.drew (h : OwnG e k cs w lo v l) : OwnG e k cs w.drew lo v l := h
theorem OwnG.keep (h : OwnG e k cs w lo v l) (hk : ∀ g, v.ownBlock = some g → g < w.heap.size → w'.heap[g]? = w.heap[g]?) (hlo : lo' ≤ lo) : OwnG e k cs w' lo' v l := by
  refine ⟨h.1, ?_⟩
  rcases h.2 with h2 | ⟨g, cap, cur, hv, hb, hg, r⟩
  · exact .inl h2
  · refine .inr ⟨g, cap, cur, hv, by omega, ?_, r⟩
    rw [hk g (by rw [hv]; rfl) (Array.getElem?_eq_some_iff.1 hg).1]
    exact hg
theorem OwnG.below (h : OwnG e k cs w lo v l) (hb : Below w.heap.size w w') : OwnG e k cs w' lo v l := h.keep (fun g _ hg => hb.block g hg) (Nat.le_refl _)
theorem OwnG.grown_below (hb : Below B w w1) (h : OwnG e k cs w1 lo v l) (hg : w1.grownBy w' v.ownBlock) (hB : B ≤ lo) (hB2 : B ≤ w1.heap.size) : Below B w w' :=
  hb.grown hg hB2 (fun k hk => Nat.le_trans hB (h.lt k hk).1)
theorem OwnG.form (h : OwnG e k cs w lo v l) : ∃ A c, v = .slice A l.length c ∧ l.length ≤ c ∧ c ≤ maxLen ∧ (A = none → c = 0) ∧ RowG cs w lo w.heap.size A l := by
  have hf := h.1
  rcases h.2 with ⟨hv, hn⟩ | ⟨g, cap, cur, hv, hb, hg, hcap, hm, _⟩
  · exact ⟨none, 0, by rw [hv, hn], by omega, Nat.zero_le _, fun _ => rfl, fun hp => by omega⟩
  · refine ⟨some ⟨g, 0, none⟩, cap, hv, hcap, hm, (fun e => by cases e), fun hp => ⟨g, 0, rfl, hb, (Array.getElem?_eq_some_iff.1 hg).1, fun j u hu => ?_⟩⟩
    subst hv
    have hc := World.ownsRow.cells h (g := g) rfl j u hu
    rw [addr_add] at hc
    exact hc
theorem OwnG.none_ (w : World) (lo : Nat) (e : TypeId) (k : Nat) (cs : α → List Value) : OwnG e k cs w lo (.slice none 0 0) [] := World.ownsRow_nil w lo e k
theorem OwnG.made (w : World) (e : TypeId) (k : Nat) (cs : α → List Value) : OwnG e k cs (w.alloc (.cells #[] e)) w.heap.size (.slice (some ⟨w.heap.size, 0, none⟩) 0 0) ([] : List α) :=
  World.ownsRow_made w #[] 0 (Nat.le_refl _) (Nat.zero_le _) (by simp)
end

/-- What the program says of an element's type. -/
def InfoG (P : Program) (e : TypeId) (k bytes : Nat) : Prop := ∃ i z, P.info? e = some i ∧ i.zero = some z ∧ z.cells.size = k ∧ i.size = k ∧ i.bytes = bytes
theorem InfoG.of {P : Program} {e : TypeId} {k bytes : Nat} (h : (P.info? e).map (fun i => (i.zero.map (fun z => z.cells.size), i.size, i.bytes)) = some (some k, k, bytes)) : InfoG P e k bytes := by
  obtain ⟨i, hi, hz⟩ := Option.map_eq_some_iff.1 h
  simp only [Prod.mk.injEq] at hz
  obtain ⟨z, hz0, hz1⟩ := Option.map_eq_some_iff.1 hz.1
  exact ⟨i, z, hi, hz0, hz1, hz.2.1, hz.2.2⟩

/-- An append of elements that are read, onto a row of the call's own: nil or not. -/
theorem append_row {P : Program} (w : World) {ops : Array Oper} {rest : List Oper} {o : Oper} {a : Act} {Q : Exit → Act → World → Prop} (hgd : o.guard = none) (s x : Operand) (t e : TypeId) (bytes : Nat)
    (hF : Fixed k cs) (hI : InfoG P e k bytes) (ht : P.underlying t = some (.slice e)) (ho : o.op = .call { callee := .builtin .append, args := #[s, x], argTypes := #[t, t] })
    (base : Nat) (v : Value) (l : List α) (hs : a.eval s = v) (hown : OwnG e k cs w base v l)
    (lo up : Nat) (A : Option Addr) (m c : Nat) (m' : List α) (hx : a.eval x = .slice A m c) (hm : m = m'.length) (hnil : A = none → c = 0) (hr : RowG cs w lo up A m')
    (h63 : l.length + m'.length ≤ maxLen) (hby : (l.length + m'.length) * bytes ≤ 140737488355328) (hbase : base ≤ w.heap.size)
    (h : ∀ v' w', OwnG e k cs w' base v' (l ++ m') → w.grownBy w' v.ownBlock → wpList P ops Q rest (a.put o.dst v') w') : wpList P ops Q (o :: rest) a w := by
  subst hm
  obtain ⟨i, z, hi0, hz0, hzs, hz2, hz3⟩ := hI
  rcases A with _ | ad
  · have h0 : m' = [] := by
      rcases Nat.eq_zero_or_pos m'.length with h0 | h0
      · exact List.eq_nil_of_length_eq_zero h0
      · obtain ⟨b, o, hA, _⟩ := hr h0
        cases hA
    subst h0
    obtain rfl := hnil rfl
    refine wpList_append_own_none hgd s x _ ho base _ i k ht hi0 v l.length (flatG cs l) hs hown hx ?_
    exact h v w (by rw [List.append_nil]; exact hown) ⟨rfl, rfl, rfl, Nat.le_refl _, fun _ _ _ => rfl⟩
  · refine wpList_append_own w hgd s x _ ho base _ i z k bytes ht hi0 hz0 hz2 hz3 hzs hF.pos v l.length (flatG cs l) hs hown ad m'.length c (flatG cs m') hx (hF.flat_len m') ?_ (hF.flat_one m') h63 hby hbase ?_
    · intro j u hu
      have h0 : 0 < m'.length := by
        have h1 := (List.getElem?_eq_some_iff.1 hu).1
        rw [hF.flat_len] at h1
        exact Nat.pos_of_ne_zero fun h => by rw [h] at h1; omega
      obtain ⟨b, o', hA, _, _, hc⟩ := hr h0
      injection hA with hA
      subst hA
      rw [addr_add]
      exact hc j u hu
    · intro v' w' h1 h2 _
      refine h v' w' ?_ h2
      unfold OwnG
      rw [List.length_append, flatG_append]
      exact h1

/-! ### boxes of the frame's own -/
theorem box3_set {w : World} {b : Nat} {e : TypeId} {a0 a1 a2 : Value} (h : w.heap[b]? = some (.cells #[a0, a1, a2] e (0, 0))) (v0 v1 v2 : Value) :
    (((w.setCell ⟨b, 0, none⟩ v0).setCell ⟨b, 1, none⟩ v1).setCell ⟨b, 2, none⟩ v2).heap[b]? = some (.cells #[v0, v1, v2] e (0, 0)) := by
  simp [World.setCell, Array.getElem?_modify, h]
theorem Below.box3 {w w' : World} {B b : Nat} (h : Below B w w') (hb : B ≤ b) (v0 v1 v2 : Value) : Below B w (((w'.setCell ⟨b, 0, none⟩ v0).setCell ⟨b, 1, none⟩ v1).setCell ⟨b, 2, none⟩ v2) :=
  ((h.setCell hb _).setCell hb _).setCell hb _
theorem box3_other {w : World} {b g : Nat} (hg : g ≠ b) (v0 v1 v2 : Value) : (((w.setCell ⟨b, 0, none⟩ v0).setCell ⟨b, 1, none⟩ v1).setCell ⟨b, 2, none⟩ v2).heap[g]? = w.heap[g]? := by
  have hg' : b ≠ g := fun e => hg e.symm
  simp [World.setCell, Array.getElem?_modify, hg']
theorem frozen_of {w : World} {b : Nat} {e : TypeId} {cur : Array Value} (h : w.heap[b]? = some (.cells cur e (0, 0))) (o : Nat) : w.frozen? ⟨b, o, none⟩ = false := by
  simp [World.frozen?, h]
theorem lt_of_heap {w : World} {b : Nat} {o : Obj} (h : w.heap[b]? = some o) : b < w.heap.size := (Array.getElem?_eq_some_iff.1 h).1
theorem heap_below {w w' : World} {B b : Nat} {o : Obj} (h : w.heap[b]? = some o) (hb : Below B w w') (hB : b < B) : w'.heap[b]? = some o := (hb.block b hB).trans h
theorem heap_allocs {w : World} {b : Nat} {o : Obj} (h : w.heap[b]? = some o) (x : Obj) : (w.alloc x).heap[b]? = some o := heap_below h ((Below.refl _ w).alloc (Nat.le_refl _) x) (lt_of_heap h)

theorem heap_new2 (w : World) (a b : Obj) : ((w.alloc a).alloc b).heap[w.heap.size + 1]? = some b := by
  have h := heap_alloc_new (w.alloc a) b
  rwa [show (w.alloc a).heap.size = w.heap.size + 1 from by simp] at h

/-! ### arguments -/
theorem rowsG_in {H : Type} {enc : TypeId × Value → H} {P : Program} {W : World} (hF : Fixed k cs) {tS e : TypeId} (hu : P.underlying tS = some (.slice e)) (hcl : P.cellsOf e = k) {p : α → Prop}
    (each : ∀ (fuel : Nat) (cells : List Value) (y : DataW H × List MemPlace), cells.length = k → DataW.trod enc P W 0 (fun _ => true) true fuel e cells = some y → ∃ x, cells = cs x ∧ p x)
    {fuel : Nat} {v : Value} {y : DataW H × List MemPlace} (h : DataW.trod enc P W 0 (fun _ => true) true fuel tS [v] = some y) :
    ∃ (A : Option Addr) (c : Nat) (l : List α), v = .slice A l.length c ∧ l.length ≤ maxLen ∧ (∀ x ∈ l, p x) ∧ l.length ≤ c ∧ c ≤ maxLen ∧ (A = none → c = 0) ∧ RowG cs W 0 W.heap.size A l := by
  rcases Go.Deep.open_slice hu h with ⟨hcs, _⟩ | ⟨a, len, cap, m, n, D, Pl, hcs, _, hl, hm, hmm, _, hel⟩
  · obtain rfl : v = .slice none 0 0 := by simpa using hcs
    exact ⟨none, 0, [], rfl, Nat.zero_le _, by simp, Nat.le_refl _, Nat.zero_le _, fun _ => rfl, RowG.nil_⟩
  · obtain rfl : v = .slice (some a) len cap := by simpa using hcs
    have hmc : m = cap := by simpa using hmm
    obtain ⟨b, o, spot⟩ := a
    have one : ∀ i, i < len → ∃ x : α, p x ∧ ∀ q u, (cs x)[q]? = some u → W.cell? ((⟨b, o, spot⟩ : Addr).add (i * k + q)) = some u := fun i hi => by
      obtain ⟨cs', hc, ht⟩ := hel i (by omega)
      rw [hcl] at hc
      obtain ⟨_, hlen, hat⟩ := World.cells?_some hc
      obtain ⟨x, rfl, hx⟩ := each _ _ _ (by simpa using hlen) ht
      refine ⟨x, hx, fun q u hq => ?_⟩
      have hql := (List.getElem?_eq_some_iff.1 hq).1
      rw [hF.len] at hql
      have h0 := hat q hql
      rw [Go.Deep.add_add] at h0
      rw [h0]
      exact hq
    have hspot : 0 < len → spot = none := fun h0 => by
      obtain ⟨x, _, q0⟩ := one 0 h0
      have hx0 : (cs x)[0]? = some ((cs x)[0]'(by rw [hF.len]; exact hF.pos)) := List.getElem?_eq_getElem _
      have := q0 0 _ hx0
      simpa [Addr.add] using World.cell?_spot this
    have hch : ∀ j : Nat, j ≤ len → ∃ l : List α, l.length = j ∧ (∀ x ∈ l, p x) ∧ ∀ i (h : i < l.length) q u, (cs (l[i]'h))[q]? = some u → W.cell? ((⟨b, o, spot⟩ : Addr).add (i * k + q)) = some u := by
      intro j
      induction j with
      | zero => exact fun _ => ⟨[], rfl, by simp, fun i h => absurd h (by simp)⟩
      | succ j ih =>
        intro hj
        obtain ⟨l, e, hi, hc2⟩ := ih (by omega)
        obtain ⟨x, hx, q⟩ := one j (by omega)
        refine ⟨l ++ [x], by simp [e], ?_, fun i h => ?_⟩
        · intro y hy
          rcases List.mem_append.1 hy with hy | hy
          · exact hi y hy
          · simp at hy; subst hy; exact hx
        · by_cases hil : i < l.length
          · rw [List.getElem_append_left hil]
            exact hc2 i hil
          · have : i = l.length := by simp at h; omega
            subst this
            rw [List.getElem_append_right (Nat.le_refl _)]
            simp only [Nat.sub_self, List.getElem_cons_zero]
            rw [e]
            exact q
    obtain ⟨l, e, hi, hc2⟩ := hch len (Nat.le_refl _)
    refine ⟨some ⟨b, o, spot⟩, cap, l, by rw [e], by omega, hi, by omega, hm, fun h => (by cases h), fun hp => ?_⟩
    have hs := hspot (by omega)
    subst hs
    have hk0 := hF.pos
    have all : ∀ j u, (flatG cs l)[j]? = some u → W.cell? ⟨b, o + j, none⟩ = some u := fun j u hu => by
      have h1 := (List.getElem?_eq_some_iff.1 hu).1
      rw [hF.flat_len] at h1
      have hq : j / k < l.length := Nat.div_lt_of_lt_mul (by rw [Nat.mul_comm]; exact h1)
      have hr : j % k < k := Nat.mod_lt _ hk0
      have e1 : j / k * k + j % k = j := by rw [Nat.mul_comm]; exact Nat.div_add_mod j k
      have h2 := hF.flat_at l (j / k) hq (j % k) hr
      rw [e1, hu] at h2
      have h3 := hc2 (j / k) hq (j % k) u h2.symm
      rw [e1, addr_add] at h3
      exact h3
    have hc0 : 0 < (flatG cs l).length := by rw [hF.flat_len]; exact Nat.mul_pos hp hk0
    refine ⟨b, o, rfl, Nat.zero_le _, ?_, all⟩
    have := World.block_lt_of_cell? W _ (all 0 _ (List.getElem?_eq_getElem hc0))
    simpa using this
end
end Go.Proofs.Ytfdiidhilonkoaa
