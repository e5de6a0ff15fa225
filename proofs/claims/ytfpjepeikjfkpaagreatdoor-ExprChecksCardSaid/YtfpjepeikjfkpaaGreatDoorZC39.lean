import Derived.Test.YtfpjepeikjfkpaaGreatDoorZC38
import Derived.Test.YtfpjepeikjfkpaaGreatDoorZC09
import Derived.Test.YtfpjepeikjfkpaaGreatDoorZC35
/-
  Package expr: a slice of texts with their strengths that a call owns.
-/
namespace Go.Proofs.YtfpjepeikjfkpaaGreatDoor
open Go.RowKit

def cellsX (x : Nat × List UInt8) : List Value := [.int .i64 (x.1 : Int), .string ⟨x.2.toArray⟩]
def flatX (l : List (Nat × List UInt8)) : List Value := l.flatMap cellsX
theorem flatX_cons (x : Nat × List UInt8) (l : List (Nat × List UInt8)) : flatX (x :: l) = cellsX x ++ flatX l := by simp [flatX]
theorem flatX_append (a b : List (Nat × List UInt8)) : flatX (a ++ b) = flatX a ++ flatX b := by simp [flatX]
theorem flatX_one (x : Nat × List UInt8) : flatX [x] = cellsX x := by simp [flatX]
theorem flatX_len (l : List (Nat × List UInt8)) : (flatX l).length = l.length * 2 := by
  induction l with
  | nil => rfl
  | cons x l ih => rw [flatX_cons, List.length_append, ih, List.length_cons]; simp [cellsX]; omega
theorem cellsX_one (x : Nat × List UInt8) : ∀ v ∈ cellsX x, v.oneCell' = true := by
  intro v hv
  simp only [cellsX, List.mem_cons, List.not_mem_nil, or_false] at hv
  rcases hv with rfl | rfl <;> rfl
theorem flatX_at : ∀ (l : List (Nat × List UInt8)) (j : Nat) (h : j < l.length), (flatX l)[j * 2]? = some (.int .i64 ((l[j]'h).1 : Int)) ∧ (flatX l)[j * 2 + 1]? = some (.string ⟨(l[j]'h).2.toArray⟩)
  | [], _, h => absurd h (by simp)
  | x :: l, 0, _ => by simp [flatX_cons, cellsX]
  | x :: l, j + 1, h => by
    have ih := flatX_at l j (by simpa using h)
    have e : ∀ k, (flatX (x :: l))[(j + 1) * 2 + k]? = (flatX l)[j * 2 + k]? := fun k => by
      rw [flatX_cons, List.getElem?_append_right (by simp [cellsX]; omega)]
      congr 1
      simp [cellsX]
      omega
    have e0 := e 0
    simp only [Nat.add_zero] at e0
    rw [e0, e 1]
    exact ih
theorem flatX_take (l : List (Nat × List UInt8)) (n : Nat) : (flatX l).take (n * 2) = flatX (l.take n) := by
  induction l generalizing n with
  | nil => simp [flatX]
  | cons x l ih =>
    cases n with
    | zero => simp [flatX]
    | succ n =>
      rw [List.take_succ_cons, flatX_cons, flatX_cons, ← ih, List.take_append]
      have hl : (cellsX x).length = 2 := rfl
      rw [hl, List.take_of_length_le (by rw [hl]; omega)]
      congr 2
      omega
theorem infoWord : ∃ i z, Tryz.prog.info? 58 = some i ∧ i.zero = some z ∧ z.cells.size = 2 ∧ i.size = 2 ∧ i.bytes = 24 := by
  have h : (Tryz.prog.info? 58).map (fun i => (i.zero.map (fun z => z.cells.size), i.size, i.bytes)) = some (some 2, 2, 24) := by kernel_rfl
  obtain ⟨i, hi, hz⟩ := Option.map_eq_some_iff.1 h
  simp only [Prod.mk.injEq] at hz
  obtain ⟨z, hz0, hz1⟩ := Option.map_eq_some_iff.1 hz.1
  exact ⟨i, z, hi, hz0, hz1, hz.2.1, hz.2.2⟩

/-- A slice of these parts, in a block from lo on that nothing else has. -/
def OwnX (w : World) (lo : Nat) (v : Value) (l : List (Nat × List UInt8)) : Prop := w.ownsRow lo 58 2 v l.length (flatX l)
theorem OwnX.form {w : World} {lo : Nat} {v : Value} {l : List (Nat × List UInt8)} (h : OwnX w lo v l) : ∃ A c, v = .slice A l.length c := by
  rcases h.2 with ⟨hv, hn⟩ | ⟨g, cap, cur, hv, _⟩
  · exact ⟨none, 0, by rw [hv, hn]⟩
  · exact ⟨_, cap, hv⟩
theorem OwnX.nil (w : World) (lo : Nat) : OwnX w lo (.slice none 0 0) [] := World.ownsRow_nil _ _ _ _
theorem OwnX.keep {w w' : World} {lo lo' : Nat} {v : Value} {l : List (Nat × List UInt8)} (h : OwnX w lo v l) (hk : ∀ g, v.ownBlock = some g → g < w.heap.size → w'.heap[g]? = w.heap[g]?) (hlo : lo' ≤ lo) : OwnX w' lo' v l := by
  refine ⟨h.1, ?_⟩
  rcases h.2 with h2 | ⟨g, cap, cur, hv, hb, hg, r⟩
  · exact .inl h2
  · refine .inr ⟨g, cap, cur, hv, by omega, ?_, r⟩
    rw [hk g (by rw [hv]; rfl) (Array.getElem?_eq_some_iff.1 hg).1]
    exact hg
theorem OwnX.below {w w' : World} {lo : Nat} {v : Value} {l : List (Nat × List UInt8)} (h : OwnX w lo v l) (hb : Below w.heap.size w w') : OwnX w' lo v l := h.keep (fun g _ hg => hb.block g hg) (Nat.le_refl _)
theorem OwnX.lt {w : World} {lo : Nat} {v : Value} {l : List (Nat × List UInt8)} (h : OwnX w lo v l) : ∀ g, v.ownBlock = some g → lo ≤ g ∧ g < w.heap.size := fun g hg => World.ownsRow.lt h g hg
/-- Where it lies, and its cells. -/
theorem OwnX.reads {w : World} {lo : Nat} {A : Option Addr} {n c : Nat} {l : List (Nat × List UInt8)} (h : OwnX w lo (.slice A n c) l) (hp : 0 < l.length) :
    ∃ g, A = some ⟨g, 0, none⟩ ∧ lo ≤ g ∧ g < w.heap.size ∧ l.length ≤ c ∧ ∀ j (hj : j < l.length), WordAt w g (j * 2) (l[j]'hj) := by
  rcases h.2 with ⟨hv, hn⟩ | ⟨g, cap, cur, hv, hb, hg, hcap, _⟩
  · omega
  · injection hv with e1 e2 e3
    subst e1 e3
    refine ⟨g, rfl, hb, (Array.getElem?_eq_some_iff.1 hg).1, by omega, fun j hj => ?_⟩
    have hc := h.cells (g := g) rfl
    obtain ⟨t0, t1⟩ := flatX_at l j hj
    have add : ∀ k, (⟨g, 0, none⟩ : Addr).add k = ⟨g, k, none⟩ := fun k => by unfold Addr.add; split <;> simp_all
    have c0 := hc _ _ t0
    have c1 := hc _ _ t1
    rw [add] at c0 c1
    exact ⟨c0, c1⟩
/-- The last ones of it. -/
theorem OwnX.rest {w : World} {lo n c : Nat} {A : Option Addr} {l : List (Nat × List UInt8)} (h : OwnX w lo (.slice A n c) l) (hp : 0 < l.length) (k : Nat) : ∃ g, A = some ⟨g, 0, none⟩ ∧ RowX w w.heap.size (some ⟨g, k * 2, none⟩) (l.drop k) := by
  obtain ⟨g, e, _, h2, _, hc⟩ := h.reads hp
  refine ⟨g, e, fun _ => ⟨g, k * 2, rfl, h2, fun j hj => ?_⟩⟩
  have hj' : k + j < l.length := by rw [List.length_drop] at hj; omega
  have := hc (k + j) hj'
  rw [List.getElem_drop]
  rwa [Nat.add_mul] at this
/-- Less of it, with the same room. -/
theorem OwnX.cut {w : World} {lo n c : Nat} {A : Option Addr} {l : List (Nat × List UInt8)} (h : OwnX w lo (.slice A n c) l) (k : Nat) (hk : k ≤ l.length) (hn : 0 < l.length) : OwnX w lo (.slice A k c) (l.take k) := by
  have hl := flatX_len (l.take k)
  rcases h.2 with ⟨hv, h0⟩ | ⟨g, cap, cur, hv, hb, hg, hcap, hm, hcs, htk⟩
  · omega
  · injection hv with e1 e2 e3
    subst e1 e2 e3
    have hlk : (l.take k).length = k := by rw [List.length_take]; omega
    refine ⟨hl, .inr ⟨g, c, cur, by rw [hlk], hb, hg, by omega, hm, hcs, ?_⟩⟩
    rw [hlk, ← flatX_take, ← htk, List.take_take, Nat.min_eq_left (by omega)]
end Go.Proofs.YtfpjepeikjfkpaaGreatDoor

/-
  Package expr: a slice of parts that a call owns.
-/
namespace Go.Proofs.YtfpjepeikjfkpaaGreatDoor
open Go.RowKit

def cellsQ (x : Nat × Nat) : List Value := [.int .i64 (x.1 : Int), .int .i64 (x.2 : Int)]
def flatQ (l : List (Nat × Nat)) : List Value := l.flatMap cellsQ
theorem flatQ_cons (x : Nat × Nat) (l : List (Nat × Nat)) : flatQ (x :: l) = cellsQ x ++ flatQ l := by simp [flatQ]
theorem flatQ_append (a b : List (Nat × Nat)) : flatQ (a ++ b) = flatQ a ++ flatQ b := by simp [flatQ]
theorem flatQ_one (x : Nat × Nat) : flatQ [x] = cellsQ x := by simp [flatQ]
theorem flatQ_len (l : List (Nat × Nat)) : (flatQ l).length = l.length * 2 := by
  induction l with
  | nil => rfl
  | cons x l ih => rw [flatQ_cons, List.length_append, ih, List.length_cons]; simp [cellsQ]; omega
theorem cellsQ_one (x : Nat × Nat) : ∀ v ∈ cellsQ x, v.oneCell' = true := by
  intro v hv
  simp only [cellsQ, List.mem_cons, List.not_mem_nil, or_false] at hv
  rcases hv with rfl | rfl <;> rfl
theorem flatQ_at : ∀ (l : List (Nat × Nat)) (j : Nat) (h : j < l.length), (flatQ l)[j * 2]? = some (.int .i64 ((l[j]'h).1 : Int)) ∧ (flatQ l)[j * 2 + 1]? = some (.int .i64 ((l[j]'h).2 : Int))
  | [], _, h => absurd h (by simp)
  | x :: l, 0, _ => by simp [flatQ_cons, cellsQ]
  | x :: l, j + 1, h => by
    have ih := flatQ_at l j (by simpa using h)
    have e : ∀ k, (flatQ (x :: l))[(j + 1) * 2 + k]? = (flatQ l)[j * 2 + k]? := fun k => by
      rw [flatQ_cons, List.getElem?_append_right (by simp [cellsQ]; omega)]
      congr 1
      simp [cellsQ]
      omega
    have e0 := e 0
    simp only [Nat.add_zero] at e0
    rw [e0, e 1]
    exact ih
theorem flatQ_take (l : List (Nat × Nat)) (n : Nat) : (flatQ l).take (n * 2) = flatQ (l.take n) := by
  induction l generalizing n with
  | nil => simp [flatQ]
  | cons x l ih =>
    cases n with
    | zero => simp [flatQ]
    | succ n =>
      rw [List.take_succ_cons, flatQ_cons, flatQ_cons, ← ih, List.take_append]
      have hl : (cellsQ x).length = 2 := rfl
      rw [hl, List.take_of_length_le (by rw [hl]; omega)]
      congr 2
      omega
theorem infoPart : ∃ i z, Tryz.prog.info? 49 = some i ∧ i.zero = some z ∧ z.cells.size = 2 ∧ i.size = 2 ∧ i.bytes = 16 := by
  have h : (Tryz.prog.info? 49).map (fun i => (i.zero.map (fun z => z.cells.size), i.size, i.bytes)) = some (some 2, 2, 16) := by kernel_rfl
  obtain ⟨i, hi, hz⟩ := Option.map_eq_some_iff.1 h
  simp only [Prod.mk.injEq] at hz
  obtain ⟨z, hz0, hz1⟩ := Option.map_eq_some_iff.1 hz.1
  exact ⟨i, z, hi, hz0, hz1, hz.2.1, hz.2.2⟩

/-- A slice of these parts, in a block from lo on that nothing else has. -/
def OwnQ (w : World) (lo : Nat) (v : Value) (l : List (Nat × Nat)) : Prop := w.ownsRow lo 49 2 v l.length (flatQ l)
theorem OwnQ.form {w : World} {lo : Nat} {v : Value} {l : List (Nat × Nat)} (h : OwnQ w lo v l) : ∃ A c, v = .slice A l.length c := by
  rcases h.2 with ⟨hv, hn⟩ | ⟨g, cap, cur, hv, _⟩
  · exact ⟨none, 0, by rw [hv, hn]⟩
  · exact ⟨_, cap, hv⟩
theorem OwnQ.nil (w : World) (lo : Nat) : OwnQ w lo (.slice none 0 0) [] := World.ownsRow_nil _ _ _ _
theorem OwnQ.keep {w w' : World} {lo lo' : Nat} {v : Value} {l : List (Nat × Nat)} (h : OwnQ w lo v l) (hk : ∀ g, v.ownBlock = some g → g < w.heap.size → w'.heap[g]? = w.heap[g]?) (hlo : lo' ≤ lo) : OwnQ w' lo' v l := by
  refine ⟨h.1, ?_⟩
  rcases h.2 with h2 | ⟨g, cap, cur, hv, hb, hg, r⟩
  · exact .inl h2
  · refine .inr ⟨g, cap, cur, hv, by omega, ?_, r⟩
    rw [hk g (by rw [hv]; rfl) (Array.getElem?_eq_some_iff.1 hg).1]
    exact hg
theorem OwnQ.below {w w' : World} {lo : Nat} {v : Value} {l : List (Nat × Nat)} (h : OwnQ w lo v l) (hb : Below w.heap.size w w') : OwnQ w' lo v l := h.keep (fun g _ hg => hb.block g hg) (Nat.le_refl _)
theorem OwnQ.lt {w : World} {lo : Nat} {v : Value} {l : List (Nat × Nat)} (h : OwnQ w lo v l) : ∀ g, v.ownBlock = some g → lo ≤ g ∧ g < w.heap.size := fun g hg => World.ownsRow.lt h g hg
/-- Where it lies, and its cells. -/
theorem OwnQ.reads {w : World} {lo : Nat} {A : Option Addr} {n c : Nat} {l : List (Nat × Nat)} (h : OwnQ w lo (.slice A n c) l) (hp : 0 < l.length) :
    ∃ g, A = some ⟨g, 0, none⟩ ∧ lo ≤ g ∧ g < w.heap.size ∧ l.length ≤ c ∧ ∀ j (hj : j < l.length), PartAt w g (j * 2) (l[j]'hj) := by
  rcases h.2 with ⟨hv, hn⟩ | ⟨g, cap, cur, hv, hb, hg, hcap, _⟩
  · omega
  · injection hv with e1 e2 e3
    subst e1 e3
    refine ⟨g, rfl, hb, (Array.getElem?_eq_some_iff.1 hg).1, by omega, fun j hj => ?_⟩
    have hc := h.cells (g := g) rfl
    obtain ⟨t0, t1⟩ := flatQ_at l j hj
    have add : ∀ k, (⟨g, 0, none⟩ : Addr).add k = ⟨g, k, none⟩ := fun k => by unfold Addr.add; split <;> simp_all
    have c0 := hc _ _ t0
    have c1 := hc _ _ t1
    rw [add] at c0 c1
    exact ⟨c0, c1⟩
/-- The last ones of it. -/
theorem OwnQ.rest {w : World} {lo n c : Nat} {A : Option Addr} {l : List (Nat × Nat)} (h : OwnQ w lo (.slice A n c) l) (hp : 0 < l.length) (k : Nat) : ∃ g, A = some ⟨g, 0, none⟩ ∧ RowQ w w.heap.size (some ⟨g, k * 2, none⟩) (l.drop k) := by
  obtain ⟨g, e, _, h2, _, hc⟩ := h.reads hp
  refine ⟨g, e, fun _ => ⟨g, k * 2, rfl, h2, fun j hj => ?_⟩⟩
  have hj' : k + j < l.length := by rw [List.length_drop] at hj; omega
  have := hc (k + j) hj'
  rw [List.getElem_drop]
  rwa [Nat.add_mul] at this
/-- Less of it, with the same room. -/
theorem OwnQ.cut {w : World} {lo n c : Nat} {A : Option Addr} {l : List (Nat × Nat)} (h : OwnQ w lo (.slice A n c) l) (k : Nat) (hk : k ≤ l.length) (hn : 0 < l.length) : OwnQ w lo (.slice A k c) (l.take k) := by
  have hl := flatQ_len (l.take k)
  rcases h.2 with ⟨hv, h0⟩ | ⟨g, cap, cur, hv, hb, hg, hcap, hm, hcs, htk⟩
  · omega
  · injection hv with e1 e2 e3
    subst e1 e2 e3
    have hlk : (l.take k).length = k := by rw [List.length_take]; omega
    refine ⟨hl, .inr ⟨g, c, cur, by rw [hlk], hb, hg, by omega, hm, hcs, ?_⟩⟩
    rw [hlk, ← flatQ_take, ← htk, List.take_take, Nat.min_eq_left (by omega)]
end Go.Proofs.YtfpjepeikjfkpaaGreatDoor
