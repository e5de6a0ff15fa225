/-
  Errors in memory: what an error is made of (places around a number, a need or nothing), where it lies, and what stays of it behind a call; what the package-level variables hold.
-/
import Derived.Test.YtdlmnhpmdidkeaaDoorFFacts
import Derived.Shelf.Strconv.Itoa3
namespace Go.Proofs.YtdlmnhpmdidkeaaDoor
open Go.RowKit

/-- What stands at an error's end: nothing; a number; a need. -/
def End : Type := Option (Int ⊕ (ByteArray × ByteArray))
def End.nil : End := none
def End.num (n : Int) : End := some (.inl n)
def End.need (x y : ByteArray) : End := some (.inr (x, y))
def endVal : End → Value
  | none => .nilIface
  | some (.inl n) => .iface 29 (.int .i64 n)
  | some (.inr (x, y)) => .iface 31 (.agg #[.string x, .string y])
theorem End.cases {p : End → Prop} (e : End) (h0 : p .nil) (h1 : ∀ n, p (.num n)) (h2 : ∀ x y, p (.need x y)) : p e := by
  rcases e with _ | n | ⟨x, y⟩
  · exact h0
  · exact h1 n
  · exact h2 x y

/-- v is an error of the places ps, the outermost first, around the end e; its blocks lie below hi. -/
def Err (w : World) (hi : Nat) (e : End) : List ByteArray → Value → Prop
  | [], v => v = endVal e
  | p :: ps, v => ∃ b u, v = .iface 49 (.pointer (some ⟨b, 0, none⟩)) ∧ b < hi ∧ w.heap[b]? = some (.cells #[.string p, u] 51 (0, 0)) ∧ Err w hi e ps u

/-- Is it an error at all? -/
def some? (e : End) (ps : List ByteArray) : Prop := ps ≠ [] ∨ e ≠ End.nil

theorem Err.keep {w w' : World} {hi : Nat} {e : End} (hk : ∀ k, k < hi → w'.heap[k]? = w.heap[k]?) : ∀ {ps : List ByteArray} {v : Value}, Err w hi e ps v → Err w' hi e ps v
  | [], _, h => h
  | _ :: _, _, ⟨b, u, hv, hb, hc, hr⟩ => ⟨b, u, hv, hb, (hk b hb).trans hc, hr.keep hk⟩
theorem Err.below {w w' : World} {hi B : Nat} {e : End} {ps : List ByteArray} {v : Value} (h : Err w hi e ps v) (hb : Below B w w') (hB : hi ≤ B) : Err w' hi e ps v := h.keep fun k hk => hb.block k (by omega)
theorem Err.wide {w : World} {hi hi' : Nat} {e : End} (hw : hi ≤ hi') : ∀ {ps : List ByteArray} {v : Value}, Err w hi e ps v → Err w hi' e ps v
  | [], _, h => h
  | _ :: _, _, ⟨b, u, hv, hb, hc, hr⟩ => ⟨b, u, hv, by omega, hc, hr.wide hw⟩

/-- What the package-level variables that are read hold. -/
structure Glob (w : World) : Prop where
  et : w.cell? ⟨0, 0, none⟩ = some (.iface 94 (.agg #[.pointer (some ⟨5, 27, none⟩)]))
  tab : ∃ t fz, w.heap[1]? = some (.cells (Lib.pow10Tab.map fun z => Value.int .u64 z).toArray t fz)
  big : 5 ≤ w.heap.size

theorem Glob.keep {w w' : World} (h : Glob w) (hs : w.heap.size ≤ w'.heap.size) (hk : ∀ k, k < 5 → w'.heap[k]? = w.heap[k]?) : Glob w' := by
  refine ⟨?_, ?_, Nat.le_trans h.big hs⟩
  · rw [World.cell?_of_block (w := w) (hk 0 (by omega))]; exact h.et
  · obtain ⟨t, fz, ht⟩ := h.tab
    exact ⟨t, fz, (hk 1 (by omega)).trans ht⟩
theorem Glob.below {w w' : World} {B : Nat} (h : Glob w) (hb : Below B w w') (hB : 5 ≤ B) : Glob w' := h.keep hb.size fun k hk => hb.block k (by omega)

end Go.Proofs.YtdlmnhpmdidkeaaDoor
