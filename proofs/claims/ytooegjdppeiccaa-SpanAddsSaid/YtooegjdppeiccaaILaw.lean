/-
  Stretches: the contracts in the forms that the walks of the statements ask.
-/
import Derived.Test.YtooegjdppeiccaaILive
namespace Go.Proofs.Ytooegjdppeiccaa
open Go.RowKit

section
variable {w : World} {l m : List Sp} {A B : Option Addr} {c d : Nat}
theorem few_bnd {l : List Sp} (h : okI l) : l.length ≤ 9223372036854775807 := by unfold okI at h; omega
theorem ChI.len (h : ChI w w.heap.size A c l) : l.length ≤ 9223372036854775807 := by have := h.1; have := h.2.1; unfold maxLen at this; omega
theorem fewYes (f : fewI l = true) (h : ChI w w.heap.size A c l) : Calls Try.prog 30 #[.slice A l.length c] w fun r w' => r = .returned (.bool true) ∧ Below w.heap.size w w' := by
  have := fewI_any l A c w h.len h.2.2.2
  rwa [f] at this
theorem fewNo (f : fewI l = false) (h : ChI w w.heap.size A c l) : Calls Try.prog 30 #[.slice A l.length c] w fun r w' => r = .returned (.bool false) ∧ Below w.heap.size w w' := by
  have := fewI_any l A c w h.len h.2.2.2
  rwa [f] at this
/-- Same of two rows that read alike. -/
theorem sameYes (h1 : ChI w w.heap.size A c l) (h2 : ChI w w.heap.size B d l) : Calls Try.prog 39 #[.slice A l.length c, .slice B l.length d] w fun r w' => r = .returned (.bool true) ∧ Below w.heap.size w w' :=
  (refSameI_any l l A B c d w h1.len h2.len h1.2.2.2 h2.2.2.2).mono fun _ _ q => ⟨by rw [q.1]; unfold sameI; rw [decide_eq_true rfl], q.2⟩
end
theorem okI_join {a b : List Sp} (h : a.length + b.length ≤ 1000) : okI (joinSp (a ++ b)) := by
  have := join_len (a ++ b)
  rw [List.length_append] at this
  unfold okI
  omega
theorem okI_join1 {a : List Sp} (h : okI a) : okI (joinSp a) := by
  have := join_len a
  unfold okI at *
  omega
theorem fit_le {n : Int} (l : List Sp) : (fitI n l).length ≤ fitN n := by
  have h := fit_len (fitN n) l.length l (Nat.le_refl _)
  have := fitN_pos n
  unfold fitI
  omega
theorem fit_shrinks {n : Int} (l : List Sp) : (fitI n l).length ≤ l.length := by
  by_cases h : l.length ≤ fitN n
  · rw [fitI_few h]
    exact Nat.le_refl _
  · have := fit_le (n := n) l
    omega
theorem okI_fit {n : Int} {l : List Sp} (h : okI l) : okI (fitI n l) := by
  have := fit_shrinks (n := n) l
  unfold okI at *
  omega
theorem fitI_norm {n : Int} {l : List Sp} (h : normS l) : normS (fitI n l) := (fit_norm _ _ l (Nat.le_refl _) h).1
theorem fitI_in {n : Int} {l : List Sp} (h : normS l) {k : List UInt8} (hk : inS l k = true) : inS (fitI n l) k = true := (fit_norm _ _ l (Nat.le_refl _) h).2 k hk
/-- Two stretches in a block that the call has made. -/
theorem chI_two {w : World} {g : Nat} {a b : Sp} (h : w.heap[g]? = some (.cells #[.string (bs a.lo), .string (bs a.hi), .string (bs b.lo), .string (bs b.hi)] 60 (0, 0))) : ChI w w.heap.size (some ⟨g, 0, none⟩) 2 [a, b] :=
  ⟨Nat.le_refl _, by simp [maxLen], (fun e => by cases e), (RowG.block h (fun j u hu => by simpa [flatG, spCells] using hu)).wide (Nat.zero_le _) (lt_of_heap h)⟩
theorem chI_one {w : World} {g : Nat} {a : Sp} (h : w.heap[g]? = some (.cells #[.string (bs a.lo), .string (bs a.hi)] 60 (0, 0))) : ChI w w.heap.size (some ⟨g, 0, none⟩) 1 [a] :=
  ⟨Nat.le_refl _, by simp [maxLen], (fun e => by cases e), (RowG.one (cs := spCells) h).wide (Nat.zero_le _) (lt_of_heap h)⟩
theorem box_at {w W : World} {b : Nat} {x y : Value} {e : TypeId} (h : w.heap[b]? = some (.cells #[x, y] e (0, 0))) (hb : Below w.heap.size w W) : W.heap[b]? = some (.cells #[x, y] e (0, 0)) := heap_below h hb (lt_of_heap h)
theorem box_read {w : World} {b : Nat} {x y : Value} {e : TypeId} (h : w.heap[b]? = some (.cells #[x, y] e (0, 0))) : w.cell? ⟨b, 0, none⟩ = some x ∧ w.cell? ⟨b, 1, none⟩ = some y := ⟨cell_of_row _ _ 0 _ _ _ h, cell_of_row _ _ 1 _ _ _ h⟩
end Go.Proofs.Ytooegjdppeiccaa
