/-
  Stretches in memory: values, rows, slices of them.
-/
import Derived.Test.YtooegjdppeiccaaRow
import Derived.Test.YtooegjdppeiccaaIUni
import Derived.Test.YtooegjdppeiccaaBs
namespace Go.Proofs.Ytooegjdppeiccaa
open Go.RowKit

def spCells (s : Sp) : List Value := [.string (bs s.lo), .string (bs s.hi)]
theorem spF : Fixed 2 spCells := ⟨by decide, fun _ => rfl, fun x v hv => by
  simp only [spCells, List.mem_cons, List.not_mem_nil, or_false] at hv
  rcases hv with rfl | rfl <;> rfl⟩
def spVal (s : Sp) : Value := .agg #[.string (bs s.lo), .string (bs s.hi)]
theorem spInfo : InfoG Try.prog 60 2 32 := InfoG.of (by kernel_rfl)
/-- A slice of stretches that reads as l, below hi. -/
def ChI (w : World) (hi : Nat) (A : Option Addr) (c : Nat) (l : List Sp) : Prop := l.length ≤ c ∧ c ≤ maxLen ∧ (A = none → c = 0) ∧ RowG spCells w 0 hi A l
section
variable {w w' : World} {hi hi' B : Nat} {A : Option Addr} {c : Nat} {l : List Sp}
theorem ChI.below (h : ChI w hi A c l) (hb : Below B w w') (hB : hi ≤ B) (hh : hi ≤ hi') : ChI w' hi' A c l := ⟨h.1, h.2.1, h.2.2.1, (h.2.2.2.below hb hB).wide (Nat.le_refl _) hh⟩
theorem ChI.none_ (w : World) (hi : Nat) : ChI w hi none 0 [] := ⟨Nat.le_refl _, Nat.zero_le _, fun _ => rfl, RowG.nil_⟩
theorem ChI.at_ (h : ChI w hi A c l) {j : Nat} (hj : j < l.length) : ∃ b o, A = some ⟨b, o, none⟩ ∧ b < hi ∧ w.cell? ⟨b, o + j * 2, none⟩ = some (.string (bs (l[j]'hj).lo)) ∧ w.cell? ⟨b, o + j * 2 + 1, none⟩ = some (.string (bs (l[j]'hj).hi)) := by
  obtain ⟨b, o, e, _, hb, hc⟩ := h.2.2.2.at_ spF hj
  exact ⟨b, o, e, hb, by simpa using hc 0 _ rfl, hc 1 _ rfl⟩
theorem OwnG.chI {e : TypeId} {lo : Nat} {v : Value} (h : OwnG e 2 spCells w lo v l) : ∃ A c, v = .slice A l.length c ∧ ChI w w.heap.size A c l := by
  obtain ⟨A, c, rfl, k1, k2, k3, k4⟩ := h.form
  exact ⟨A, c, rfl, k1, k2, k3, k4.wide (Nat.zero_le _) (Nat.le_refl _)⟩
end
/-- A call told a slice that reads as m. -/
def RetI (m : List Sp) (w : World) (r : Ending) (w' : World) : Prop := ∃ A c, r = .returned (.slice A m.length c) ∧ ChI w' w'.heap.size A c m ∧ Below w.heap.size w w'
def sameI (a b : List Sp) : Bool := decide (a = b)
end Go.Proofs.Ytooegjdppeiccaa
