/-
  Chains in memory: slices of versions that read as a list of them.
-/
import Derived.Test.YtnfmgcgjinonnaaRow
import Derived.Test.YtnfmgcgjinonnaaHPlain
namespace Go.Proofs.Ytnfmgcgjinonnaa
open Go.RowKit

/-- A version, and where its bytes lie. -/
structure MV where
  v : Ver
  A : Option Addr
  c : Nat
def mvCells (x : MV) : List Value := [.int .u64 x.v.tm, .bool x.v.gone, .slice x.A x.v.dat.length x.c]
theorem mvF : Fixed 3 mvCells := ⟨by decide, fun _ => rfl, fun x v hv => by
  simp only [mvCells, List.mem_cons, List.not_mem_nil, or_false] at hv
  rcases hv with rfl | rfl | rfl <;> rfl⟩
/-- A slice of bytes reads as l; of nil there is no room. -/
def Sl (w : World) (hi : Nat) (A : Option Addr) (c : Nat) (l : List UInt8) : Prop := l.length ≤ c ∧ c ≤ maxLen ∧ (A = none → c = 0) ∧ Rd w 0 hi A l
def OkMV (w : World) (hi : Nat) (x : MV) : Prop := x.v.tm < 18446744073709551616 ∧ Sl w hi x.A x.c x.v.dat
/-- A slice at A reads as the versions l, all below hi. -/
def RowH (w : World) (hi : Nat) (A : Option Addr) (l : List Ver) : Prop := ∃ ms : List MV, ms.map MV.v = l ∧ RowG mvCells w 0 hi A ms ∧ ∀ x ∈ ms, OkMV w hi x

section
variable {w w' : World} {hi hi' B : Nat} {A : Option Addr} {l : List Ver}
theorem Sl.below {c : Nat} {d : List UInt8} (h : Sl w hi A c d) (hb : Below B w w') (hB : hi ≤ B) (hh : hi ≤ hi') : Sl w' hi' A c d := ⟨h.1, h.2.1, h.2.2.1, (h.2.2.2.below hb hB).wide (Nat.le_refl _) hh⟩
theorem Sl.none_ (w : World) (hi : Nat) : Sl w hi none 0 [] := ⟨Nat.le_refl _, Nat.zero_le _, fun _ => rfl, Rd.nil_⟩
theorem OkMV.below {x : MV} (h : OkMV w hi x) (hb : Below B w w') (hB : hi ≤ B) (hh : hi ≤ hi') : OkMV w' hi' x := ⟨h.1, h.2.below hb hB hh⟩
theorem RowH.below (h : RowH w hi A l) (hb : Below B w w') (hB : hi ≤ B) (hh : hi ≤ hi') : RowH w' hi' A l := by
  obtain ⟨ms, e, h1, h2⟩ := h
  exact ⟨ms, e, (h1.below hb hB).wide (Nat.le_refl _) hh, fun x hx => (h2 x hx).below hb hB hh⟩
theorem RowH.nil_ (w : World) (hi : Nat) (A : Option Addr) : RowH w hi A [] := ⟨[], rfl, RowG.nil_, by simp⟩
theorem RowH.at_ (h : RowH w hi A l) {j : Nat} (hj : j < l.length) :
    ∃ b o A' c', A = some ⟨b, o, none⟩ ∧ b < hi ∧ w.cell? ⟨b, o + j * 3, none⟩ = some (.int .u64 (l[j]'hj).tm) ∧ w.cell? ⟨b, o + j * 3 + 1, none⟩ = some (.bool (l[j]'hj).gone) ∧ w.cell? ⟨b, o + j * 3 + 2, none⟩ = some (.slice A' (l[j]'hj).dat.length c') ∧
      Sl w hi A' c' (l[j]'hj).dat ∧ (l[j]'hj).tm < 18446744073709551616 := by
  obtain ⟨ms, rfl, h1, h2⟩ := h
  have hj' : j < ms.length := by simpa using hj
  obtain ⟨b, o, e, _, hb, hc⟩ := h1.at_ mvF hj'
  obtain ⟨k1, k2⟩ := h2 _ (List.getElem_mem hj')
  refine ⟨b, o, ms[j].A, ms[j].c, e, hb, ?_, ?_, ?_, by simpa using k2, by simpa using k1⟩
  · have := hc 0 _ rfl
    simpa using this
  · have := hc 1 _ rfl
    simpa using this
  · have := hc 2 _ rfl
    simpa using this
theorem RowH.tm (h : RowH w hi A l) : ∀ x ∈ l, x.tm < 18446744073709551616 := by
  obtain ⟨ms, rfl, _, h2⟩ := h
  intro x hx
  obtain ⟨y, hy, rfl⟩ := List.mem_map.1 hx
  exact (h2 y hy).1
theorem RowH.some_ (h : RowH w hi A l) (hn : 0 < l.length) : ∃ b o, A = some ⟨b, o, none⟩ ∧ b < hi := by
  obtain ⟨ms, rfl, h1, _⟩ := h
  obtain ⟨b, o, e, _, hb⟩ := h1.some_ (by simpa using hn)
  exact ⟨b, o, e, hb⟩
end
theorem mvInfo : InfoG Try.prog 30 3 40 := InfoG.of (by kernel_rfl)
instance : DecidableEq Ver := fun a b => decidable_of_iff (a.tm = b.tm ∧ a.gone = b.gone ∧ a.dat = b.dat) (by cases a; cases b; simp)
/-- The same, version by version. -/
def sameH (a b : List Ver) : Bool := decide (a = b)
def verVal (v : Ver) (A : Option Addr) (c : Nat) : Value := .agg #[.int .u64 v.tm, .bool v.gone, .slice A v.dat.length c]
def Ver0 : Ver := ⟨0, false, []⟩
end Go.Proofs.Ytnfmgcgjinonnaa
