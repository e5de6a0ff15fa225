/-
  Arguments of the statements on values, opened: values, variables, slices of variables, slices of bytes.
-/
import Derived.Test.YtepniiaojhiogaaDoorVSets
import Derived.Test.YtepniiaojhiogaaDoorArgs
import Derived.Lib.SmallJoins
import Derived.Deep.Slices
import Derived.Deep.Fields
import Derived.ChangeSame
import Derived.OpenShut
import Derived.ShutString
import Derived.ChangeOld
namespace Go.Proofs.YtepniiaojhiogaaDoor
open Go.Joins Go.ChangeShapes Go.WideShapes Go.ChangeAt Go.RowKit Go.Deep

theorem laidOut : laidOutB Tryd.prog = true := by kernel_rfl
theorem cellsValue : Tryd.prog.cellsOf 23 = 3 := by kernel_rfl
theorem cellsVar : Tryd.prog.cellsOf 47 = 4 := by kernel_rfl
theorem cellsInt : Tryd.prog.cellsOf 3 = 1 := by kernel_rfl
theorem cellsI64 : Tryd.prog.cellsOf 2 = 1 := by kernel_rfl
theorem cellsStr : Tryd.prog.cellsOf 9 = 1 := by kernel_rfl
theorem i64_bounds {a : Int} (h : (Lit.int .i64 a).wf = true) : -9223372036854775808 ≤ a ∧ a ≤ 9223372036854775807 := by
  simp [Lit.wf, IntKind.min, IntKind.max, IntKind.bits, IntKind.signed] at h
  omega

/-- What is known of a value that came in. -/
def ValIn (v : V) : Prop := -9223372036854775808 ≤ v.n ∧ v.n ≤ 9223372036854775807 ∧ v.s.size ≤ maxLen
section
variable {H : Type} {enc : TypeId × Value → H} {W : World}
theorem value_cells {fuel : Nat} {c0 c1 c2 : Value} {y : DataW H × List MemPlace} (h : DataW.trod enc Tryd.prog W 0 (fun _ => true) true fuel 23 [c0, c1, c2] = some y) :
    ∃ v : V, c0 = .int .i64 v.k ∧ c1 = .int .i64 v.n ∧ c2 = .string v.s ∧ ValIn v := by
  obtain ⟨xs, n, _, hx, _, hlen, hg⟩ := DataW.trod_struct Tryd.underlying23 h
  have g0 := hg 0 _ rfl
  have g1 := hg 1 _ rfl
  have g2 := hg 2 _ rfl
  match xs, hlen with
  | [y0, y1, y2], _ =>
    simp [cellsInt, cellsI64, cellsStr] at g0 g1 g2
    obtain ⟨k, e0, _, _⟩ := DataW.trod_int Tryd.underlying3 g0
    obtain ⟨m, e1, _, hm⟩ := DataW.trod_int Tryd.underlying2 g1
    obtain ⟨s, e2, _, hs⟩ := DataW.trod_string Tryd.underlying9 g2
    simp at e0 e1 e2
    obtain ⟨b0, b1⟩ := i64_bounds hm
    exact ⟨⟨k, m, s⟩, e0, e1, e2, b0, b1, hs⟩
set_option maxRecDepth 100000 in
theorem value_in {r : Reach} {b0 : Nat} {v : Value} {d : DataW H} {p : List MemPlace} (hv : Value.okWide Tryd.prog W r b0 23 v) (h : DataW.Trod enc Tryd.prog W 0 (fun _ => true) true 23 v d p) :
    ∃ x : V, v = .agg #[.int .i64 x.k, .int .i64 x.n, .string x.s] ∧ ValIn x := by
  obtain ⟨cs, rfl, hsz⟩ := okWide_struct Tryd.underlying23 hv
  obtain ⟨l⟩ := cs
  match l, hsz.trans cellsValue with
  | [c0, c1, c2], _ =>
    obtain ⟨fuel, hf⟩ := h
    obtain ⟨x, rfl, rfl, rfl, hx⟩ := value_cells (by simpa [Value.cells] using hf)
    exact ⟨x, rfl, hx⟩

/-- What is known of a variable that came in. -/
def VarIn (x : VN) : Prop := x.1.size ≤ maxLen ∧ ValIn x.2
theorem var_cells {fuel : Nat} {c0 c1 c2 c3 : Value} {y : DataW H × List MemPlace} (h : DataW.trod enc Tryd.prog W 0 (fun _ => true) true fuel 47 [c0, c1, c2, c3] = some y) :
    ∃ x : VN, c0 = .string x.1 ∧ c1 = .int .i64 x.2.k ∧ c2 = .int .i64 x.2.n ∧ c3 = .string x.2.s ∧ VarIn x := by
  obtain ⟨xs, n, _, hx, _, hlen, hg⟩ := DataW.trod_struct Tryd.underlying47 h
  have g0 := hg 0 _ rfl
  have g1 := hg 1 _ rfl
  match xs, hlen with
  | [y0, y1], _ =>
    simp [cellsStr, cellsValue] at g0 g1
    obtain ⟨nm, e0, _, hn⟩ := DataW.trod_string Tryd.underlying9 g0
    simp at e0
    obtain ⟨v, e1, e2, e3, hv⟩ := value_cells g1
    exact ⟨(nm, v), e0, e1, e2, e3, hn, hv⟩
set_option maxRecDepth 100000 in
theorem var_in {r : Reach} {b0 : Nat} {v : Value} {d : DataW H} {p : List MemPlace} (hv : Value.okWide Tryd.prog W r b0 47 v) (h : DataW.Trod enc Tryd.prog W 0 (fun _ => true) true 47 v d p) :
    ∃ x : VN, v = varVal x ∧ VarIn x := by
  obtain ⟨cs, rfl, hsz⟩ := okWide_struct Tryd.underlying47 hv
  obtain ⟨l⟩ := cs
  match l, hsz.trans cellsVar with
  | [c0, c1, c2, c3], _ =>
    obtain ⟨fuel, hf⟩ := h
    obtain ⟨x, rfl, rfl, rfl, rfl, hx⟩ := var_cells (by simpa [Value.cells] using hf)
    exact ⟨x, rfl, hx⟩

/-- What is known of a slice of variables that came in. -/
theorem vars_in {fuel : Nat} {v : Value} {y : DataW H × List MemPlace} (h : DataW.trod enc Tryd.prog W 0 (fun _ => true) true fuel 45 [v] = some y) :
    ∃ (A : Option Addr) (c : Nat) (l : List VN), v = .slice A l.length c ∧ l.length ≤ maxLen ∧ (∀ x ∈ l, VarIn x) ∧ l.length ≤ c ∧ c ≤ maxLen ∧ (A = none → c = 0) ∧ RowN W 0 W.heap.size A l := by
  rcases Go.Deep.open_slice Tryd.underlying45 h with ⟨hcs, _⟩ | ⟨a, len, cap, m, n, D, Pl, hcs, _, hl, hm, hmm, _, hel⟩
  · obtain rfl : v = .slice none 0 0 := by simpa using hcs
    exact ⟨none, 0, [], rfl, Nat.zero_le _, by simp, Nat.le_refl _, Nat.zero_le _, fun _ => rfl, fun h => absurd h (by simp)⟩
  · obtain rfl : v = .slice (some a) len cap := by simpa using hcs
    have hmc : m = cap := by simpa using hmm
    obtain ⟨b, o, spot⟩ := a
    have each : ∀ i, i < len → ∃ x : VN, VarIn x ∧ W.cell? ((⟨b, o, spot⟩ : Addr).add (i * 4)) = some (.string x.1) ∧ W.cell? ((⟨b, o, spot⟩ : Addr).add (i * 4 + 1)) = some (.int .i64 x.2.k) ∧ W.cell? ((⟨b, o, spot⟩ : Addr).add (i * 4 + 2)) = some (.int .i64 x.2.n) ∧ W.cell? ((⟨b, o, spot⟩ : Addr).add (i * 4 + 3)) = some (.string x.2.s) := fun i hi => by
      obtain ⟨cs', hc, ht⟩ := hel i (by omega)
      rw [cellsVar] at hc
      obtain ⟨_, hlen, hat⟩ := World.cells?_some hc
      match cs', hlen with
      | [c0, c1, c2, c3], _ =>
        obtain ⟨x, rfl, rfl, rfl, rfl, hx⟩ := var_cells ht
        have q0 := hat 0 (by omega)
        have q1 := hat 1 (by omega)
        have q2 := hat 2 (by omega)
        have q3 := hat 3 (by omega)
        rw [Go.Deep.add_add] at q0 q1 q2 q3
        exact ⟨x, hx, by simpa using q0, by simpa using q1, by simpa using q2, by simpa using q3⟩
    have hspot : 0 < len → spot = none := fun h0 => by
      obtain ⟨x, _, q0, _⟩ := each 0 h0
      simpa [Addr.add] using World.cell?_spot q0
    have hch : ∀ j : Nat, j ≤ len → ∃ l : List VN, l.length = j ∧ (∀ x ∈ l, VarIn x) ∧ ∀ i (h : i < l.length), W.cell? ((⟨b, o, spot⟩ : Addr).add (i * 4)) = some (.string (l[i]'h).1) ∧ W.cell? ((⟨b, o, spot⟩ : Addr).add (i * 4 + 1)) = some (.int .i64 (l[i]'h).2.k) ∧ W.cell? ((⟨b, o, spot⟩ : Addr).add (i * 4 + 2)) = some (.int .i64 (l[i]'h).2.n) ∧ W.cell? ((⟨b, o, spot⟩ : Addr).add (i * 4 + 3)) = some (.string (l[i]'h).2.s) := by
      intro j
      induction j with
      | zero => exact fun _ => ⟨[], rfl, by simp, fun i h => absurd h (by simp)⟩
      | succ j ih =>
        intro hj
        obtain ⟨l, e, hi, hcl⟩ := ih (by omega)
        obtain ⟨x, hx, q⟩ := each j (by omega)
        refine ⟨l ++ [x], by simp [e], ?_, fun i h => ?_⟩
        · intro y hy
          rcases List.mem_append.1 hy with hy | hy
          · exact hi y hy
          · simp at hy; subst hy; exact hx
        · by_cases hil : i < l.length
          · rw [List.getElem_append_left hil]
            exact hcl i hil
          · have : i = l.length := by simp at h; omega
            subst this
            rw [List.getElem_append_right (Nat.le_refl _)]
            simp only [Nat.sub_self, List.getElem_cons_zero]
            rw [e]
            exact q
    obtain ⟨l, e, hi, hcl⟩ := hch len (Nat.le_refl _)
    refine ⟨some ⟨b, o, spot⟩, cap, l, by rw [e], by omega, hi, by omega, hm, fun h => (by cases h), fun hp => ?_⟩
    have hs := hspot (by omega)
    subst hs
    have h0 := (hcl 0 hp).1
    refine ⟨b, o, rfl, Nat.zero_le _, ?_, fun j hj => ?_⟩
    · have := World.block_lt_of_cell? W _ h0
      simpa [addr_add] using this
    · have h := hcl j hj
      simp only [addr_add] at h
      exact ⟨h.1, by rw [Nat.add_assoc]; exact h.2.1, by rw [Nat.add_assoc]; exact h.2.2.1, by rw [Nat.add_assoc]; exact h.2.2.2⟩
end
end Go.Proofs.YtepniiaojhiogaaDoor
