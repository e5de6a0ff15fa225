import Derived.Test.YtidomoibhjgkjaaGreatDoorZC35
import Derived.Test.YtidomoibhjgkjaaGreatDoorZC42
import Derived.Lib.SmallJoins
import Derived.Deep.Slices
import Derived.Deep.Fields
import Derived.ChangeSame
import Derived.OpenShut
import Derived.ShutString
import Derived.ChangeOld
import Derived.Test.YtidomoibhjgkjaaGreatDoorZC11
import Derived.Test.YtidomoibhjgkjaaGreatDoorZC37
import Derived.Test.YtidomoibhjgkjaaGreatDoorZC38
import Derived.Test.YtidomoibhjgkjaaGreatDoorZC06
import Derived.Test.YtidomoibhjgkjaaGreatDoorZC40
/-
  Arguments of the statements on values, opened: values, variables, slices of variables, slices of bytes.
-/
namespace Go.Proofs.YtidomoibhjgkjaaGreatDoor
open Go.Joins Go.ChangeShapes Go.WideShapes Go.ChangeAt Go.RowKit Go.Deep

theorem laidOut : laidOutB Tryz.prog = true := by kernel_rfl
theorem cellsValue : Tryz.prog.cellsOf 27 = 3 := by kernel_rfl
theorem cellsVar : Tryz.prog.cellsOf 67 = 4 := by kernel_rfl
theorem cellsInt : Tryz.prog.cellsOf 3 = 1 := by kernel_rfl
theorem cellsI64 : Tryz.prog.cellsOf 2 = 1 := by kernel_rfl
theorem cellsStr : Tryz.prog.cellsOf 9 = 1 := by kernel_rfl
theorem i64_bounds {a : Int} (h : (Lit.int .i64 a).wf = true) : -9223372036854775808 ≤ a ∧ a ≤ 9223372036854775807 := by
  simp [Lit.wf, IntKind.min, IntKind.max, IntKind.bits, IntKind.signed] at h
  omega

/-- What is known of a value that came in. -/
def ValIn (v : V) : Prop := -9223372036854775808 ≤ v.n ∧ v.n ≤ 9223372036854775807 ∧ v.s.size ≤ maxLen
section
variable {H : Type} {enc : TypeId × Value → H} {W : World}
theorem value_cells {fuel : Nat} {c0 c1 c2 : Value} {y : DataW H × List MemPlace} (h : DataW.trod enc Tryz.prog W 0 (fun _ => true) true fuel 27 [c0, c1, c2] = some y) :
    ∃ v : V, c0 = .int .i64 v.k ∧ c1 = .int .i64 v.n ∧ c2 = .string v.s ∧ ValIn v := by
  obtain ⟨xs, n, _, hx, _, hlen, hg⟩ := DataW.trod_struct Tryz.underlying27 h
  have g0 := hg 0 _ rfl
  have g1 := hg 1 _ rfl
  have g2 := hg 2 _ rfl
  match xs, hlen with
  | [y0, y1, y2], _ =>
    simp [cellsInt, cellsI64, cellsStr] at g0 g1 g2
    obtain ⟨k, e0, _, _⟩ := DataW.trod_int Tryz.underlying3 g0
    obtain ⟨m, e1, _, hm⟩ := DataW.trod_int Tryz.underlying2 g1
    obtain ⟨s, e2, _, hs⟩ := DataW.trod_string Tryz.underlying9 g2
    simp at e0 e1 e2
    obtain ⟨b0, b1⟩ := i64_bounds hm
    exact ⟨⟨k, m, s⟩, e0, e1, e2, b0, b1, hs⟩
set_option maxRecDepth 100000 in
theorem value_in {r : Reach} {b0 : Nat} {v : Value} {d : DataW H} {p : List MemPlace} (hv : Value.okWide Tryz.prog W r b0 27 v) (h : DataW.Trod enc Tryz.prog W 0 (fun _ => true) true 27 v d p) :
    ∃ x : V, v = .agg #[.int .i64 x.k, .int .i64 x.n, .string x.s] ∧ ValIn x := by
  obtain ⟨cs, rfl, hsz⟩ := okWide_struct Tryz.underlying27 hv
  obtain ⟨l⟩ := cs
  match l, hsz.trans cellsValue with
  | [c0, c1, c2], _ =>
    obtain ⟨fuel, hf⟩ := h
    obtain ⟨x, rfl, rfl, rfl, hx⟩ := value_cells (by simpa [Value.cells] using hf)
    exact ⟨x, rfl, hx⟩

/-- What is known of a variable that came in. -/
def VarIn (x : VN) : Prop := x.1.size ≤ maxLen ∧ ValIn x.2
theorem var_cells {fuel : Nat} {c0 c1 c2 c3 : Value} {y : DataW H × List MemPlace} (h : DataW.trod enc Tryz.prog W 0 (fun _ => true) true fuel 67 [c0, c1, c2, c3] = some y) :
    ∃ x : VN, c0 = .string x.1 ∧ c1 = .int .i64 x.2.k ∧ c2 = .int .i64 x.2.n ∧ c3 = .string x.2.s ∧ VarIn x := by
  obtain ⟨xs, n, _, hx, _, hlen, hg⟩ := DataW.trod_struct Tryz.underlying67 h
  have g0 := hg 0 _ rfl
  have g1 := hg 1 _ rfl
  match xs, hlen with
  | [y0, y1], _ =>
    simp [cellsStr, cellsValue] at g0 g1
    obtain ⟨nm, e0, _, hn⟩ := DataW.trod_string Tryz.underlying9 g0
    simp at e0
    obtain ⟨v, e1, e2, e3, hv⟩ := value_cells g1
    exact ⟨(nm, v), e0, e1, e2, e3, hn, hv⟩
set_option maxRecDepth 100000 in
theorem var_in {r : Reach} {b0 : Nat} {v : Value} {d : DataW H} {p : List MemPlace} (hv : Value.okWide Tryz.prog W r b0 67 v) (h : DataW.Trod enc Tryz.prog W 0 (fun _ => true) true 67 v d p) :
    ∃ x : VN, v = varVal x ∧ VarIn x := by
  obtain ⟨cs, rfl, hsz⟩ := okWide_struct Tryz.underlying67 hv
  obtain ⟨l⟩ := cs
  match l, hsz.trans cellsVar with
  | [c0, c1, c2, c3], _ =>
    obtain ⟨fuel, hf⟩ := h
    obtain ⟨x, rfl, rfl, rfl, rfl, hx⟩ := var_cells (by simpa [Value.cells] using hf)
    exact ⟨x, rfl, hx⟩

/-- What is known of a slice of variables that came in. -/
theorem vars_in {fuel : Nat} {v : Value} {y : DataW H × List MemPlace} (h : DataW.trod enc Tryz.prog W 0 (fun _ => true) true fuel 23 [v] = some y) :
    ∃ (A : Option Addr) (c : Nat) (l : List VN), v = .slice A l.length c ∧ l.length ≤ maxLen ∧ (∀ x ∈ l, VarIn x) ∧ l.length ≤ c ∧ c ≤ maxLen ∧ (A = none → c = 0) ∧ RowN W 0 W.heap.size A l := by
  rcases Go.Deep.open_slice Tryz.underlying23 h with ⟨hcs, _⟩ | ⟨a, len, cap, m, n, D, Pl, hcs, _, hl, hm, hmm, _, hel⟩
  · obtain rfl : v = .slice none 0 0 := by simpa using hcs
    exact ⟨none, 0, [], rfl, Nat.zero_le _, by simp, Nat.le_refl _, Nat.zero_le _, fun _ => rfl, fun h => absurd h (by simp)⟩
  · obtain rfl : v = .slice (some a) len cap := by simpa using hcs
    have hmc : m = cap := by simpa using hmm
    obtain ⟨b, o, spot⟩ := a
    have each : ∀ i, i < len → ∃ x : VN, VarIn x ∧ W.cell? ((⟨b, o, spot⟩ : Addr).add (i * 4)) = some (.string x.1) ∧ W.cell? ((⟨b, o, spot⟩ : Addr).add (i * 4 + 1)) = some (.int .i64 x.2.k) ∧ W.cell? ((⟨b, o, spot⟩ : Addr).add (i * 4 + 2)) = some (.int .i64 x.2.n) ∧ W.cell? ((⟨b, o, spot⟩ : Addr).add (i * 4 + 3)) = some (.string x.2.s) := fun i hi => by
      obtain ⟨cs', hc, ht⟩ := hel i (by omega)
      rw [cellsVar] at hc
      obtain ⟨_, hlen, hat⟩ := World.cells?_some hc
      match cs', hlen with
      | [c0, c1, c2, c3], _ =>
        obtain ⟨x, rfl, rfl, rfl, rfl, hx⟩ := var_cells ht
        have q0 := hat 0 (by omega)
        have q1 := hat 1 (by omega)
        have q2 := hat 2 (by omega)
        have q3 := hat 3 (by omega)
        rw [Go.Deep.add_add] at q0 q1 q2 q3
        exact ⟨x, hx, by simpa using q0, by simpa using q1, by simpa using q2, by simpa using q3⟩
    have hspot : 0 < len → spot = none := fun h0 => by
      obtain ⟨x, _, q0, _⟩ := each 0 h0
      simpa [Addr.add] using World.cell?_spot q0
    have hch : ∀ j : Nat, j ≤ len → ∃ l : List VN, l.length = j ∧ (∀ x ∈ l, VarIn x) ∧ ∀ i (h : i < l.length), W.cell? ((⟨b, o, spot⟩ : Addr).add (i * 4)) = some (.string (l[i]'h).1) ∧ W.cell? ((⟨b, o, spot⟩ : Addr).add (i * 4 + 1)) = some (.int .i64 (l[i]'h).2.k) ∧ W.cell? ((⟨b, o, spot⟩ : Addr).add (i * 4 + 2)) = some (.int .i64 (l[i]'h).2.n) ∧ W.cell? ((⟨b, o, spot⟩ : Addr).add (i * 4 + 3)) = some (.string (l[i]'h).2.s) := by
      intro j
      induction j with
      | zero => exact fun _ => ⟨[], rfl, by simp, fun i h => absurd h (by simp)⟩
      | succ j ih =>
        intro hj
        obtain ⟨l, e, hi, hcl⟩ := ih (by omega)
        obtain ⟨x, hx, q⟩ := each j (by omega)
        refine ⟨l ++ [x], by simp [e], ?_, fun i h => ?_⟩
        · intro y hy
          rcases List.mem_append.1 hy with hy | hy
          · exact hi y hy
          · simp at hy; subst hy; exact hx
        · by_cases hil : i < l.length
          · rw [List.getElem_append_left hil]
            exact hcl i hil
          · have : i = l.length := by simp at h; omega
            subst this
            rw [List.getElem_append_right (Nat.le_refl _)]
            simp only [Nat.sub_self, List.getElem_cons_zero]
            rw [e]
            exact q
    obtain ⟨l, e, hi, hcl⟩ := hch len (Nat.le_refl _)
    refine ⟨some ⟨b, o, spot⟩, cap, l, by rw [e], by omega, hi, by omega, hm, fun h => (by cases h), fun hp => ?_⟩
    have hs := hspot (by omega)
    subst hs
    have h0 := (hcl 0 hp).1
    refine ⟨b, o, rfl, Nat.zero_le _, ?_, fun j hj => ?_⟩
    · have := World.block_lt_of_cell? W _ h0
      simpa [addr_add] using this
    · have h := hcl j hj
      simp only [addr_add] at h
      exact ⟨h.1, by rw [Nat.add_assoc]; exact h.2.1, by rw [Nat.add_assoc]; exact h.2.2.1, by rw [Nat.add_assoc]; exact h.2.2.2⟩
end
end Go.Proofs.YtidomoibhjgkjaaGreatDoor

/-
  Arguments of the statements on expressions, opened: slices of terms.
-/
namespace Go.Proofs.YtidomoibhjgkjaaGreatDoor
open Go.Joins Go.ChangeShapes Go.WideShapes Go.ChangeAt Go.RowKit Go.Deep

theorem cellsTerm : Tryz.prog.cellsOf 47 = 5 := by kernel_rfl
/-- What is known of a term that came in. -/
def TermIn (x : TM) : Prop := ValIn x.v ∧ x.nm.size ≤ maxLen
section
variable {H : Type} {enc : TypeId × Value → H} {W : World}
theorem term_cells {fuel : Nat} {c0 c1 c2 c3 c4 : Value} {y : DataW H × List MemPlace} (h : DataW.trod enc Tryz.prog W 0 (fun _ => true) true fuel 47 [c0, c1, c2, c3, c4] = some y) :
    ∃ x : TM, c0 = .int .i64 x.op ∧ c1 = .int .i64 x.v.k ∧ c2 = .int .i64 x.v.n ∧ c3 = .string x.v.s ∧ c4 = .string x.nm ∧ TermIn x := by
  obtain ⟨xs, n, _, hx, _, hlen, hg⟩ := DataW.trod_struct Tryz.underlying47 h
  have g0 := hg 0 _ rfl
  have g1 := hg 1 _ rfl
  have g2 := hg 2 _ rfl
  match xs, hlen with
  | [y0, y1, y2], _ =>
    simp [cellsStr, cellsValue, cellsInt] at g0 g1 g2
    obtain ⟨op, e0, _, _⟩ := DataW.trod_int Tryz.underlying3 g0
    simp at e0
    obtain ⟨v, e1, e2, e3, hv⟩ := value_cells g1
    obtain ⟨m, e4, _, hm⟩ := DataW.trod_string Tryz.underlying9 g2
    simp at e4
    exact ⟨⟨op, v, m⟩, e0, e1, e2, e3, e4, hv, hm⟩

/-- What is known of a slice of terms that came in. -/
theorem terms_in {fuel : Nat} {v : Value} {y : DataW H × List MemPlace} (h : DataW.trod enc Tryz.prog W 0 (fun _ => true) true fuel 22 [v] = some y) :
    ∃ (A : Option Addr) (c : Nat) (l : List TM), v = .slice A l.length c ∧ l.length ≤ maxLen ∧ (∀ x ∈ l, TermIn x) ∧ RowT W 0 W.heap.size A l := by
  rcases Go.Deep.open_slice Tryz.underlying22 h with ⟨hcs, _⟩ | ⟨a, len, cap, m, n, D, Pl, hcs, _, hl, hm, hmm, _, hel⟩
  · obtain rfl : v = .slice none 0 0 := by simpa using hcs
    exact ⟨none, 0, [], rfl, Nat.zero_le _, by simp, fun h => absurd h (by simp)⟩
  · obtain rfl : v = .slice (some a) len cap := by simpa using hcs
    have hmc : m = cap := by simpa using hmm
    obtain ⟨b, o, spot⟩ := a
    have each : ∀ i, i < len → ∃ x : TM, TermIn x ∧ W.cell? ((⟨b, o, spot⟩ : Addr).add (i * 5)) = some (.int .i64 x.op) ∧ W.cell? ((⟨b, o, spot⟩ : Addr).add (i * 5 + 1)) = some (.int .i64 x.v.k) ∧ W.cell? ((⟨b, o, spot⟩ : Addr).add (i * 5 + 2)) = some (.int .i64 x.v.n) ∧ W.cell? ((⟨b, o, spot⟩ : Addr).add (i * 5 + 3)) = some (.string x.v.s) ∧ W.cell? ((⟨b, o, spot⟩ : Addr).add (i * 5 + 4)) = some (.string x.nm) := fun i hi => by
      obtain ⟨cs', hc, ht⟩ := hel i (by omega)
      rw [cellsTerm] at hc
      obtain ⟨_, hlen, hat⟩ := World.cells?_some hc
      match cs', hlen with
      | [c0, c1, c2, c3, c4], _ =>
        obtain ⟨x, rfl, rfl, rfl, rfl, rfl, hx⟩ := term_cells ht
        have q0 := hat 0 (by omega)
        have q1 := hat 1 (by omega)
        have q2 := hat 2 (by omega)
        have q3 := hat 3 (by omega)
        have q4 := hat 4 (by omega)
        rw [Go.Deep.add_add] at q0 q1 q2 q3 q4
        exact ⟨x, hx, by simpa using q0, by simpa using q1, by simpa using q2, by simpa using q3, by simpa using q4⟩
    have hspot : 0 < len → spot = none := fun h0 => by
      obtain ⟨x, _, q0, _⟩ := each 0 h0
      simpa [Addr.add] using World.cell?_spot q0
    have hch : ∀ j : Nat, j ≤ len → ∃ l : List TM, l.length = j ∧ (∀ x ∈ l, TermIn x) ∧ ∀ i (h : i < l.length), W.cell? ((⟨b, o, spot⟩ : Addr).add (i * 5)) = some (.int .i64 (l[i]'h).op) ∧ W.cell? ((⟨b, o, spot⟩ : Addr).add (i * 5 + 1)) = some (.int .i64 (l[i]'h).v.k) ∧ W.cell? ((⟨b, o, spot⟩ : Addr).add (i * 5 + 2)) = some (.int .i64 (l[i]'h).v.n) ∧ W.cell? ((⟨b, o, spot⟩ : Addr).add (i * 5 + 3)) = some (.string (l[i]'h).v.s) ∧ W.cell? ((⟨b, o, spot⟩ : Addr).add (i * 5 + 4)) = some (.string (l[i]'h).nm) := by
      intro j
      induction j with
      | zero => exact fun _ => ⟨[], rfl, by simp, fun i h => absurd h (by simp)⟩
      | succ j ih =>
        intro hj
        obtain ⟨l, e, hi, hcl⟩ := ih (by omega)
        obtain ⟨x, hx, q⟩ := each j (by omega)
        refine ⟨l ++ [x], by simp [e], ?_, fun i h => ?_⟩
        · intro y hy
          rcases List.mem_append.1 hy with hy | hy
          · exact hi y hy
          · simp at hy; subst hy; exact hx
        · by_cases hil : i < l.length
          · rw [List.getElem_append_left hil]
            exact hcl i hil
          · have : i = l.length := by simp at h; omega
            subst this
            rw [List.getElem_append_right (Nat.le_refl _)]
            simp only [Nat.sub_self, List.getElem_cons_zero]
            rw [e]
            exact q
    obtain ⟨l, e, hi, hcl⟩ := hch len (Nat.le_refl _)
    refine ⟨some ⟨b, o, spot⟩, cap, l, by rw [e], by omega, hi, fun hp => ?_⟩
    have hs := hspot (by omega)
    subst hs
    have h0 := (hcl 0 hp).1
    refine ⟨b, o, rfl, Nat.zero_le _, ?_, fun j hj => ?_⟩
    · have := World.block_lt_of_cell? W _ h0
      simpa [addr_add] using this
    · have h := hcl j hj
      simp only [addr_add] at h
      exact ⟨h.1, by rw [Nat.add_assoc]; exact h.2.1, by rw [Nat.add_assoc]; exact h.2.2.1, by rw [Nat.add_assoc]; exact h.2.2.2.1, by rw [Nat.add_assoc]; exact h.2.2.2.2⟩
end
end Go.Proofs.YtidomoibhjgkjaaGreatDoor

/-
  What the statements on what expressions come to call: Of, the errors, Check, of what came in.
-/
namespace Go.Proofs.YtidomoibhjgkjaaGreatDoor
open Go.RowKit

theorem refName6_any : RefNameC := fun s w hs => (refName_any s w hs).mono fun _ _ h => h
theorem gOfG (l : List TM) (A : Option Addr) (c : Nat) (vs : List VN) (A2 : Option Addr) (c2 : Nat) (fuel : Int) (w : World) (hl : TermsOk w l A) (hv : VarsOk w vs A2 c2) (hf : fuel ≤ 9223372036854775807) (hf0 : -9223372036854775808 ≤ fuel) (hG : GlobW w)
    {k n xc : Int} {s : ByteArray} {xn F : Nat} {xp : List ByteArray} (hF : fuel.toNat = F) (hX : ofG (getL vs) l F = (⟨k, n, s⟩, xn, xc, xp)) :
    Calls Tryz.prog 11 #[.slice A l.length c, .slice A2 vs.length c2, .int .i64 fuel] w fun r w' => ∃ u, r = .returned (.tuple #[.agg #[.int .i64 k, .int .i64 n, .string s], .int .i64 (xn : Int), u]) ∧ Below w.heap.size w w' ∧ ErrO w' (erOf xc xp) u := by
  refine (gOf_any l A c vs A2 c2 fuel w hl hv hf hf0 hG).mono ?_
  rintro r w' ⟨k', n', s', u, rfl, hx, hb, hu⟩
  rw [of_of, hF, hX] at hx hu
  injection hx with a1 a2 a3
  subst a1 a2 a3
  rw [of_of, hF, hX]
  exact ⟨u, rfl, hb, hu⟩
theorem ofG_le (get : ByteArray → Option V) (e : List TM) (f : Nat) : (ofG get e f).2.1 ≤ f := by
  by_cases h : checkL e = 0
  · rw [ofG_right get h]
    have h2 := fuel_le get e [] f
    cases hr : runG get e [] f with
    | mk x m =>
      rw [hr] at h2
      cases x with
      | inl st => exact h2
      | inr ep => exact h2
  · unfold ofG
    rw [if_pos h]
    exact Nat.le_refl _
theorem codeE_from {c : Int} {p : List ByteArray} {u : Value} {w : World} (h : ErrO w (erOf c p) u) (hG : GlobW w) (W : World) (hb : Below w.heap.size w W) : Calls Tryz.prog 13 #[u] W fun r w' => r = .returned (.int .i64 c) ∧ Below w.heap.size w w' := by
  have h2 := codeO_from _ u w W h hG hb
  rw [codeO_er] at h2
  exact h2
theorem isE_from {c : Int} {p : List ByteArray} {u : Value} {w : World} (h : ErrO w (erOf c p) u) (hG : GlobW w) (d : Int) (W : World) (hb : Below w.heap.size w W) : Calls Tryz.prog 25 #[u, .int .i64 d] W fun r w' => r = .returned (.bool (c == d)) ∧ Below w.heap.size w w' := by
  refine (isO_any _ u d W (h.below hb) (hG.below hb hG.big)).mono ?_
  rintro r w' ⟨rfl, h⟩
  rw [codeO_er]
  exact ⟨rfl, hb.trans (h.mono hb.size)⟩
theorem ErrO.zero {w : World} {p : List ByteArray} {u : Value} (h : ErrO w (erOf 0 p) u) : u = .nilIface := h
theorem ErrO.some' {w : World} {c : Int} {p : List ByteArray} {u : Value} (h : ErrO w (erOf c p) u) (hc : c ≠ 0) : ∃ T y, u = .iface T y := by
  unfold erOf at h
  rw [if_neg hc] at h
  exact h.iface
/-- What few says of what came in. -/
theorem few_terms {w : World} {l : List TM} {vs : List VN} {A : Option Addr} (h : few6 l vs = true) (hn : ∀ x ∈ l, TermIn x) (hr : RowT w 0 w.heap.size A l) : TermsOk w l A :=
  ⟨by have := (few6_yes h).2.2.1; omega, fun t ht => ⟨((few6_yes h).1 t ht).1, ⟨⟨(hn t ht).1.1, (hn t ht).1.2.1⟩, by have := ((few6_yes h).1 t ht).2; omega⟩⟩, hr⟩
theorem few_vars {w : World} {l : List TM} {vs : List VN} {A : Option Addr} {c : Nat} (h : few6 l vs = true) (hn : ∀ x ∈ vs, VarIn x) (hc : vs.length ≤ c) (hm : c ≤ maxLen) (h0 : A = none → c = 0) (hr : RowN w 0 w.heap.size A vs) : VarsOk w vs A c :=
  ⟨⟨by have := (few6_yes h).2.2.2; omega, (few6_yes h).2.1⟩, fun x hx => ⟨⟨(hn x hx).2.1, (hn x hx).2.2.1⟩, by have := ((few6_yes h).2.1 x hx).2; omega⟩, hc, hm, h0, hr⟩
theorem check_few {w : World} {l : List TM} {A : Option Addr} (c : Nat) (h : TermsOk w l A) : Calls Tryz.prog 20 #[.slice A l.length c] w fun r w' => r = .returned (.int .i64 (checkL l)) ∧ Below w.heap.size w w' :=
  check_any refName6_any refPrint4_any l A c (fun x hx => (h.ok x hx).1) (by have := h.len; omega) (small_any fun x hx => ⟨(h.ok x hx).1, (h.ok x hx).2.1⟩) w h.row
end Go.Proofs.YtidomoibhjgkjaaGreatDoor
