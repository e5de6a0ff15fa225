import Derived.Test.YtidomoibhjgkjaaDoorZC04
import Derived.OpenShut
import Derived.Test.YtidomoibhjgkjaaDoorZC35
import Derived.Lib.SmallJoins
import Derived.Deep.Slices
import Derived.Deep.Fields
import Derived.ChangeSame
import Derived.ShutString
import Derived.ChangeOld
/-
  Arguments that are slices of numbers, opened to what the walks ask of bytes; and Equal of the document's own answers.
-/
namespace Go.Proofs.YtidomoibhjgkjaaDoor
open Go.RowKit

/-- What is known of a slice of integers that came in: nil; or a row of cap cells, the first len of which are its elements. -/
def IsRow (k : IntKind) (w : World) (a : Option Addr) (len cap : Nat) (zs : List Int) : Prop :=
  (a = none ∧ len = 0 ∧ cap = 0 ∧ zs = []) ∨
  ∃ x, a = some x ∧ len ≤ cap ∧ cap ≤ maxLen ∧ zs.length = cap ∧ (∀ i, i < zs.length → w.cell? (x.add i) = some (.int k (zs.getD i 0))) ∧ ∀ n ∈ zs, (Lit.int k n).wf = true

theorem bytes_in {w : World} {a : Option Addr} {len cap : Nat} {zs : List Int} (h : IsRow .u8 w a len cap zs) :
    ∃ l : List UInt8, len = l.length ∧ len ≤ cap ∧ cap ≤ maxLen ∧ (a = none → cap = 0) ∧ Rd w 0 w.heap.size a l := by
  rcases h with ⟨rfl, rfl, rfl, rfl⟩ | ⟨x, rfl, h1, h2, h3, hc, hw⟩
  · exact ⟨[], rfl, Nat.le_refl _, Nat.zero_le _, fun _ => rfl, Rd.nil_⟩
  · refine ⟨(zs.take len).map fun n => UInt8.ofNat n.toNat, by rw [List.length_map, List.length_take]; omega, h1, h2, fun h => (by cases h), fun hp => ?_⟩
    rw [List.length_map, List.length_take] at hp
    obtain ⟨b, off, rfl, hc'⟩ := ints_at hc (by omega)
    refine ⟨b, off, rfl, Nat.zero_le _, World.block_lt_of_cell? w ⟨b, off + 0, none⟩ (hc' 0 (by omega)), fun j hj => ?_⟩
    rw [List.length_map, List.length_take] at hj
    have hjz : j < zs.length := by omega
    rw [hc' j hjz, List.getElem_map, List.getElem_take, List.getD_eq_getElem?_getD, List.getElem?_eq_getElem hjz]
    have hb := bounds_u8 (hw _ (List.getElem_mem hjz))
    have e : ((UInt8.ofNat (zs[j]).toNat).toNat : Int) = zs[j] := by rw [byte_nat _ (by omega)]; omega
    rw [e]
    rfl

/-- A slice at A holds the values vs. -/
def RowV (w : World) (hi : Nat) (A : Option Addr) (vs : List Value) : Prop :=
  0 < vs.length → ∃ b o, A = some ⟨b, o, none⟩ ∧ b < hi ∧ ∀ j (h : j < vs.length), w.cell? ⟨b, o + j, none⟩ = some (vs[j]'h)

theorem RowV.below {w w' : World} {hi B : Nat} {A : Option Addr} {vs : List Value} (h : RowV w hi A vs) (hb : Below B w w') (hB : hi ≤ B) : RowV w' hi A vs := fun hn => by
  obtain ⟨b, o, e, h1, hc⟩ := h hn
  exact ⟨b, o, e, h1, fun j hj => (hb.cell (p := ⟨b, o + j, none⟩) (Nat.lt_of_lt_of_le h1 hB)).trans (hc j hj)⟩

theorem RowV.at_ {w : World} {hi k : Nat} {A : Option Addr} {vs : List Value} (h : RowV w hi A vs) (hk : k < vs.length) : ∃ b o, A = some ⟨b, o, none⟩ ∧ w.cell? ⟨b, o + k, none⟩ = some (vs[k]'hk) := by
  obtain ⟨b, o, e, _, hc⟩ := h (by omega)
  exact ⟨b, o, e, hc k hk⟩

theorem nums_in {k : IntKind} {w : World} {a : Option Addr} {len cap : Nat} {zs : List Int} (h : IsRow k w a len cap zs) :
    ∃ l : List Int, len = l.length ∧ (∀ n ∈ l, (Lit.int k n).wf = true) ∧ len ≤ maxLen ∧ RowV w w.heap.size a (l.map (Value.int k)) := by
  rcases h with ⟨rfl, rfl, rfl, rfl⟩ | ⟨x, rfl, h1, h2, h3, hc, hw⟩
  · exact ⟨[], rfl, by simp, Nat.zero_le _, fun h => absurd h (by simp)⟩
  · refine ⟨zs.take len, by rw [List.length_take]; omega, fun n hn => hw n (List.mem_of_mem_take hn), by omega, fun hp => ?_⟩
    rw [List.length_map, List.length_take] at hp
    obtain ⟨b, off, rfl, hc'⟩ := ints_at hc (by omega)
    refine ⟨b, off, rfl, World.block_lt_of_cell? w ⟨b, off + 0, none⟩ (hc' 0 (by omega)), fun j hj => ?_⟩
    rw [List.length_map, List.length_take] at hj
    have hjz : j < zs.length := by omega
    rw [hc' j hjz, List.getElem_map, List.getElem_take, List.getD_eq_getElem?_getD, List.getElem?_eq_getElem hjz]
    rfl

/-- What is known of a slice of strings that came in. -/
def IsStrs (w : World) (a : Option Addr) (len cap : Nat) (ss : List ByteArray) : Prop :=
  (a = none ∧ len = 0 ∧ cap = 0 ∧ ss = []) ∨
  ∃ x, a = some x ∧ len ≤ cap ∧ cap ≤ maxLen ∧ ss.length = cap ∧ (∀ i, i < ss.length → w.cell? (x.add i) = some (.string (ss.getD i ByteArray.empty))) ∧ ∀ s ∈ ss, s.size ≤ maxLen

/-- The strings that are the slice's elements. -/
theorem strs_take {w : World} {a : Option Addr} {len cap : Nat} {ss : List ByteArray} {p : ByteArray → Prop} (h : IsStrs w a len cap ss) (hp : ∀ s ∈ ss.take len, p s) :
    ∃ l : List ByteArray, len = l.length ∧ (∀ s ∈ l, p s) ∧ RowV w w.heap.size a (l.map Value.string) := by
  rcases h with ⟨rfl, rfl, rfl, rfl⟩ | ⟨x, rfl, h1, h2, h3, hc, hw⟩
  · exact ⟨[], rfl, by simp, fun h => absurd h (by simp)⟩
  · refine ⟨ss.take len, by rw [List.length_take]; omega, hp, fun hp => ?_⟩
    rw [List.length_map, List.length_take] at hp
    have h0 := hc 0 (by omega)
    obtain ⟨b, off, spot⟩ := x
    have hspot : spot = none := by simpa [Addr.add] using World.cell?_spot h0
    subst hspot
    refine ⟨b, off, rfl, World.block_lt_of_cell? w _ h0, fun j hj => ?_⟩
    rw [List.length_map, List.length_take] at hj
    have hjz : j < ss.length := by omega
    have := hc j hjz
    rw [addr_add] at this
    rw [this, List.getElem_map, List.getElem_take, List.getD_eq_getElem?_getD, List.getElem?_eq_getElem hjz]
    rfl

theorem strs_in {w : World} {a : Option Addr} {len cap : Nat} {ss : List ByteArray} (h : IsStrs w a len cap ss) :
    ∃ l : List ByteArray, len = l.length ∧ (∀ s ∈ l, s.size ≤ maxLen) ∧ len ≤ maxLen ∧ RowV w w.heap.size a (l.map Value.string) := by
  have hs : ∀ s ∈ ss, s.size ≤ maxLen := by
    rcases h with ⟨_, _, _, rfl⟩ | ⟨_, _, _, _, _, _, hw⟩
    · simp
    · exact hw
  have hl : len ≤ maxLen := by
    rcases h with ⟨_, rfl, _, _⟩ | ⟨_, _, h1, h2, _⟩
    · exact Nat.zero_le _
    · omega
  obtain ⟨l, h1, h2, h3⟩ := strs_take h (p := fun s => s.size ≤ maxLen) (fun s hm => hs s (List.mem_of_mem_take hm))
  exact ⟨l, h1, h2, hl, h3⟩

end Go.Proofs.YtidomoibhjgkjaaDoor

/-
  Arguments of the statements on values, opened: values, variables, slices of variables, slices of bytes.
-/
namespace Go.Proofs.YtidomoibhjgkjaaDoor
open Go.Joins Go.ChangeShapes Go.WideShapes Go.ChangeAt Go.RowKit Go.Deep

theorem laidOut : laidOutB Tryd.prog = true := by kernel_rfl
theorem cellsValue : Tryd.prog.cellsOf 23 = 3 := by kernel_rfl
theorem cellsVar : Tryd.prog.cellsOf 41 = 4 := by kernel_rfl
theorem cellsInt : Tryd.prog.cellsOf 3 = 1 := by kernel_rfl
theorem cellsI64 : Tryd.prog.cellsOf 2 = 1 := by kernel_rfl
theorem cellsStr : Tryd.prog.cellsOf 9 = 1 := by kernel_rfl
theorem i64_bounds {a : Int} (h : (Lit.int .i64 a).wf = true) : -9223372036854775808 ≤ a ∧ a ≤ 9223372036854775807 := by
  simp [Lit.wf, IntKind.min, IntKind.max, IntKind.bits, IntKind.signed] at h
  omega

/-- What is known of a value that came in. -/
def ValIn (v : V) : Prop := -9223372036854775808 ≤ v.n ∧ v.n ≤ 9223372036854775807 ∧ v.s.size ≤ maxLen
section
variable {H : Type} {enc : TypeId × Value → H} {W : World}
theorem value_cells {fuel : Nat} {c0 c1 c2 : Value} {y : DataW H × List MemPlace} (h : DataW.trod enc Tryd.prog W 0 (fun _ => true) true fuel 23 [c0, c1, c2] = some y) :
    ∃ v : V, c0 = .int .i64 v.k ∧ c1 = .int .i64 v.n ∧ c2 = .string v.s ∧ ValIn v := by
  obtain ⟨xs, n, _, hx, _, hlen, hg⟩ := DataW.trod_struct Tryd.underlying23 h
  have g0 := hg 0 _ rfl
  have g1 := hg 1 _ rfl
  have g2 := hg 2 _ rfl
  match xs, hlen with
  | [y0, y1, y2], _ =>
    simp [cellsInt, cellsI64, cellsStr] at g0 g1 g2
    obtain ⟨k, e0, _, _⟩ := DataW.trod_int Tryd.underlying3 g0
    obtain ⟨m, e1, _, hm⟩ := DataW.trod_int Tryd.underlying2 g1
    obtain ⟨s, e2, _, hs⟩ := DataW.trod_string Tryd.underlying9 g2
    simp at e0 e1 e2
    obtain ⟨b0, b1⟩ := i64_bounds hm
    exact ⟨⟨k, m, s⟩, e0, e1, e2, b0, b1, hs⟩
set_option maxRecDepth 100000 in
theorem value_in {r : Reach} {b0 : Nat} {v : Value} {d : DataW H} {p : List MemPlace} (hv : Value.okWide Tryd.prog W r b0 23 v) (h : DataW.Trod enc Tryd.prog W 0 (fun _ => true) true 23 v d p) :
    ∃ x : V, v = .agg #[.int .i64 x.k, .int .i64 x.n, .string x.s] ∧ ValIn x := by
  obtain ⟨cs, rfl, hsz⟩ := okWide_struct Tryd.underlying23 hv
  obtain ⟨l⟩ := cs
  match l, hsz.trans cellsValue with
  | [c0, c1, c2], _ =>
    obtain ⟨fuel, hf⟩ := h
    obtain ⟨x, rfl, rfl, rfl, hx⟩ := value_cells (by simpa [Value.cells] using hf)
    exact ⟨x, rfl, hx⟩

/-- What is known of a variable that came in. -/
def VarIn (x : VN) : Prop := x.1.size ≤ maxLen ∧ ValIn x.2
theorem var_cells {fuel : Nat} {c0 c1 c2 c3 : Value} {y : DataW H × List MemPlace} (h : DataW.trod enc Tryd.prog W 0 (fun _ => true) true fuel 41 [c0, c1, c2, c3] = some y) :
    ∃ x : VN, c0 = .string x.1 ∧ c1 = .int .i64 x.2.k ∧ c2 = .int .i64 x.2.n ∧ c3 = .string x.2.s ∧ VarIn x := by
  obtain ⟨xs, n, _, hx, _, hlen, hg⟩ := DataW.trod_struct Tryd.underlying41 h
  have g0 := hg 0 _ rfl
  have g1 := hg 1 _ rfl
  match xs, hlen with
  | [y0, y1], _ =>
    simp [cellsStr, cellsValue] at g0 g1
    obtain ⟨nm, e0, _, hn⟩ := DataW.trod_string Tryd.underlying9 g0
    simp at e0
    obtain ⟨v, e1, e2, e3, hv⟩ := value_cells g1
    exact ⟨(nm, v), e0, e1, e2, e3, hn, hv⟩
set_option maxRecDepth 100000 in
theorem var_in {r : Reach} {b0 : Nat} {v : Value} {d : DataW H} {p : List MemPlace} (hv : Value.okWide Tryd.prog W r b0 41 v) (h : DataW.Trod enc Tryd.prog W 0 (fun _ => true) true 41 v d p) :
    ∃ x : VN, v = varVal x ∧ VarIn x := by
  obtain ⟨cs, rfl, hsz⟩ := okWide_struct Tryd.underlying41 hv
  obtain ⟨l⟩ := cs
  match l, hsz.trans cellsVar with
  | [c0, c1, c2, c3], _ =>
    obtain ⟨fuel, hf⟩ := h
    obtain ⟨x, rfl, rfl, rfl, rfl, hx⟩ := var_cells (by simpa [Value.cells] using hf)
    exact ⟨x, rfl, hx⟩

/-- What is known of a slice of variables that came in. -/
theorem vars_in {fuel : Nat} {v : Value} {y : DataW H × List MemPlace} (h : DataW.trod enc Tryd.prog W 0 (fun _ => true) true fuel 42 [v] = some y) :
    ∃ (A : Option Addr) (c : Nat) (l : List VN), v = .slice A l.length c ∧ l.length ≤ maxLen ∧ (∀ x ∈ l, VarIn x) ∧ l.length ≤ c ∧ c ≤ maxLen ∧ (A = none → c = 0) ∧ RowN W 0 W.heap.size A l := by
  rcases Go.Deep.open_slice Tryd.underlying42 h with ⟨hcs, _⟩ | ⟨a, len, cap, m, n, D, Pl, hcs, _, hl, hm, hmm, _, hel⟩
  · obtain rfl : v = .slice none 0 0 := by simpa using hcs
    exact ⟨none, 0, [], rfl, Nat.zero_le _, by simp, Nat.le_refl _, Nat.zero_le _, fun _ => rfl, fun h => absurd h (by simp)⟩
  · obtain rfl : v = .slice (some a) len cap := by simpa using hcs
    have hmc : m = cap := by simpa using hmm
    obtain ⟨b, o, spot⟩ := a
    have each : ∀ i, i < len → ∃ x : VN, VarIn x ∧ W.cell? ((⟨b, o, spot⟩ : Addr).add (i * 4)) = some (.string x.1) ∧ W.cell? ((⟨b, o, spot⟩ : Addr).add (i * 4 + 1)) = some (.int .i64 x.2.k) ∧ W.cell? ((⟨b, o, spot⟩ : Addr).add (i * 4 + 2)) = some (.int .i64 x.2.n) ∧ W.cell? ((⟨b, o, spot⟩ : Addr).add (i * 4 + 3)) = some (.string x.2.s) := fun i hi => by
      obtain ⟨cs', hc, ht⟩ := hel i (by omega)
      rw [cellsVar] at hc
      obtain ⟨_, hlen, hat⟩ := World.cells?_some hc
      match cs', hlen with
      | [c0, c1, c2, c3], _ =>
        obtain ⟨x, rfl, rfl, rfl, rfl, hx⟩ := var_cells ht
        have q0 := hat 0 (by omega)
        have q1 := hat 1 (by omega)
        have q2 := hat 2 (by omega)
        have q3 := hat 3 (by omega)
        rw [Go.Deep.add_add] at q0 q1 q2 q3
        exact ⟨x, hx, by simpa using q0, by simpa using q1, by simpa using q2, by simpa using q3⟩
    have hspot : 0 < len → spot = none := fun h0 => by
      obtain ⟨x, _, q0, _⟩ := each 0 h0
      simpa [Addr.add] using World.cell?_spot q0
    have hch : ∀ j : Nat, j ≤ len → ∃ l : List VN, l.length = j ∧ (∀ x ∈ l, VarIn x) ∧ ∀ i (h : i < l.length), W.cell? ((⟨b, o, spot⟩ : Addr).add (i * 4)) = some (.string (l[i]'h).1) ∧ W.cell? ((⟨b, o, spot⟩ : Addr).add (i * 4 + 1)) = some (.int .i64 (l[i]'h).2.k) ∧ W.cell? ((⟨b, o, spot⟩ : Addr).add (i * 4 + 2)) = some (.int .i64 (l[i]'h).2.n) ∧ W.cell? ((⟨b, o, spot⟩ : Addr).add (i * 4 + 3)) = some (.string (l[i]'h).2.s) := by
      intro j
      induction j with
      | zero => exact fun _ => ⟨[], rfl, by simp, fun i h => absurd h (by simp)⟩
      | succ j ih =>
        intro hj
        obtain ⟨l, e, hi, hcl⟩ := ih (by omega)
        obtain ⟨x, hx, q⟩ := each j (by omega)
        refine ⟨l ++ [x], by simp [e], ?_, fun i h => ?_⟩
        · intro y hy
          rcases List.mem_append.1 hy with hy | hy
          · exact hi y hy
          · simp at hy; subst hy; exact hx
        · by_cases hil : i < l.length
          · rw [List.getElem_append_left hil]
            exact hcl i hil
          · have : i = l.length := by simp at h; omega
            subst this
            rw [List.getElem_append_right (Nat.le_refl _)]
            simp only [Nat.sub_self, List.getElem_cons_zero]
            rw [e]
            exact q
    obtain ⟨l, e, hi, hcl⟩ := hch len (Nat.le_refl _)
    refine ⟨some ⟨b, o, spot⟩, cap, l, by rw [e], by omega, hi, by omega, hm, fun h => (by cases h), fun hp => ?_⟩
    have hs := hspot (by omega)
    subst hs
    have h0 := (hcl 0 hp).1
    refine ⟨b, o, rfl, Nat.zero_le _, ?_, fun j hj => ?_⟩
    · have := World.block_lt_of_cell? W _ h0
      simpa [addr_add] using this
    · have h := hcl j hj
      simp only [addr_add] at h
      exact ⟨h.1, by rw [Nat.add_assoc]; exact h.2.1, by rw [Nat.add_assoc]; exact h.2.2.1, by rw [Nat.add_assoc]; exact h.2.2.2⟩
end
end Go.Proofs.YtidomoibhjgkjaaDoor
