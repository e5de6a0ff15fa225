/-
  Arguments that are slices of numbers, opened to what the walks ask of bytes; and Equal of the document's own answers.
-/
import Derived.Test.YtnfmgcgjinonnaaLive
import Derived.OpenShut
namespace Go.Proofs.Ytnfmgcgjinonnaa
open Go.RowKit

/-- What is known of a slice of integers that came in: nil; or a row of cap cells, the first len of which are its elements. -/
def IsRow (k : IntKind) (w : World) (a : Option Addr) (len cap : Nat) (zs : List Int) : Prop :=
  (a = none ∧ len = 0 ∧ cap = 0 ∧ zs = []) ∨
  ∃ x, a = some x ∧ len ≤ cap ∧ cap ≤ maxLen ∧ zs.length = cap ∧ (∀ i, i < zs.length → w.cell? (x.add i) = some (.int k (zs.getD i 0))) ∧ ∀ n ∈ zs, (Lit.int k n).wf = true

theorem bytes_in {w : World} {a : Option Addr} {len cap : Nat} {zs : List Int} (h : IsRow .u8 w a len cap zs) :
    ∃ l : List UInt8, len = l.length ∧ len ≤ cap ∧ cap ≤ maxLen ∧ (a = none → cap = 0) ∧ Rd w 0 w.heap.size a l := by
  rcases h with ⟨rfl, rfl, rfl, rfl⟩ | ⟨x, rfl, h1, h2, h3, hc, hw⟩
  · exact ⟨[], rfl, Nat.le_refl _, Nat.zero_le _, fun _ => rfl, Rd.nil_⟩
  · refine ⟨(zs.take len).map fun n => UInt8.ofNat n.toNat, by rw [List.length_map, List.length_take]; omega, h1, h2, fun h => (by cases h), fun hp => ?_⟩
    rw [List.length_map, List.length_take] at hp
    obtain ⟨b, off, rfl, hc'⟩ := ints_at hc (by omega)
    refine ⟨b, off, rfl, Nat.zero_le _, World.block_lt_of_cell? w ⟨b, off + 0, none⟩ (hc' 0 (by omega)), fun j hj => ?_⟩
    rw [List.length_map, List.length_take] at hj
    have hjz : j < zs.length := by omega
    rw [hc' j hjz, List.getElem_map, List.getElem_take, List.getD_eq_getElem?_getD, List.getElem?_eq_getElem hjz]
    have hb := bounds_u8 (hw _ (List.getElem_mem hjz))
    have e : ((UInt8.ofNat (zs[j]).toNat).toNat : Int) = zs[j] := by rw [byte_nat _ (by omega)]; omega
    rw [e]
    rfl

/-- A slice at A holds the values vs. -/
def RowV (w : World) (hi : Nat) (A : Option Addr) (vs : List Value) : Prop :=
  0 < vs.length → ∃ b o, A = some ⟨b, o, none⟩ ∧ b < hi ∧ ∀ j (h : j < vs.length), w.cell? ⟨b, o + j, none⟩ = some (vs[j]'h)

theorem RowV.below {w w' : World} {hi B : Nat} {A : Option Addr} {vs : List Value} (h : RowV w hi A vs) (hb : Below B w w') (hB : hi ≤ B) : RowV w' hi A vs := fun hn => by
  obtain ⟨b, o, e, h1, hc⟩ := h hn
  exact ⟨b, o, e, h1, fun j hj => (hb.cell (p := ⟨b, o + j, none⟩) (Nat.lt_of_lt_of_le h1 hB)).trans (hc j hj)⟩

theorem RowV.at_ {w : World} {hi k : Nat} {A : Option Addr} {vs : List Value} (h : RowV w hi A vs) (hk : k < vs.length) : ∃ b o, A = some ⟨b, o, none⟩ ∧ w.cell? ⟨b, o + k, none⟩ = some (vs[k]'hk) := by
  obtain ⟨b, o, e, _, hc⟩ := h (by omega)
  exact ⟨b, o, e, hc k hk⟩

theorem nums_in {k : IntKind} {w : World} {a : Option Addr} {len cap : Nat} {zs : List Int} (h : IsRow k w a len cap zs) :
    ∃ l : List Int, len = l.length ∧ (∀ n ∈ l, (Lit.int k n).wf = true) ∧ len ≤ maxLen ∧ RowV w w.heap.size a (l.map (Value.int k)) := by
  rcases h with ⟨rfl, rfl, rfl, rfl⟩ | ⟨x, rfl, h1, h2, h3, hc, hw⟩
  · exact ⟨[], rfl, by simp, Nat.zero_le _, fun h => absurd h (by simp)⟩
  · refine ⟨zs.take len, by rw [List.length_take]; omega, fun n hn => hw n (List.mem_of_mem_take hn), by omega, fun hp => ?_⟩
    rw [List.length_map, List.length_take] at hp
    obtain ⟨b, off, rfl, hc'⟩ := ints_at hc (by omega)
    refine ⟨b, off, rfl, World.block_lt_of_cell? w ⟨b, off + 0, none⟩ (hc' 0 (by omega)), fun j hj => ?_⟩
    rw [List.length_map, List.length_take] at hj
    have hjz : j < zs.length := by omega
    rw [hc' j hjz, List.getElem_map, List.getElem_take, List.getD_eq_getElem?_getD, List.getElem?_eq_getElem hjz]
    rfl

/-- What is known of a slice of strings that came in. -/
def IsStrs (w : World) (a : Option Addr) (len cap : Nat) (ss : List ByteArray) : Prop :=
  (a = none ∧ len = 0 ∧ cap = 0 ∧ ss = []) ∨
  ∃ x, a = some x ∧ len ≤ cap ∧ cap ≤ maxLen ∧ ss.length = cap ∧ (∀ i, i < ss.length → w.cell? (x.add i) = some (.string (ss.getD i ByteArray.empty))) ∧ ∀ s ∈ ss, s.size ≤ maxLen

/-- The strings that are the slice's elements. -/
theorem strs_take {w : World} {a : Option Addr} {len cap : Nat} {ss : List ByteArray} {p : ByteArray → Prop} (h : IsStrs w a len cap ss) (hp : ∀ s ∈ ss.take len, p s) :
    ∃ l : List ByteArray, len = l.length ∧ (∀ s ∈ l, p s) ∧ RowV w w.heap.size a (l.map Value.string) := by
  rcases h with ⟨rfl, rfl, rfl, rfl⟩ | ⟨x, rfl, h1, h2, h3, hc, hw⟩
  · exact ⟨[], rfl, by simp, fun h => absurd h (by simp)⟩
  · refine ⟨ss.take len, by rw [List.length_take]; omega, hp, fun hp => ?_⟩
    rw [List.length_map, List.length_take] at hp
    have h0 := hc 0 (by omega)
    obtain ⟨b, off, spot⟩ := x
    have hspot : spot = none := by simpa [Addr.add] using World.cell?_spot h0
    subst hspot
    refine ⟨b, off, rfl, World.block_lt_of_cell? w _ h0, fun j hj => ?_⟩
    rw [List.length_map, List.length_take] at hj
    have hjz : j < ss.length := by omega
    have := hc j hjz
    rw [addr_add] at this
    rw [this, List.getElem_map, List.getElem_take, List.getD_eq_getElem?_getD, List.getElem?_eq_getElem hjz]
    rfl

theorem strs_in {w : World} {a : Option Addr} {len cap : Nat} {ss : List ByteArray} (h : IsStrs w a len cap ss) :
    ∃ l : List ByteArray, len = l.length ∧ (∀ s ∈ l, s.size ≤ maxLen) ∧ len ≤ maxLen ∧ RowV w w.heap.size a (l.map Value.string) := by
  have hs : ∀ s ∈ ss, s.size ≤ maxLen := by
    rcases h with ⟨_, _, _, rfl⟩ | ⟨_, _, _, _, _, _, hw⟩
    · simp
    · exact hw
  have hl : len ≤ maxLen := by
    rcases h with ⟨_, rfl, _, _⟩ | ⟨_, _, h1, h2, _⟩
    · exact Nat.zero_le _
    · omega
  obtain ⟨l, h1, h2, h3⟩ := strs_take h (p := fun s => s.size ≤ maxLen) (fun s hm => hs s (List.mem_of_mem_take hm))
  exact ⟨l, h1, h2, hl, h3⟩

/-- Equal of two slices of bytes. -/
theorem equal_any (A1 A2 : Option Addr) (c1 c2 n1 n2 lo1 hi1 lo2 hi2 : Nat) (l1 l2 : List UInt8) (w : World) (e1 : n1 = l1.length) (e2 : n2 = l2.length) (h1 : Rd w lo1 hi1 A1 l1) (h2 : Rd w lo2 hi2 A2 l2) :
    Calls Try.prog 23 #[.slice A1 n1 c1, .slice A2 n2 c2] w fun e w' => e = .returned (.bool (l1 == l2)) ∧ w = w' := by
  have k1 := conv_ret (c := c1) e1 h1
  have k2 := conv_ret (c := c2) e2 h2
  clear h1 h2 e1 e2
  go_enter Try.func23, Try.ntmps23
  go_wp2
  go_ret
  exact ⟨rfl, rfl⟩

theorem equal_same (A1 A2 : Option Addr) (c1 c2 n1 n2 lo1 hi1 lo2 hi2 : Nat) (l : List UInt8) (w : World) (e1 : n1 = l.length) (e2 : n2 = l.length) (h1 : Rd w lo1 hi1 A1 l) (h2 : Rd w lo2 hi2 A2 l) :
    Calls Try.prog 23 #[.slice A1 n1 c1, .slice A2 n2 c2] w fun e w' => e = .returned (.bool true) ∧ w = w' := by
  have := equal_any A1 A2 c1 c2 n1 n2 lo1 hi1 lo2 hi2 l l w e1 e2 h1 h2
  rwa [beq_self_eq_true] at this

end Go.Proofs.Ytnfmgcgjinonnaa
