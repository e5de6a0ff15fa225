import Derived.Test.YtfdiidhilonkoaaRows
import Derived.WalkKit
import Derived.Lib.Hide
import Derived.Laws.IdiomStrings
import Derived.Laws.AppendOwnNone
import Derived.Deep.Draws
set_option linter.unusedVariables false
/-
  Bytes as lists, and where a slice of bytes lies in memory: plain words for all walks over package pack. No Go function is named here.
-/
namespace Go.Proofs.Ytfdiidhilonkoaa
open Go.RowKit

/-- The cells of a list of bytes. -/
def bvs (l : List UInt8) : List Value := l.map fun b => Value.int .u8 (b.toNat : Int)

theorem bvs_length (l : List UInt8) : (bvs l).length = l.length := by simp [bvs]
theorem bvs_append (a b : List UInt8) : bvs (a ++ b) = bvs a ++ bvs b := by simp [bvs]
theorem bvs_one (l : List UInt8) : ∀ u ∈ bvs l, u.oneCell' = true := by
  intro u hu
  simp only [bvs, List.mem_map] at hu
  obtain ⟨b, _, rfl⟩ := hu
  rfl
theorem bvs_at (l : List UInt8) (j : Nat) (u : Value) (h : (bvs l)[j]? = some u) : ∃ hj : j < l.length, u = Value.int .u8 ((l[j]'hj).toNat : Int) := by
  simp only [bvs, List.getElem?_map, Option.map_eq_some_iff] at h
  obtain ⟨b, hb, rfl⟩ := h
  obtain ⟨hj, rfl⟩ := List.getElem?_eq_some_iff.1 hb
  exact ⟨hj, rfl⟩

theorem addr_add (b o j : Nat) : (⟨b, o, none⟩ : Addr).add j = ⟨b, o + j, none⟩ := by
  unfold Addr.add
  split
  · next h => subst h; rfl
  · rfl

/-- A slice at A reads as the bytes l, in a block from lo on and below hi; of an empty one nothing is asked. -/
def Rd (w : World) (lo hi : Nat) (A : Option Addr) (l : List UInt8) : Prop :=
  0 < l.length → ∃ b o, A = some ⟨b, o, none⟩ ∧ lo ≤ b ∧ b < hi ∧ ∀ j (h : j < l.length), w.cell? ⟨b, o + j, none⟩ = some (.int .u8 ((l[j]'h).toNat : Int))

section
variable {w w' : World} {lo hi lo' hi' : Nat} {A : Option Addr} {l : List UInt8}
theorem Rd.nil_ : Rd w lo hi A [] := fun h => absurd h (by simp)
theorem Rd.keep (h : Rd w lo hi A l) (hk : ∀ p : Addr, lo ≤ p.block → p.block < hi → w'.cell? p = w.cell? p) : Rd w' lo hi A l := fun hn => by
  obtain ⟨b, o, e, h1, h2, hc⟩ := h hn
  exact ⟨b, o, e, h1, h2, fun j hj => (hk _ h1 h2).trans (hc j hj)⟩
theorem Rd.wide (h : Rd w lo hi A l) (h1 : lo' ≤ lo) (h2 : hi ≤ hi') : Rd w lo' hi' A l := fun hn => by
  obtain ⟨b, o, e, h3, h4, hc⟩ := h hn
  exact ⟨b, o, e, by omega, by omega, hc⟩
theorem Rd.below {B : Nat} (h : Rd w lo hi A l) (hb : Below B w w') (hB : hi ≤ B) : Rd w' lo hi A l := h.keep fun _ _ h2 => hb.cell (by omega)
theorem Rd.grown {row : Option Nat} (h : Rd w lo hi A l) (hg : w.grownBy w' row) (hB : hi ≤ w.heap.size) (hr : ∀ g, row = some g → g < lo ∨ hi ≤ g) : Rd w' lo hi A l :=
  h.keep fun p h1 h2 => World.cell?_of_block (hg.block p.block (by omega) (fun e => by rcases hr _ e.symm with h | h <;> omega))
theorem Rd.drop (h : Rd w lo hi A l) (k cap : Nat) (hc : l.length ≤ cap) (hk : k ≤ l.length) :
    Rd w lo hi (if cap = k then A else A.map (·.add k)) (l.drop k) := fun hn => by
  rw [List.length_drop] at hn
  obtain ⟨b, o, rfl, h1, h2, hcell⟩ := h (by omega)
  rw [if_neg (by omega)]
  refine ⟨b, o + k, by simp [addr_add], h1, h2, fun j hj => ?_⟩
  rw [List.length_drop] at hj
  rw [List.getElem_drop, Nat.add_assoc]
  exact hcell (k + j) (by omega)
theorem Rd.take (h : Rd w lo hi A l) (k : Nat) : Rd w lo hi A (l.take k) := fun hn => by
  rw [List.length_take] at hn
  obtain ⟨b, o, rfl, h1, h2, hcell⟩ := h (by omega)
  refine ⟨b, o, rfl, h1, h2, fun j hj => ?_⟩
  rw [List.length_take] at hj
  rw [List.getElem_take]
  exact hcell j (by omega)
end

/-- A new block of one byte. -/
theorem Rd.one (w : World) (e : TypeId) (x : Int) (b : UInt8) (hx : x = (b.toNat : Int)) : Rd (w.alloc (.cells #[.int .u8 x] e)) w.heap.size (w.heap.size + 1) (some ⟨w.heap.size, 0, none⟩) [b] := fun _ => by
  refine ⟨w.heap.size, 0, rfl, Nat.le_refl _, by omega, fun j hj => ?_⟩
  have h0 : j = 0 := by simpa using hj
  subst h0 hx
  rw [cell_of_row (w.alloc (.cells #[.int .u8 (b.toNat : Int)] e)) w.heap.size _ _ e (0, 0) (heap_alloc_new w _)]
  rfl

/-- A call has made a new slice that reads as l, and has changed nothing that was there. -/
def Ret (l : List UInt8) (w : World) (e : Ending) (w' : World) : Prop :=
  ∃ A c, e = .returned (.slice A l.length c) ∧ l.length ≤ c ∧ c ≤ maxLen ∧ (A = none → c = 0) ∧ Rd w' w.heap.size w'.heap.size A l ∧ Below w.heap.size w w'

theorem Ret.of {l : List UInt8} {w w' : World} {A : Option Addr} {n c : Nat} (hn : n = l.length) (h1 : l.length ≤ c) (h0 : c ≤ maxLen) (h2 : A = none → c = 0) (h3 : Rd w' w.heap.size w'.heap.size A l) (h4 : Below w.heap.size w w') :
    Ret l w (.returned (.slice A n c)) w' := ⟨A, c, by rw [hn], h1, h0, h2, h3, h4⟩

/-- A slice of slices of bytes. -/
def Parts (w : World) (P : Option Addr) (parts : List (List UInt8)) : Prop :=
  ∀ j (h : j < parts.length), ∃ b o A cc, P = some ⟨b, o, none⟩ ∧ b < w.heap.size ∧ w.cell? ⟨b, o + j, none⟩ = some (.slice A (parts[j]'h).length cc) ∧ (A = none → cc = 0) ∧ Rd w 0 w.heap.size A (parts[j]'h)

theorem Parts.new (w : World) (e : TypeId) (ps : List (Option Addr × Nat × List UInt8)) (h : ∀ p ∈ ps, (p.1 = none → p.2.1 = 0) ∧ Rd w 0 w.heap.size p.1 p.2.2) :
    Parts (w.alloc (.cells (ps.map fun p => Value.slice p.1 p.2.2.length p.2.1).toArray e)) (some ⟨w.heap.size, 0, none⟩) (ps.map (·.2.2)) := fun j hj => by
  rw [List.length_map] at hj
  obtain ⟨h1, h2⟩ := h _ (List.getElem_mem hj)
  refine ⟨w.heap.size, 0, ps[j].1, ps[j].2.1, rfl, by simp, ?_, h1, ?_⟩
  · rw [cell_of_row _ w.heap.size _ _ e (0, 0) (heap_alloc_new w _)]
    simp [hj]
  · have h3 := (h2.below ((Below.refl _ w).alloc (Nat.le_refl _) (.cells (ps.map fun p => Value.slice p.1 p.2.2.length p.2.1).toArray e)) (Nat.le_refl _)).wide (Nat.le_refl 0) (hi' := (w.alloc (.cells (ps.map fun p => Value.slice p.1 p.2.2.length p.2.1).toArray e)).heap.size) (by simp)
    simpa using h3

theorem Parts.below {w w' : World} {P : Option Addr} {parts : List (List UInt8)} (h : Parts w P parts) (hb : Below w.heap.size w w') : Parts w' P parts := fun j hj => by
  obtain ⟨b, o, A, cc, hP, hlt, hc, hn, hr⟩ := h j hj
  exact ⟨b, o, A, cc, hP, Nat.lt_of_lt_of_le hlt hb.size, (hb.cell hlt).trans hc, hn, (hr.below hb (Nat.le_refl _)).wide (Nat.le_refl _) hb.size⟩

theorem flatten_take_succ (parts : List (List UInt8)) (k : Nat) (h : k < parts.length) : (parts.take (k + 1)).flatten = (parts.take k).flatten ++ parts[k] := by
  rw [List.take_succ_eq_append_getElem h]; simp only [List.flatten_append, List.flatten_cons, List.flatten_nil, List.append_nil]

theorem flatten_take_le (parts : List (List UInt8)) (k : Nat) : (parts.take k).flatten.length ≤ parts.flatten.length := by
  have h : parts.flatten = (parts.take k).flatten ++ (parts.drop k).flatten := by rw [← List.flatten_append, List.take_append_drop]
  rw [h, List.length_append]; omega

/-- How many bytes the first k parts have; and all of them. -/
def flen (parts : List (List UInt8)) (k : Nat) : Nat := (parts.take k).flatten.length
theorem flen_succ (parts : List (List UInt8)) (k : Nat) (h : k < parts.length) : flen parts (k + 1) = flen parts k + parts[k].length := by
  unfold flen; rw [flatten_take_succ parts k h, List.length_append]
theorem flen_le (parts : List (List UInt8)) (k : Nat) : flen parts k ≤ parts.flatten.length := flatten_take_le parts k

/-- The bytes of a string, as '[]byte(s)' lays them. -/
theorem Rd.string (w : World) (e : TypeId) (s : ByteArray) (cap : Nat) (fz : Nat × Nat) : Rd (w.alloc (.cells (bytesRow s cap) e fz)) w.heap.size (w.heap.size + 1) (some ⟨w.heap.size, 0, none⟩) s.data.toList := fun _ => by
  refine ⟨w.heap.size, 0, rfl, Nat.le_refl _, by omega, fun j hj => ?_⟩
  rw [cell_of_row _ w.heap.size _ _ e fz (heap_alloc_new w _)]
  have hj' : j < s.data.size := by simpa using hj
  have hj2 : j < s.size := hj'
  simp [bytesRow, Array.getElem?_append, hj2]

/-- Two slices that were built into one. -/
theorem Parts.pair (w : World) (e : TypeId) (A1 A2 : Option Addr) (c1 c2 : Nat) (l1 l2 : List UInt8) (z1 : A1 = none → c1 = 0) (z2 : A2 = none → c2 = 0) (h1 : Rd w 0 w.heap.size A1 l1) (h2 : Rd w 0 w.heap.size A2 l2) :
    Parts (w.alloc (.cells #[.slice A1 l1.length c1, .slice A2 l2.length c2] e)) (some ⟨w.heap.size, 0, none⟩) [l1, l2] :=
  Parts.new w e [(A1, c1, l1), (A2, c2, l2)] (by
    intro p hp
    simp only [List.mem_cons, List.not_mem_nil, or_false] at hp
    rcases hp with rfl | rfl
    · exact ⟨z1, h1⟩
    · exact ⟨z2, h2⟩)

theorem Parts.drew {w : World} {P : Option Addr} {parts : List (List UInt8)} (h : Parts w P parts) : Parts w.drew P parts := h

/-- What was written, and a text's bytes behind it, as two parts. -/
theorem Parts.text (w : World) (e e' : TypeId) (s : ByteArray) (cap : Nat) (fz : Nat × Nat) (lo : Nat) (A : Option Addr) (c : Nat) (l : List UInt8) (hz : A = none → c = 0) (hr : Rd w lo w.heap.size A l) :
    Parts ((w.alloc (.cells (bytesRow s cap) e fz)).alloc (.cells #[.slice A l.length c, .slice (some ⟨w.heap.size, 0, none⟩) s.size cap] e')).drew (some ⟨w.heap.size + 1, 0, none⟩) [l, s.data.toList] := by
  have hb : Below w.heap.size w (w.alloc (.cells (bytesRow s cap) e fz)) := (Below.refl _ w).alloc (Nat.le_refl _) _
  have h := Parts.new (w.alloc (.cells (bytesRow s cap) e fz)) e' [(A, c, l), (some ⟨w.heap.size, 0, none⟩, cap, s.data.toList)] (by
    intro p hp
    simp only [List.mem_cons, List.not_mem_nil, or_false] at hp
    rcases hp with rfl | rfl
    · exact ⟨hz, (hr.below hb (Nat.le_refl _)).wide (Nat.zero_le _) hb.size⟩
    · exact ⟨fun h => (by cases h), (Rd.string w e s cap fz).wide (Nat.zero_le _) (by simp)⟩)
  have e1 : (w.alloc (.cells (bytesRow s cap) e fz)).heap.size = w.heap.size + 1 := by simp
  rw [e1] at h
  have e2 : s.data.toList.length = s.size := rfl
  simp only [List.map_cons, List.map_nil, e2] at h
  exact h.drew

/-- What the call's own row is worth: it reads as its bytes. -/
theorem Rd.own {w : World} {base n c : Nat} {e : TypeId} {A : Option Addr} {l : List UInt8} (h : w.ownsRow base e 1 (.slice A n c) n (bvs l)) : n = l.length ∧ l.length ≤ c ∧ c ≤ maxLen ∧ (A = none → c = 0) ∧ Rd w base w.heap.size A l := by
  have hl := h.1
  rw [bvs_length, Nat.mul_one] at hl
  rcases h.2 with ⟨hv, hn⟩ | ⟨g, cap, cur, hv, hb, hg, hc, hcm, _⟩
  · have : l.length = 0 := by omega
    have hc0 : c = 0 := by injection hv
    exact ⟨by omega, by omega, by rw [hc0]; exact Nat.zero_le _, fun _ => hc0, fun hp => by omega⟩
  · injection hv with h1 h2 h3
    subst h1 h3
    refine ⟨by omega, by omega, hcm, fun h => (by cases h), fun _ => ⟨g, 0, rfl, hb, (Array.getElem?_eq_some_iff.1 hg).1, fun j hj => ?_⟩⟩
    have := h.cells (g := g) rfl j (.int .u8 ((l[j]'hj).toNat : Int)) (by simp [bvs, hj])
    rwa [addr_add] at this

theorem own_slice {w : World} {base n : Nat} {e : TypeId} {v : Value} {xs : List Value} (h : w.ownsRow base e 1 v n xs) : ∃ A c, v = .slice A n c := by
  rcases h.2 with ⟨hv, hn⟩ | ⟨g, cap, cur, hv, _⟩
  · exact ⟨none, 0, by rw [hv, hn]⟩
  · exact ⟨_, _, hv⟩

theorem Ret.own {w w' : World} {e : TypeId} {v : Value} {n : Nat} {l : List UInt8} (h : w'.ownsRow w.heap.size e 1 v n (bvs l)) (hb : Below w.heap.size w w') : Ret l w (.returned v) w' := by
  obtain ⟨A, c, rfl⟩ := own_slice h
  obtain ⟨rfl, hc, hm, hz, hr⟩ := Rd.own h
  exact ⟨A, c, rfl, hc, hm, hz, hr, hb⟩

/-- 'string(b)' of bytes that are read. -/
theorem conv_rd {P : Program} {w : World} {lo hi c n : Nat} {A : Option Addr} {m : List UInt8} (src dst e : TypeId) (hs : P.underlying src = some (.slice e)) (he : P.underlying e = some (.int .u8)) (hd : P.underlying dst = some .string)
    (hn : n = m.length) (hr : Rd w lo hi A m) : (convert src dst (.slice A n c)).run P w = .ok (.string ⟨m.toArray⟩) w := by
  subst hn
  rcases A with _ | a
  · have h0 : m = [] := by
      rcases Nat.eq_zero_or_pos m.length with h0 | h0
      · exact List.eq_nil_of_length_eq_zero h0
      · obtain ⟨b, o, hA, _⟩ := hr h0
        cases hA
    subst h0
    rw [run_convert_bytes_string w src dst e none _ c hs he hd]
    simp [Conv.bytesToString]
    rfl
  · refine run_convert_bytes_back w src dst e a c m hs he hd fun j hj => ?_
    obtain ⟨b, o, hA, _, _, hc⟩ := hr (by omega)
    injection hA with hA
    subst hA
    rw [addr_add]
    exact hc j hj

/-- An append of bytes that are read, onto a row of the call's own: the source is nil, empty, or not. -/
theorem append_rd {P : Program} (w : World) {ops : Array Oper} {rest : List Oper} {o : Oper} {a : Act} {Q : Exit → Act → World → Prop} (hgd : o.guard = none) (s x : Operand) (t : TypeId)
    (ho : o.op = .call { callee := .builtin .append, args := #[s, x], argTypes := #[t, t] })
    (base : Nat) (e : TypeId) (i : TypeInfo) (z : Value) (ht : P.underlying t = some (.slice e)) (hi : P.info? e = some i) (hz : i.zero = some z)
    (hsize : i.size = 1) (hby : i.bytes = 1) (hzs : z.cells.size = 1)
    (v : Value) (n : Nat) (l : List UInt8) (hs : a.eval s = v) (hown : w.ownsRow base e 1 v n (bvs l))
    (lo up : Nat) (A : Option Addr) (m c : Nat) (m' : List UInt8) (hx : a.eval x = .slice A m c) (hm : m = m'.length) (hnil : A = none → c = 0) (hr : Rd w lo up A m')
    (hbytes : l.length + m'.length ≤ 140737488355328) (hbase : base ≤ w.heap.size)
    (h : ∀ v' w', w'.ownsRow base e 1 v' (n + m) (bvs (l ++ m')) → w.grownBy w' v.ownBlock → wpList P ops Q rest (a.put o.dst v') w') : wpList P ops Q (o :: rest) a w := by
  subst hm
  have hn : n = l.length := by have := hown.1; rw [bvs_length] at this; omega
  rcases A with _ | ad
  · have h0 : m' = [] := by
      rcases Nat.eq_zero_or_pos m'.length with h0 | h0
      · exact List.eq_nil_of_length_eq_zero h0
      · obtain ⟨b, o, hA, _⟩ := hr h0
        cases hA
    subst h0
    obtain rfl := hnil rfl
    refine wpList_append_own_none hgd s x t ho base e i 1 ht hi v n (bvs l) hs hown hx ?_
    exact h v w (by simpa using hown) ⟨rfl, rfl, rfl, Nat.le_refl _, fun _ _ _ => rfl⟩
  · refine wpList_append_own w hgd s x t ho base e i z 1 1 ht hi hz hsize hby hzs (by omega) v n (bvs l) hs hown ad m'.length c (bvs m') hx (by rw [bvs_length]; omega) ?_ (bvs_one m') (by unfold maxLen; omega) (by omega) hbase ?_
    · intro j u hu
      obtain ⟨hj, rfl⟩ := bvs_at m' j u hu
      obtain ⟨b, o, hA, _, _, hc⟩ := hr (by omega)
      injection hA with hA
      subst hA
      rw [addr_add]
      exact hc j hj
    · intro v' w' h1 h2 _
      exact h v' w' (by rw [bvs_append]; exact h1) h2

end Go.Proofs.Ytfdiidhilonkoaa
