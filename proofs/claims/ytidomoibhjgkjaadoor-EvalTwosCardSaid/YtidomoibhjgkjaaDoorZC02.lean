import Derived.Test.YtidomoibhjgkjaaDoorRows
import Derived.WalkKit
import Derived.Lib.Hide
import Derived.Laws.IdiomStrings
import Derived.Laws.AppendOwnNone
import Derived.Deep.Draws
import Derived.Test.YtidomoibhjgkjaaDoorZC01
import Derived.Laws.NewBlocks
import Derived.Laws.Cover1
/-
  Bytes as lists, and where a slice of bytes lies in memory: plain words for all walks over package pack. No Go function is named here.
-/
namespace Go.Proofs.YtidomoibhjgkjaaDoor
open Go.RowKit

/-- The cells of a list of bytes. -/
def bvs (l : List UInt8) : List Value := l.map fun b => Value.int .u8 (b.toNat : Int)

theorem bvs_length (l : List UInt8) : (bvs l).length = l.length := by simp [bvs]
theorem bvs_append (a b : List UInt8) : bvs (a ++ b) = bvs a ++ bvs b := by simp [bvs]
theorem bvs_one (l : List UInt8) : ∀ u ∈ bvs l, u.oneCell' = true := by
  intro u hu
  simp only [bvs, List.mem_map] at hu
  obtain ⟨b, _, rfl⟩ := hu
  rfl
theorem bvs_at (l : List UInt8) (j : Nat) (u : Value) (h : (bvs l)[j]? = some u) : ∃ hj : j < l.length, u = Value.int .u8 ((l[j]'hj).toNat : Int) := by
  simp only [bvs, List.getElem?_map, Option.map_eq_some_iff] at h
  obtain ⟨b, hb, rfl⟩ := h
  obtain ⟨hj, rfl⟩ := List.getElem?_eq_some_iff.1 hb
  exact ⟨hj, rfl⟩

theorem addr_add (b o j : Nat) : (⟨b, o, none⟩ : Addr).add j = ⟨b, o + j, none⟩ := by
  unfold Addr.add
  split
  · next h => subst h; rfl
  · rfl

/-- A slice at A reads as the bytes l, in a block from lo on and below hi; of an empty one nothing is asked. -/
def Rd (w : World) (lo hi : Nat) (A : Option Addr) (l : List UInt8) : Prop :=
  0 < l.length → ∃ b o, A = some ⟨b, o, none⟩ ∧ lo ≤ b ∧ b < hi ∧ ∀ j (h : j < l.length), w.cell? ⟨b, o + j, none⟩ = some (.int .u8 ((l[j]'h).toNat : Int))

section
variable {w w' : World} {lo hi lo' hi' : Nat} {A : Option Addr} {l : List UInt8}
theorem Rd.nil_ : Rd w lo hi A [] := fun h => absurd h (by simp)
theorem Rd.keep (h : Rd w lo hi A l) (hk : ∀ p : Addr, lo ≤ p.block → p.block < hi → w'.cell? p = w.cell? p) : Rd w' lo hi A l := fun hn => by
  obtain ⟨b, o, e, h1, h2, hc⟩ := h hn
  exact ⟨b, o, e, h1, h2, fun j hj => (hk _ h1 h2).trans (hc j hj)⟩
theorem Rd.wide (h : Rd w lo hi A l) (h1 : lo' ≤ lo) (h2 : hi ≤ hi') : Rd w lo' hi' A l := fun hn => by
  obtain ⟨b, o, e, h3, h4, hc⟩ := h hn
  exact ⟨b, o, e, by omega, by omega, hc⟩
theorem Rd.below {B : Nat} (h : Rd w lo hi A l) (hb : Below B w w') (hB : hi ≤ B) : Rd w' lo hi A l := h.keep fun _ _ h2 => hb.cell (by omega)
theorem Rd.grown {row : Option Nat} (h : Rd w lo hi A l) (hg : w.grownBy w' row) (hB : hi ≤ w.heap.size) (hr : ∀ g, row = some g → g < lo ∨ hi ≤ g) : Rd w' lo hi A l :=
  h.keep fun p h1 h2 => World.cell?_of_block (hg.block p.block (by omega) (fun e => by rcases hr _ e.symm with h | h <;> omega))
theorem Rd.drop (h : Rd w lo hi A l) (k cap : Nat) (hc : l.length ≤ cap) (hk : k ≤ l.length) :
    Rd w lo hi (if cap = k then A else A.map (·.add k)) (l.drop k) := fun hn => by
  rw [List.length_drop] at hn
  obtain ⟨b, o, rfl, h1, h2, hcell⟩ := h (by omega)
  rw [if_neg (by omega)]
  refine ⟨b, o + k, by simp [addr_add], h1, h2, fun j hj => ?_⟩
  rw [List.length_drop] at hj
  rw [List.getElem_drop, Nat.add_assoc]
  exact hcell (k + j) (by omega)
theorem Rd.take (h : Rd w lo hi A l) (k : Nat) : Rd w lo hi A (l.take k) := fun hn => by
  rw [List.length_take] at hn
  obtain ⟨b, o, rfl, h1, h2, hcell⟩ := h (by omega)
  refine ⟨b, o, rfl, h1, h2, fun j hj => ?_⟩
  rw [List.length_take] at hj
  rw [List.getElem_take]
  exact hcell j (by omega)
end

/-- A new block of one byte. -/
theorem Rd.one (w : World) (e : TypeId) (x : Int) (b : UInt8) (hx : x = (b.toNat : Int)) : Rd (w.alloc (.cells #[.int .u8 x] e)) w.heap.size (w.heap.size + 1) (some ⟨w.heap.size, 0, none⟩) [b] := fun _ => by
  refine ⟨w.heap.size, 0, rfl, Nat.le_refl _, by omega, fun j hj => ?_⟩
  have h0 : j = 0 := by simpa using hj
  subst h0 hx
  rw [cell_of_row (w.alloc (.cells #[.int .u8 (b.toNat : Int)] e)) w.heap.size _ _ e (0, 0) (heap_alloc_new w _)]
  rfl

/-- A call has made a new slice that reads as l, and has changed nothing that was there. -/
def Ret (l : List UInt8) (w : World) (e : Ending) (w' : World) : Prop :=
  ∃ A c, e = .returned (.slice A l.length c) ∧ l.length ≤ c ∧ c ≤ maxLen ∧ (A = none → c = 0) ∧ Rd w' w.heap.size w'.heap.size A l ∧ Below w.heap.size w w'

theorem Ret.of {l : List UInt8} {w w' : World} {A : Option Addr} {n c : Nat} (hn : n = l.length) (h1 : l.length ≤ c) (h0 : c ≤ maxLen) (h2 : A = none → c = 0) (h3 : Rd w' w.heap.size w'.heap.size A l) (h4 : Below w.heap.size w w') :
    Ret l w (.returned (.slice A n c)) w' := ⟨A, c, by rw [hn], h1, h0, h2, h3, h4⟩

/-- A slice of slices of bytes. -/
def Parts (w : World) (P : Option Addr) (parts : List (List UInt8)) : Prop :=
  ∀ j (h : j < parts.length), ∃ b o A cc, P = some ⟨b, o, none⟩ ∧ b < w.heap.size ∧ w.cell? ⟨b, o + j, none⟩ = some (.slice A (parts[j]'h).length cc) ∧ (A = none → cc = 0) ∧ Rd w 0 w.heap.size A (parts[j]'h)

theorem Parts.new (w : World) (e : TypeId) (ps : List (Option Addr × Nat × List UInt8)) (h : ∀ p ∈ ps, (p.1 = none → p.2.1 = 0) ∧ Rd w 0 w.heap.size p.1 p.2.2) :
    Parts (w.alloc (.cells (ps.map fun p => Value.slice p.1 p.2.2.length p.2.1).toArray e)) (some ⟨w.heap.size, 0, none⟩) (ps.map (·.2.2)) := fun j hj => by
  rw [List.length_map] at hj
  obtain ⟨h1, h2⟩ := h _ (List.getElem_mem hj)
  refine ⟨w.heap.size, 0, ps[j].1, ps[j].2.1, rfl, by simp, ?_, h1, ?_⟩
  · rw [cell_of_row _ w.heap.size _ _ e (0, 0) (heap_alloc_new w _)]
    simp [hj]
  · have h3 := (h2.below ((Below.refl _ w).alloc (Nat.le_refl _) (.cells (ps.map fun p => Value.slice p.1 p.2.2.length p.2.1).toArray e)) (Nat.le_refl _)).wide (Nat.le_refl 0) (hi' := (w.alloc (.cells (ps.map fun p => Value.slice p.1 p.2.2.length p.2.1).toArray e)).heap.size) (by simp)
    simpa using h3

theorem Parts.below {w w' : World} {P : Option Addr} {parts : List (List UInt8)} (h : Parts w P parts) (hb : Below w.heap.size w w') : Parts w' P parts := fun j hj => by
  obtain ⟨b, o, A, cc, hP, hlt, hc, hn, hr⟩ := h j hj
  exact ⟨b, o, A, cc, hP, Nat.lt_of_lt_of_le hlt hb.size, (hb.cell hlt).trans hc, hn, (hr.below hb (Nat.le_refl _)).wide (Nat.le_refl _) hb.size⟩

theorem flatten_take_succ (parts : List (List UInt8)) (k : Nat) (h : k < parts.length) : (parts.take (k + 1)).flatten = (parts.take k).flatten ++ parts[k] := by
  rw [List.take_succ_eq_append_getElem h]; simp only [List.flatten_append, List.flatten_cons, List.flatten_nil, List.append_nil]

theorem flatten_take_le (parts : List (List UInt8)) (k : Nat) : (parts.take k).flatten.length ≤ parts.flatten.length := by
  have h : parts.flatten = (parts.take k).flatten ++ (parts.drop k).flatten := by rw [← List.flatten_append, List.take_append_drop]
  rw [h, List.length_append]; omega

/-- How many bytes the first k parts have; and all of them. -/
def flen (parts : List (List UInt8)) (k : Nat) : Nat := (parts.take k).flatten.length
theorem flen_succ (parts : List (List UInt8)) (k : Nat) (h : k < parts.length) : flen parts (k + 1) = flen parts k + parts[k].length := by
  unfold flen; rw [flatten_take_succ parts k h, List.length_append]
theorem flen_le (parts : List (List UInt8)) (k : Nat) : flen parts k ≤ parts.flatten.length := flatten_take_le parts k

/-- The bytes of a string, as '[]byte(s)' lays them. -/
theorem Rd.string (w : World) (e : TypeId) (s : ByteArray) (cap : Nat) (fz : Nat × Nat) : Rd (w.alloc (.cells (bytesRow s cap) e fz)) w.heap.size (w.heap.size + 1) (some ⟨w.heap.size, 0, none⟩) s.data.toList := fun _ => by
  refine ⟨w.heap.size, 0, rfl, Nat.le_refl _, by omega, fun j hj => ?_⟩
  rw [cell_of_row _ w.heap.size _ _ e fz (heap_alloc_new w _)]
  have hj' : j < s.data.size := by simpa using hj
  have hj2 : j < s.size := hj'
  simp [bytesRow, Array.getElem?_append, hj2]

/-- Two slices that were built into one. -/
theorem Parts.pair (w : World) (e : TypeId) (A1 A2 : Option Addr) (c1 c2 : Nat) (l1 l2 : List UInt8) (z1 : A1 = none → c1 = 0) (z2 : A2 = none → c2 = 0) (h1 : Rd w 0 w.heap.size A1 l1) (h2 : Rd w 0 w.heap.size A2 l2) :
    Parts (w.alloc (.cells #[.slice A1 l1.length c1, .slice A2 l2.length c2] e)) (some ⟨w.heap.size, 0, none⟩) [l1, l2] :=
  Parts.new w e [(A1, c1, l1), (A2, c2, l2)] (by
    intro p hp
    simp only [List.mem_cons, List.not_mem_nil, or_false] at hp
    rcases hp with rfl | rfl
    · exact ⟨z1, h1⟩
    · exact ⟨z2, h2⟩)

theorem Parts.drew {w : World} {P : Option Addr} {parts : List (List UInt8)} (h : Parts w P parts) : Parts w.drew P parts := h

/-- What was written, and a text's bytes behind it, as two parts. -/
theorem Parts.text (w : World) (e e' : TypeId) (s : ByteArray) (cap : Nat) (fz : Nat × Nat) (lo : Nat) (A : Option Addr) (c : Nat) (l : List UInt8) (hz : A = none → c = 0) (hr : Rd w lo w.heap.size A l) :
    Parts ((w.alloc (.cells (bytesRow s cap) e fz)).alloc (.cells #[.slice A l.length c, .slice (some ⟨w.heap.size, 0, none⟩) s.size cap] e')).drew (some ⟨w.heap.size + 1, 0, none⟩) [l, s.data.toList] := by
  have hb : Below w.heap.size w (w.alloc (.cells (bytesRow s cap) e fz)) := (Below.refl _ w).alloc (Nat.le_refl _) _
  have h := Parts.new (w.alloc (.cells (bytesRow s cap) e fz)) e' [(A, c, l), (some ⟨w.heap.size, 0, none⟩, cap, s.data.toList)] (by
    intro p hp
    simp only [List.mem_cons, List.not_mem_nil, or_false] at hp
    rcases hp with rfl | rfl
    · exact ⟨hz, (hr.below hb (Nat.le_refl _)).wide (Nat.zero_le _) hb.size⟩
    · exact ⟨fun h => (by cases h), (Rd.string w e s cap fz).wide (Nat.zero_le _) (by simp)⟩)
  have e1 : (w.alloc (.cells (bytesRow s cap) e fz)).heap.size = w.heap.size + 1 := by simp
  rw [e1] at h
  have e2 : s.data.toList.length = s.size := rfl
  simp only [List.map_cons, List.map_nil, e2] at h
  exact h.drew

/-- What the call's own row is worth: it reads as its bytes. -/
theorem Rd.own {w : World} {base n c : Nat} {e : TypeId} {A : Option Addr} {l : List UInt8} (h : w.ownsRow base e 1 (.slice A n c) n (bvs l)) : n = l.length ∧ l.length ≤ c ∧ c ≤ maxLen ∧ (A = none → c = 0) ∧ Rd w base w.heap.size A l := by
  have hl := h.1
  rw [bvs_length, Nat.mul_one] at hl
  rcases h.2 with ⟨hv, hn⟩ | ⟨g, cap, cur, hv, hb, hg, hc, hcm, _⟩
  · have : l.length = 0 := by omega
    have hc0 : c = 0 := by injection hv
    exact ⟨by omega, by omega, by rw [hc0]; exact Nat.zero_le _, fun _ => hc0, fun hp => by omega⟩
  · injection hv with h1 h2 h3
    subst h1 h3
    refine ⟨by omega, by omega, hcm, fun h => (by cases h), fun _ => ⟨g, 0, rfl, hb, (Array.getElem?_eq_some_iff.1 hg).1, fun j hj => ?_⟩⟩
    have := h.cells (g := g) rfl j (.int .u8 ((l[j]'hj).toNat : Int)) (by simp [bvs, hj])
    rwa [addr_add] at this

theorem own_slice {w : World} {base n : Nat} {e : TypeId} {v : Value} {xs : List Value} (h : w.ownsRow base e 1 v n xs) : ∃ A c, v = .slice A n c := by
  rcases h.2 with ⟨hv, hn⟩ | ⟨g, cap, cur, hv, _⟩
  · exact ⟨none, 0, by rw [hv, hn]⟩
  · exact ⟨_, _, hv⟩

theorem Ret.own {w w' : World} {e : TypeId} {v : Value} {n : Nat} {l : List UInt8} (h : w'.ownsRow w.heap.size e 1 v n (bvs l)) (hb : Below w.heap.size w w') : Ret l w (.returned v) w' := by
  obtain ⟨A, c, rfl⟩ := own_slice h
  obtain ⟨rfl, hc, hm, hz, hr⟩ := Rd.own h
  exact ⟨A, c, rfl, hc, hm, hz, hr, hb⟩

/-- 'string(b)' of bytes that are read. -/
theorem conv_rd {P : Program} {w : World} {lo hi c n : Nat} {A : Option Addr} {m : List UInt8} (src dst e : TypeId) (hs : P.underlying src = some (.slice e)) (he : P.underlying e = some (.int .u8)) (hd : P.underlying dst = some .string)
    (hn : n = m.length) (hr : Rd w lo hi A m) : (convert src dst (.slice A n c)).run P w = .ok (.string ⟨m.toArray⟩) w := by
  subst hn
  rcases A with _ | a
  · have h0 : m = [] := by
      rcases Nat.eq_zero_or_pos m.length with h0 | h0
      · exact List.eq_nil_of_length_eq_zero h0
      · obtain ⟨b, o, hA, _⟩ := hr h0
        cases hA
    subst h0
    rw [run_convert_bytes_string w src dst e none _ c hs he hd]
    simp [Conv.bytesToString]
    rfl
  · refine run_convert_bytes_back w src dst e a c m hs he hd fun j hj => ?_
    obtain ⟨b, o, hA, _, _, hc⟩ := hr (by omega)
    injection hA with hA
    subst hA
    rw [addr_add]
    exact hc j hj

/-- An append of bytes that are read, onto a row of the call's own: the source is nil, empty, or not. -/
theorem append_rd {P : Program} (w : World) {ops : Array Oper} {rest : List Oper} {o : Oper} {a : Act} {Q : Exit → Act → World → Prop} (hgd : o.guard = none) (s x : Operand) (t : TypeId)
    (ho : o.op = .call { callee := .builtin .append, args := #[s, x], argTypes := #[t, t] })
    (base : Nat) (e : TypeId) (i : TypeInfo) (z : Value) (ht : P.underlying t = some (.slice e)) (hi : P.info? e = some i) (hz : i.zero = some z)
    (hsize : i.size = 1) (hby : i.bytes = 1) (hzs : z.cells.size = 1)
    (v : Value) (n : Nat) (l : List UInt8) (hs : a.eval s = v) (hown : w.ownsRow base e 1 v n (bvs l))
    (lo up : Nat) (A : Option Addr) (m c : Nat) (m' : List UInt8) (hx : a.eval x = .slice A m c) (hm : m = m'.length) (hnil : A = none → c = 0) (hr : Rd w lo up A m')
    (hbytes : l.length + m'.length ≤ 140737488355328) (hbase : base ≤ w.heap.size)
    (h : ∀ v' w', w'.ownsRow base e 1 v' (n + m) (bvs (l ++ m')) → w.grownBy w' v.ownBlock → wpList P ops Q rest (a.put o.dst v') w') : wpList P ops Q (o :: rest) a w := by
  subst hm
  have hn : n = l.length := by have := hown.1; rw [bvs_length] at this; omega
  rcases A with _ | ad
  · have h0 : m' = [] := by
      rcases Nat.eq_zero_or_pos m'.length with h0 | h0
      · exact List.eq_nil_of_length_eq_zero h0
      · obtain ⟨b, o, hA, _⟩ := hr h0
        cases hA
    subst h0
    obtain rfl := hnil rfl
    refine wpList_append_own_none hgd s x t ho base e i 1 ht hi v n (bvs l) hs hown hx ?_
    exact h v w (by simpa using hown) ⟨rfl, rfl, rfl, Nat.le_refl _, fun _ _ _ => rfl⟩
  · refine wpList_append_own w hgd s x t ho base e i z 1 1 ht hi hz hsize hby hzs (by omega) v n (bvs l) hs hown ad m'.length c (bvs m') hx (by rw [bvs_length]; omega) ?_ (bvs_one m') (by unfold maxLen; omega) (by omega) hbase ?_
    · intro j u hu
      obtain ⟨hj, rfl⟩ := bvs_at m' j u hu
      obtain ⟨b, o, hA, _, _, hc⟩ := hr (by omega)
      injection hA with hA
      subst hA
      rw [addr_add]
      exact hc j hj
    · intro v' w' h1 h2 _
      exact h v' w' (by rw [bvs_append]; exact h1) h2

end Go.Proofs.YtidomoibhjgkjaaDoor

/-
  The document's own answers on values: Right, Compare of conductorref04.
-/
namespace Go.Proofs.YtidomoibhjgkjaaDoor
open Go.RowKit

theorem empty_yes {s : ByteArray} (h : s.size = 0) : (!s.toList.isEmpty) = false := by
  rw [ByteArray.toList_eq, List.eq_nil_of_length_eq_zero (show s.data.toList.length = 0 from h)]
  rfl
theorem empty_no {s : ByteArray} (h : s.size ≠ 0) : (!s.toList.isEmpty) = true := by
  rw [ByteArray.toList_eq]
  cases he : s.data.toList with
  | nil => exact absurd (show s.data.toList.length = 0 by rw [he]; rfl) h
  | cons c t => rfl
theorem ret_i64 {a b : Int} (h : a = b) : Ending.returned (.int .i64 a) = .returned (.int .i64 b) := by rw [h]
theorem box_below (w : World) (cs : Array Value) (t : TypeId) : Below w.heap.size w (w.alloc (.cells cs t)) := (Below.refl _ w).alloc (Nat.le_refl _) _

end Go.Proofs.YtidomoibhjgkjaaDoor

/-
  The plain functions of package pack, over numbers and lists of bytes: what is written, and what is read. Nothing of Go stands here.
-/
namespace Go.Proofs.YtidomoibhjgkjaaDoor

/-- A number in seven bits a byte. -/
def un (n : Nat) : List UInt8 := if n < 128 then [UInt8.ofNat n] else UInt8.ofNat (n % 128 + 128) :: un (n / 128)
  termination_by n
  decreasing_by omega

theorem un_small {n : Nat} (h : n < 128) : un n = [UInt8.ofNat n] := by rw [un, if_pos h]
theorem un_big {n : Nat} (h : 128 ≤ n) : un n = UInt8.ofNat (n % 128 + 128) :: un (n / 128) := by rw [un, if_neg (by omega)]

theorem un_pos (n : Nat) : 0 < (un n).length := by
  rcases Nat.lt_or_ge n 128 with h | h
  · rw [un_small h]; simp
  · rw [un_big h]; simp

/-- A number below 128^k has at most k bytes, from k = 1 on. -/
theorem un_le (k : Nat) : ∀ n, n < 128 ^ (k + 1) → (un n).length ≤ k + 1 := by
  induction k with
  | zero => intro n h; rw [un_small (by simpa using h)]; simp
  | succ k ih =>
    intro n h
    rcases Nat.lt_or_ge n 128 with h1 | h1
    · rw [un_small h1]; simp
    · rw [un_big h1]
      have := ih (n / 128) (by rw [Nat.div_lt_iff_lt_mul (by omega), ← Nat.pow_succ]; exact h)
      simp only [List.length_cons]; omega

theorem un_ten {n : Nat} (h : n < 18446744073709551616) : (un n).length ≤ 10 :=
  un_le 9 n (Nat.lt_of_lt_of_le h (by decide))

/-- A number has more than k bytes just from 128^k on. -/
theorem un_gt (k : Nat) : ∀ n, k + 1 < (un n).length ↔ 128 ^ (k + 1) ≤ n := by
  induction k with
  | zero =>
    intro n
    rcases Nat.lt_or_ge n 128 with h | h
    · rw [un_small h]; simp; omega
    · rw [un_big h]
      have := un_pos (n / 128)
      simp only [List.length_cons]
      omega
  | succ k ih =>
    intro n
    rcases Nat.lt_or_ge n 128 with h | h
    · rw [un_small h]
      have h2 : 128 ^ 1 ≤ 128 ^ (k + 1 + 1) := Nat.pow_le_pow_right (by omega) (by omega)
      simp; omega
    · rw [un_big h, List.length_cons]
      have := ih (n / 128)
      rw [Nat.le_div_iff_mul_le (by omega), ← Nat.pow_succ] at this
      omega

theorem un_mono {a b : Nat} (h : a ≤ b) : (un a).length ≤ (un b).length := by
  have hp := un_pos a
  have hq := un_pos b
  rcases Nat.lt_or_ge 1 (un a).length with h1 | h1
  · obtain ⟨k, hk⟩ : ∃ k, (un a).length = k + 1 + 1 := ⟨(un a).length - 2, by omega⟩
    have := (un_gt k a).1 (by omega)
    have := (un_gt k b).2 (by omega)
    omega
  · omega

/-- A number with a sign, as one without. -/
def zig (n : Int) : Nat := if n < 0 then (2 * (-1 - n) + 1).toNat else (2 * n).toNat
def unInt (n : Int) : List UInt8 := un (zig n)
def unText (s : List UInt8) : List UInt8 := un s.length ++ s

/-- The number at the front of a list, from place i on: the number, how many bytes it has, and an error. -/
def nums (most : Nat) : List UInt8 → Nat → Nat → Nat × Nat × Nat
  | [], _, _ => (0, 0, 6)
  | c :: l, i, n =>
    if i = 9 ∧ 1 < c.toNat then (0, 0, 9)
    else if 128 ≤ c.toNat then nums most l (i + 1) (n + c.toNat % 128 * 2 ^ (7 * i))
    else if 0 < i ∧ c.toNat = 0 then (0, 0, 8)
    else if most < n + c.toNat % 128 * 2 ^ (7 * i) then (0, 0, 3)
    else (n + c.toNat % 128 * 2 ^ (7 * i), i + 1, 0)

def numOf (l : List UInt8) (most : Nat) : Nat × Nat × Nat := nums most l 0 0

theorem nums_ok (most : Nat) : ∀ (l : List UInt8) (i N n s : Nat), nums most l i N = (n, s, 0) → i < s ∧ s ≤ i + l.length ∧ n ≤ most
  | [], i, N, n, s, h => by simp [nums] at h
  | c :: l, i, N, n, s, h => by
    rw [nums] at h
    split at h
    · simp at h
    · split at h
      · have := nums_ok most l (i + 1) _ n s h
        simp only [List.length_cons]; omega
      · split at h
        · simp at h
        · split at h
          · simp at h
          · simp only [Prod.mk.injEq, and_true] at h
            simp only [List.length_cons]; omega

theorem nums_bad (most : Nat) : ∀ (l : List UInt8) (i N n s e : Nat), nums most l i N = (n, s, e) → e ≠ 0 → n = 0 ∧ s = 0
  | [], i, N, n, s, e, h, he => by simp [nums] at h; omega
  | c :: l, i, N, n, s, e, h, he => by
    rw [nums] at h
    split at h
    · simp at h; omega
    · split at h
      · exact nums_bad most l (i + 1) _ n s e h he
      · split at h
        · simp at h; omega
        · split at h
          · simp at h; omega
          · simp only [Prod.mk.injEq] at h; omega

/-- The text at the front of a list. -/
def textOf (l : List UInt8) (most : Int) : List UInt8 × Nat × Nat :=
  let r := numOf l most.toNat
  if r.2.2 ≠ 0 then ([], 0, r.2.2)
  else if most < 0 then ([], 0, 3)
  else if l.length - r.2.1 < r.1 then ([], 0, 6)
  else ((l.drop r.2.1).take r.1, r.2.1 + r.1, 0)

end Go.Proofs.YtidomoibhjgkjaaDoor

/-
  What package pack writes: Uint, Int, Join, Text, each by a contract over lists of bytes.
-/
namespace Go.Proofs.YtidomoibhjgkjaaDoor
open Go.RowKit

theorem info_byte : (Tryd.prog.info? 5).map (fun i => (i.zero, i.size, i.bytes)) = some (some (.int .u8 0), 1, 1) := by kernel_rfl

theorem byte_nat (m : Nat) (h : m < 256) : ((UInt8.ofNat m).toNat : Int) = (m : Int) := by
  have : (UInt8.ofNat m).toNat = m := by simp; omega
  omega

end Go.Proofs.YtidomoibhjgkjaaDoor

/-
  The number at the front of a slice of bytes: pack's inner function number, by a contract over lists of bytes.
-/
namespace Go.Proofs.YtidomoibhjgkjaaDoor
open Go.RowKit

theorem number_at (l : List UInt8) (k : Nat) (h : k < l.length) : l.drop k = l[k] :: l.drop (k + 1) := List.drop_eq_getElem_cons h

/-- Seven bits more: nothing runs over ahead of the tenth byte, nor at it, where that is at most 1. -/
theorem shift_sum (k N x : Nat) (h9 : k ≤ 9) (hN : N < 2 ^ (7 * k)) (hx : k = 9 → x ≤ 1) :
    IntKind.u64.wrap ((N : Int) + IntKind.u64.wrap ((x : Int) % 128 * 2 ^ (7 * k))) = ((N + x % 128 * 2 ^ (7 * k) : Nat) : Int) ∧ (k ≤ 8 → N + x % 128 * 2 ^ (7 * k) < 2 ^ (7 * (k + 1))) := by
  have hx2 : k < 9 ∨ x ≤ 1 := by
    rcases Nat.lt_or_ge k 9 with h | h
    · exact .inl h
    · exact .inr (hx (by omega))
  clear hx
  rcases (show k = 0 ∨ k = 1 ∨ k = 2 ∨ k = 3 ∨ k = 4 ∨ k = 5 ∨ k = 6 ∨ k = 7 ∨ k = 8 ∨ k = 9 from by omega) with rfl | rfl | rfl | rfl | rfl | rfl | rfl | rfl | rfl | rfl
  all_goals
    simp only [Nat.reduceMul, Nat.reduceAdd, Nat.reducePow, Int.reducePow] at hN ⊢
    rw [IntWalk.u64_in ((x : Int) % 128 * _) ⟨by omega, by omega⟩, IntWalk.u64_in _ ⟨by omega, by omega⟩]
    exact ⟨by omega, by omega⟩

theorem nums_step (most : Nat) (l : List UInt8) (k N : Nat) (h : k < l.length) :
    nums most (l.drop k) k N = if k = 9 ∧ 1 < l[k].toNat then (0, 0, 9) else if 128 ≤ l[k].toNat then nums most (l.drop (k + 1)) (k + 1) (N + l[k].toNat % 128 * 2 ^ (7 * k)) else
      if 0 < k ∧ l[k].toNat = 0 then (0, 0, 8) else if most < N + l[k].toNat % 128 * 2 ^ (7 * k) then (0, 0, 3) else (N + l[k].toNat % 128 * 2 ^ (7 * k), k + 1, 0) := by
  rw [number_at l k h, nums]

theorem ret3 {a a' b b' c c' : Int} (h1 : a = a') (h2 : b = b') (h3 : c = c') : Ending.returned (.tuple #[.int .u64 a, .int .i64 b, .int .i64 c]) = .returned (.tuple #[.int .u64 a', .int .i64 b', .int .i64 c']) := by rw [h1, h2, h3]

end Go.Proofs.YtidomoibhjgkjaaDoor

/-
  What package pack reads: a Reader in memory, and each call on it, by contracts over lists of bytes.
-/
namespace Go.Proofs.YtidomoibhjgkjaaDoor
open Go.RowKit

/-- What End tells. -/
def endOf (l : List UInt8) (e : Nat) : Nat := if e = 0 ∧ 0 < l.length then 10 else e

theorem numOf_nat (l : List UInt8) (most : Nat) : ∃ n s e, numOf l most = (n, s, e) ∧ (e ≠ 0 → n = 0 ∧ s = 0) ∧ (e = 0 → 0 < s ∧ s ≤ l.length ∧ n ≤ most) := by
  obtain ⟨n, s, e, h⟩ : ∃ n s e, numOf l most = (n, s, e) := ⟨_, _, _, rfl⟩
  refine ⟨n, s, e, h, nums_bad most l 0 0 n s e h, fun he => ?_⟩
  subst he
  have := nums_ok most l 0 0 n s h
  omega

/-- What text tells. -/
def TextRet (r : List UInt8 × Nat × Nat) (w : World) (e : Ending) (w' : World) : Prop :=
  e = .returned (.tuple #[.string ⟨r.1.toArray⟩, .int .i64 r.2.1, .int .i64 r.2.2]) ∧ w = w'

theorem grown_refl (w : World) (row : Option Nat) : w.grownBy w row := ⟨rfl, rfl, rfl, Nat.le_refl _, fun _ _ _ => rfl⟩

/-- What Uint of a Reader tells, what is left, and its error. -/
def uintOf (l : List UInt8) (e most : Nat) : Nat × List UInt8 × Nat :=
  if e ≠ 0 then (0, l, e) else ((numOf l most).1, l.drop (numOf l most).2.1, (numOf l most).2.2)

/-- The greatest number without a sign. -/
def maxU : Nat := 18446744073709551615
theorem maxU_eq : maxU = 18446744073709551615 := rfl

theorem uintOf_le (l : List UInt8) (e most : Nat) : (uintOf l e most).1 ≤ most := by
  unfold uintOf
  split
  · exact Nat.zero_le _
  · obtain ⟨n, s, e', hq, hbad, hok⟩ := numOf_nat l most
    rw [hq]
    by_cases he : e' = 0
    · exact (hok he).2.2
    · show n ≤ most
      have := (hbad he).1; omega

/-- The number with a sign of one without. -/
def zag (n : Nat) : Int := if n % 2 = 1 then -1 - ((n / 2 : Nat) : Int) else ((n / 2 : Nat) : Int)

/-- What Byte tells, what is left, and its error. -/
def byteOf (l : List UInt8) (e : Nat) : Nat × List UInt8 × Nat :=
  if e ≠ 0 then (0, l, e) else match l with
    | [] => (0, [], 6)
    | b :: r => (b.toNat, r, 0)

/-- What Text of a Reader tells, what is left, and its error. -/
def textOfR (l : List UInt8) (e : Nat) (most : Int) : List UInt8 × List UInt8 × Nat :=
  if e ≠ 0 then ([], l, e) else ((textOf l most).1, l.drop (textOf l most).2.1, (textOf l most).2.2)

theorem textOf_nat (l : List UInt8) (most : Int) : (textOf l most).2.1 ≤ l.length := by
  unfold textOf
  obtain ⟨n, s, e, hq, hbad, hok⟩ := numOf_nat l most.toNat
  simp only [hq]
  split
  · simp
  · split
    · simp
    · split
      · simp
      · next h1 _ h2 => have := (hok (by omega)).2.1; simp only []; omega

end Go.Proofs.YtidomoibhjgkjaaDoor
