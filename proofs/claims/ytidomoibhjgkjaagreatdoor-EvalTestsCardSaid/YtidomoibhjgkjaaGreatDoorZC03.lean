import Derived.Test.YtidomoibhjgkjaaGreatDoorZC02
import Derived.Deep.RegionHeld3
import Derived.Deep.DeepCutAuto
import Derived.RegionTactic
import Derived.Deep.RegionHeld
import Derived.BigQuiet
import Derived.Deep.QuietTactic
import Derived.Lib.LaidTab
import Derived.Lib.ItoaNum
/-
  What the document's own answers write: Join, Uint, Int, Text of package conductorref01, by the same contracts as package pack's.
-/
namespace Go.Proofs.YtidomoibhjgkjaaGreatDoor
open Go.RowKit

end Go.Proofs.YtidomoibhjgkjaaGreatDoor

/-
  The document's own answers on values: Put of conductorref04.
-/
namespace Go.Proofs.YtidomoibhjgkjaaGreatDoor
open Go.RowKit

theorem Rd.drawn {w : World} {lo hi : Nat} {A : Option Addr} {l : List UInt8} (h : Rd w lo hi A l) : Rd w.drew lo hi A l := h
theorem wrap_u8_1 : IntKind.u8.wrap 1 = ((1 : UInt8).toNat : Int) := by decide
theorem wrap_u8_2 : IntKind.u8.wrap 2 = ((2 : UInt8).toNat : Int) := by decide
/-- A byte that was laid ahead of a call, or behind it, and what the call made. -/
theorem Rd.ahead {w w' : World} {e : TypeId} {x : Int} {b : UInt8} (hx : x = (b.toNat : Int)) (hb : Below (w.alloc (.cells #[.int .u8 x] e)).drew.heap.size (w.alloc (.cells #[.int .u8 x] e)).drew w') : Rd w' 0 w'.heap.size (some ⟨w.heap.size, 0, none⟩) [b] :=
  ((Rd.drawn (Rd.one w e x b hx)).below hb (by simp)).wide (Nat.zero_le _) (by have := hb.size; simp at this; omega)
theorem Rd.kept {w : World} {o : Obj} {lo : Nat} {A : Option Addr} {l : List UInt8} (h : Rd w lo w.heap.size A l) : Rd (w.alloc o) 0 (w.alloc o).heap.size A l :=
  (h.below ((Below.refl _ w).alloc (Nat.le_refl _) _) (Nat.le_refl _)).wide (Nat.zero_le _) (by simp)

theorem unInt_len (n : Int) (h0 : -9223372036854775808 ≤ n) (h1 : n ≤ 9223372036854775807) : (unInt n).length ≤ 10 := by
  unfold unInt
  exact un_ten (zig_lt n h0 h1)

/-- The fields of a value that was boxed. -/
def Boxed (w : World) (b : Nat) (v : V) : Prop := w.heap[b]? = some (.cells #[.int .i64 v.k, .int .i64 v.n, .string v.s] 27 (0, 0))
theorem Boxed.new (w : World) (k n : Int) (s : ByteArray) : Boxed (w.alloc (.cells #[.int .i64 k, .int .i64 n, .string s] 27)) w.heap.size ⟨k, n, s⟩ := heap_alloc_new w _
theorem Boxed.below {w w' : World} {b : Nat} {v : V} (h : Boxed w b v) (hb : Below w.heap.size w w') : Boxed w' b v := (hb.block b (Array.getElem?_eq_some_iff.1 h).1).trans h
theorem Boxed.lt {w : World} {b : Nat} {v : V} (h : Boxed w b v) : b < w.heap.size := (Array.getElem?_eq_some_iff.1 h).1
theorem Boxed.cells {w : World} {b : Nat} {v : V} (h : Boxed w b v) : w.cell? ⟨b, 0, none⟩ = some (.int .i64 v.k) ∧ w.cell? ⟨b, 1, none⟩ = some (.int .i64 v.n) ∧ w.cell? ⟨b, 2, none⟩ = some (.string v.s) :=
  ⟨cell_of_row _ _ 0 _ _ _ h, cell_of_row _ _ 1 _ _ _ h, cell_of_row _ _ 2 _ _ _ h⟩

end Go.Proofs.YtidomoibhjgkjaaGreatDoor

/-
  A number is cut off first, and reckoned from its end: the document's own way comes to what package pack reads.
-/
namespace Go.Proofs.YtidomoibhjgkjaaGreatDoor

/-- How many bytes a number has, from place i on, or what is wrong with it. -/
def cuts : List UInt8 → Nat → Nat × Nat
  | [], _ => (0, 6)
  | c :: l, i => if i = 9 ∧ 1 < c.toNat then (0, 9) else if 128 ≤ c.toNat then cuts l (i + 1) else if c.toNat = 0 ∧ 0 < i then (0, 8) else (i + 1, 0)

/-- The number of its bytes. -/
def val : List UInt8 → Nat
  | [] => 0
  | c :: l => c.toNat % 128 + 128 * val l

theorem cuts_ok : ∀ (l : List UInt8) (i s : Nat), cuts l i = (s, 0) → i < s ∧ s ≤ i + l.length
  | [], i, s, h => by simp [cuts] at h
  | c :: l, i, s, h => by
    rw [cuts] at h
    split at h
    · simp at h
    · split at h
      · have := cuts_ok l (i + 1) s h
        simp only [List.length_cons]; omega
      · split at h
        · simp at h
        · simp only [Prod.mk.injEq, and_true] at h
          simp only [List.length_cons]; omega

theorem cuts_bad : ∀ (l : List UInt8) (i s e : Nat), cuts l i = (s, e) → e ≠ 0 → s = 0
  | [], i, s, e, h, he => by simp [cuts] at h; omega
  | c :: l, i, s, e, h, he => by
    rw [cuts] at h
    split at h
    · simp at h; omega
    · split at h
      · exact cuts_bad l (i + 1) s e h he
      · split at h
        · simp at h; omega
        · simp only [Prod.mk.injEq] at h; omega

theorem nums_cuts_bad (most : Nat) : ∀ (l : List UInt8) (i N s e : Nat), cuts l i = (s, e) → e ≠ 0 → nums most l i N = (0, 0, e)
  | [], i, N, s, e, h, he => by simp [cuts] at h; simp [nums, ← h.2]
  | c :: l, i, N, s, e, h, he => by
    rw [cuts] at h
    rw [nums]
    split at h
    · next h1 => rw [if_pos h1]; simp at h; simp [← h.2]
    · next h1 =>
      rw [if_neg h1]
      split at h
      · next h2 => rw [if_pos h2]; exact nums_cuts_bad most l (i + 1) _ s e h he
      · next h2 =>
        rw [if_neg h2]
        split at h
        · next h3 => rw [if_pos ⟨h3.2, h3.1⟩]; simp at h; simp [← h.2]
        · simp only [Prod.mk.injEq] at h; omega

theorem nums_cuts (most : Nat) : ∀ (l : List UInt8) (i N s : Nat), cuts l i = (s, 0) →
    nums most l i N = if most < N + val (l.take (s - i)) * 2 ^ (7 * i) then (0, 0, 3) else (N + val (l.take (s - i)) * 2 ^ (7 * i), s, 0)
  | [], i, N, s, h => by simp [cuts] at h
  | c :: l, i, N, s, h => by
    have hc := c.toNat_lt
    have hk := cuts_ok _ i s h
    rw [cuts] at h
    rw [nums]
    split at h
    · simp at h
    · next h1 =>
      rw [if_neg h1]
      split at h
      · next h2 =>
        have hk2 := cuts_ok _ _ s h
        rw [if_pos h2, nums_cuts most l (i + 1) _ s h]
        have e1 : (c :: l).take (s - i) = c :: l.take (s - (i + 1)) := by rw [show s - i = (s - (i + 1)) + 1 from by omega, List.take_succ_cons]
        have e2 : N + c.toNat % 128 * 2 ^ (7 * i) + val (l.take (s - (i + 1))) * 2 ^ (7 * (i + 1)) = N + val (c :: l.take (s - (i + 1))) * 2 ^ (7 * i) := by
          rw [pow_step, val, Nat.add_mul, Nat.add_assoc]
          congr 2
          rw [← Nat.mul_assoc, Nat.mul_comm (val _) 128]
        rw [e1, e2]
      · next h2 =>
        rw [if_neg h2]
        split at h
        · simp at h
        · next h3 =>
          rw [if_neg (by omega)]
          simp only [Prod.mk.injEq, and_true] at h
          have e1 : (c :: l).take (s - i) = [c] := by rw [← h, show i + 1 - i = 0 + 1 from by omega, List.take_succ_cons]; rfl
          have e2 : val [c] = c.toNat % 128 := by simp [val]
          rw [e1, e2, h]

theorem cuts_val : ∀ (l : List UInt8) (i s : Nat), i ≤ 9 → cuts l i = (s, 0) → val (l.take (s - i)) < 2 ^ (64 - 7 * i)
  | [], i, s, _, h => by simp [cuts] at h
  | c :: l, i, s, h9, h => by
    have hc := c.toNat_lt
    have hk := cuts_ok _ i s h
    rw [cuts] at h
    split at h
    · simp at h
    · next h1 =>
      split at h
      · next h2 =>
        have h8 : i ≤ 8 := by omega
        have hk2 := cuts_ok _ _ s h
        have ih := cuts_val l (i + 1) s (by omega) h
        rw [show s - i = (s - (i + 1)) + 1 from by omega, List.take_succ_cons, val]
        have e1 : (2 : Nat) ^ (64 - 7 * i) = 128 * 2 ^ (64 - 7 * (i + 1)) := by
          rw [show 64 - 7 * i = 7 + (64 - 7 * (i + 1)) from by omega, Nat.pow_add]
        rw [e1]
        have := Nat.mod_lt c.toNat (show 0 < 128 from by omega)
        omega
      · next h2 =>
        split at h
        · simp at h
        · simp only [Prod.mk.injEq, and_true] at h
          rw [← h, show i + 1 - i = 0 + 1 from by omega, List.take_succ_cons]
          have e2 : val (c :: l.take 0) = c.toNat % 128 := by simp [val]
          rw [e2]
          rcases Nat.lt_or_ge i 9 with h8 | h8
          · have : (2 : Nat) ^ 8 ≤ 2 ^ (64 - 7 * i) := Nat.pow_le_pow_right (by omega) (by omega)
            omega
          · have : i = 9 := by omega
            subst this
            simp only [Nat.reduceMul, Nat.reduceSub, Nat.reducePow]
            omega

theorem val_take (l : List UInt8) (s : Nat) (h : cuts l 0 = (s, 0)) : val (l.take s) < 18446744073709551616 := by
  have := cuts_val l 0 s (by omega) h
  simpa using this

/-- What is read up to most, by what is cut off. -/
theorem numOf_cuts (l : List UInt8) (most s e : Nat) (h : cuts l 0 = (s, e)) : numOf l most = if e ≠ 0 then (0, 0, e) else if most < val (l.take s) then (0, 0, 3) else (val (l.take s), s, 0) := by
  unfold numOf
  by_cases he : e = 0
  · subst he
    rw [nums_cuts most l 0 0 s h]
    simp
  · rw [nums_cuts_bad most l 0 0 s e h he, if_pos he]

end Go.Proofs.YtidomoibhjgkjaaGreatDoor

/-
  The document's own Reader: each call on it, by contracts over lists of bytes, in the same words as package pack's.
-/
namespace Go.Proofs.YtidomoibhjgkjaaGreatDoor
open Go.RowKit

theorem cuts_step (l : List UInt8) (k : Nat) (h : k < l.length) :
    cuts (l.drop k) k = if k = 9 ∧ 1 < l[k].toNat then (0, 9) else if 128 ≤ l[k].toNat then cuts (l.drop (k + 1)) (k + 1) else if l[k].toNat = 0 ∧ 0 < k then (0, 8) else (k + 1, 0) := by
  rw [number_at l k h, cuts]

theorem ret2 {a a' b b' : Int} (h1 : a = a') (h2 : b = b') : Ending.returned (.tuple #[.int .i64 a, .int .i64 b]) = .returned (.tuple #[.int .i64 a', .int .i64 b']) := by rw [h1, h2]

theorem val_drop (l : List UInt8) (k : Nat) (h : k < l.length) : val (l.drop k) = l[k].toNat % 128 + 128 * val (l.drop (k + 1)) := by
  rw [number_at l k h, val]
theorem val_drop_le (l : List UInt8) : ∀ k, val (l.drop k) ≤ val l := by
  intro k
  induction k with
  | zero => simp
  | succ k ih =>
    rcases Nat.lt_or_ge k l.length with h | h
    · have := val_drop l k h
      omega
    · rw [List.drop_eq_nil_of_le (by omega)]; simp [val]

theorem grown_set {w : World} (g i : Nat) (u : Value) : w.grownBy (w.setCell ⟨g, i, none⟩ u) (some g) :=
  ⟨rfl, rfl, rfl, by simp [World.setCell], fun j _ hne => Below.heap_setCell _ _ _ _ (fun h => hne (by rw [h]))⟩

theorem grown_step {a b c : World} {row : Option Nat} (h : a.grownBy b row) (k : b.grownBy c row) : a.grownBy c row :=
  ⟨k.os.trans h.os, k.tape.trans h.tape, k.output.trans h.output, Nat.le_trans h.size k.size, fun i hi hne => (k.block i (Nat.lt_of_lt_of_le hi h.size) hne).trans (h.block i hi hne)⟩

end Go.Proofs.YtidomoibhjgkjaaGreatDoor

/-
  The chapter's examples: the law's own function live answers true, and changes nothing that was there.
-/
namespace Go.Proofs.YtidomoibhjgkjaaGreatDoor
open Go.RowKit

theorem un_300 : un 300 = [172, 2] := by
  rw [un_big (by omega), un_small (by omega)]; rfl
theorem unInt_m1 : unInt (-1) = [1] := by
  have : zig (-1) = 1 := by decide
  rw [unInt, this, un_small (by omega)]; rfl
theorem unText_ab : unText [97, 98] = [2, 97, 98] := by
  rw [unText, show ([97, 98] : List UInt8).length = 2 from rfl, un_small (by omega)]; rfl

theorem uintOf_80 : uintOf [128, 0] 0 maxU = (0, [128, 0], 8) := by
  simp [uintOf, numOf, nums]

/-- Two bytes that were built. -/
theorem Rd.twoL (w : World) (e : TypeId) (a b : UInt8) : Rd (w.alloc (.cells #[.int .u8 a.toNat, .int .u8 b.toNat] e)) w.heap.size (w.heap.size + 1) (some ⟨w.heap.size, 0, none⟩) [a, b] := fun _ => by
  refine ⟨w.heap.size, 0, rfl, Nat.le_refl _, by omega, fun j hj => ?_⟩
  rw [cell_of_row _ w.heap.size _ _ e (0, 0) (heap_alloc_new w _)]
  match j, hj with
  | 0, _ => rfl
  | 1, _ => rfl

/-- 'string(b)' of what was just written. -/
theorem conv_ret {w : World} {lo hi c n : Nat} {A : Option Addr} {m : List UInt8} (hn : n = m.length) (hr : Rd w lo hi A m) : (convert 143 9 (.slice A n c)).run Tryz.prog w = .ok (.string ⟨m.toArray⟩) w :=
  conv_rd 143 9 5 Tryz.underlying143 Tryz.underlying5 Tryz.underlying9 hn hr

end Go.Proofs.YtidomoibhjgkjaaGreatDoor

/-
  The document's own Reader, the other calls: Int, Byte, Text, Read.
-/
namespace Go.Proofs.YtidomoibhjgkjaaGreatDoor
open Go.RowKit

/-- What Text tells, by what Uint tells. -/
theorem textOfR_uint (l : List UInt8) (x : Int) (hx : x ≤ 9223372036854775807) : textOfR l 0 x = if (uintOf l 0 maxU).2.2 ≠ 0 then ([], l, (uintOf l 0 maxU).2.2)
    else if x < 0 ∨ x < (uintOf l 0 maxU).1 then ([], l, 3) else if (uintOf l 0 maxU).2.1.length < (uintOf l 0 maxU).1 then ([], l, 6)
    else ((uintOf l 0 maxU).2.1.take (uintOf l 0 maxU).1, (uintOf l 0 maxU).2.1.drop (uintOf l 0 maxU).1, 0) := by
  obtain ⟨s, e, hq⟩ : ∃ s e, cuts l 0 = (s, e) := ⟨_, _, rfl⟩
  have h1 := numOf_cuts l maxU s e hq
  have h2 := numOf_cuts l x.toNat s e hq
  by_cases he : e = 0
  · subst he
    have hv := val_take l s hq
    rw [if_neg (by omega), if_neg (by rw [maxU_eq]; omega)] at h1
    rw [if_neg (by omega)] at h2
    have hu : uintOf l 0 maxU = (val (l.take s), l.drop s, 0) := by simp [uintOf, h1]
    rw [hu, if_neg (by simp)]
    simp only []
    generalize val (l.take s) = V at *
    by_cases hb : x.toNat < V
    · rw [if_pos hb] at h2
      rw [if_pos (by omega)]
      simp [textOfR, textOf, h2]
    · rw [if_neg hb] at h2
      by_cases hx0 : x < 0
      · rw [if_pos (.inl hx0)]
        simp [textOfR, textOf, h2, hx0]
      · rw [if_neg (by omega)]
        by_cases hl : l.length - s < V
        · rw [if_pos (by rw [List.length_drop]; exact hl)]
          simp [textOfR, textOf, h2, hx0, hl]
        · rw [if_neg (by rw [List.length_drop]; exact hl)]
          simp [textOfR, textOf, h2, hx0, hl]
  · rw [if_pos he] at h1 h2
    have hu : uintOf l 0 maxU = (0, l, e) := by simp [uintOf, h1]
    rw [hu, if_pos he]
    simp [textOfR, textOf, h2, he]

theorem uintOf_bad (l : List UInt8) (e most n e' : Nat) (l' : List UInt8) (h : uintOf l e most = (n, l', e')) (he : e' ≠ 0) : l' = l := by
  unfold uintOf at h
  split at h
  · simp only [Prod.mk.injEq] at h; exact h.2.1.symm
  · obtain ⟨n1, s, e1, hq, hbad, _⟩ := numOf_nat l most
    rw [hq] at h
    simp only [Prod.mk.injEq] at h
    obtain ⟨_, h2, h3⟩ := h
    have := (hbad (by omega)).2
    subst this
    simpa using h2.symm

end Go.Proofs.YtidomoibhjgkjaaGreatDoor

/-
  The document's own answers on values: Take of conductorref04.
-/
namespace Go.Proofs.YtidomoibhjgkjaaGreatDoor
open Go.RowKit

/-- A value, how many bytes it has, and the error. -/
def retTake (x : V × Nat × Int) : Ending := .returned (.tuple #[x.1.val, .int .i64 x.2.1, .int .i64 x.2.2])

/-- 'b[1:]' of a slice that is not empty. -/
def tailA (bb o c : Nat) : Option Addr := if c = 1 then some ⟨bb, o, none⟩ else some ⟨bb, o + 1, none⟩
theorem slice_tail (bb o n c : Nat) (h : n + 1 ≤ c) (hc : c ≤ 9223372036854775807) (w : World) :
    (Instr.slice 143 (.slice (some ⟨bb, o, none⟩) (n + 1) c) (some (.int .i64 1)) none none).run Tryz.prog w = .ok (.slice (tailA bb o c) n (c - 1)) w := by
  by_cases h1 : c = 1
  · have hn : n = 0 := by omega
    subst h1 hn
    simp [Instr.slice, Instr.sliceBounds, Instr.sliceBound, asIntOf, run_underlying Tryz.underlying143, go_sem, tailA]
  · have h0 : c ≠ 0 := by omega
    simp [Instr.slice, Instr.sliceBounds, Instr.sliceBound, asIntOf, run_underlying Tryz.underlying143, go_sem, tailA, h1]
    intro h2
    omega
theorem tail_some (bb o c : Nat) : tailA bb o c = none → c - 1 = 0 := by
  unfold tailA
  split <;> (intro h; cases h)
theorem tail_rd {w : World} {lo hi bb o c : Nat} {x : UInt8} {t : List UInt8} (h : Rd w lo hi (some ⟨bb, o, none⟩) (x :: t)) (hc : t.length + 1 ≤ c) : Rd w lo hi (tailA bb o c) t := by
  have h1 := h.drop 1 c hc (by simp)
  have e : (if c = 1 then some ⟨bb, o, none⟩ else Option.map (fun a : Addr => a.add 1) (some ⟨bb, o, none⟩)) = tailA bb o c := by
    unfold tailA
    split
    · rfl
    · simp [addr_add]
  rw [e] at h1
  exact h1

theorem Boxed.setN {w : World} {b : Nat} {v : V} (n : Int) (h : Boxed w b v) : Boxed (w.setCell ⟨b, 1, none⟩ (.int .i64 n)) b ⟨v.k, n, v.s⟩ := by
  unfold Boxed at *
  simp [World.setCell, Array.getElem?_modify, h]
theorem Boxed.setS {w : World} {b : Nat} {v : V} (s : ByteArray) (h : Boxed w b v) : Boxed (w.setCell ⟨b, 2, none⟩ (.string s)) b ⟨v.k, v.n, s⟩ := by
  unfold Boxed at *
  simp [World.setCell, Array.getElem?_modify, h]
theorem Boxed.grown {w w' : World} {b : Nat} {v : V} {row : Option Nat} (h : Boxed w b v) (hg : w.grownBy w' row) (hne : row ≠ some b) : Boxed w' b v :=
  (hg.block b h.lt (fun e => hne e.symm)).trans h
theorem Boxed.frozen {w : World} {b : Nat} {v : V} (h : Boxed w b v) (o : Nat) : w.frozen? ⟨b, o, none⟩ = false := by
  unfold Boxed at h
  simp [World.frozen?, h]
theorem Boxed.set3 {w : World} {b : Nat} {v : V} (k n : Int) (s : ByteArray) (h : Boxed w b v) : Boxed (((w.setCell ⟨b, 0, none⟩ (.int .i64 k)).setCell ⟨b, 1, none⟩ (.int .i64 n)).setCell ⟨b, 2, none⟩ (.string s)).drew b ⟨k, n, s⟩ := by
  unfold Boxed at *
  simp [World.setCell, World.drew, Array.getElem?_modify, h]
theorem Below.set3 {w w' : World} {B b : Nat} (h : Below B w w') (hb : B ≤ b) (v0 v1 v2 : Value) : Below B w (((w'.setCell ⟨b, 0, none⟩ v0).setCell ⟨b, 1, none⟩ v1).setCell ⟨b, 2, none⟩ v2).drew :=
  (((h.setCell hb _).setCell hb _).setCell hb _).drew
theorem Boxed.set3' {w : World} {b : Nat} {v : V} (k n : Int) (s : ByteArray) (h : Boxed w b v) : Boxed (((w.setCell ⟨b, 0, none⟩ (.int .i64 k)).setCell ⟨b, 1, none⟩ (.int .i64 n)).setCell ⟨b, 2, none⟩ (.string s)) b ⟨k, n, s⟩ := h.set3 k n s
theorem Below.set3' {w w' : World} {B b : Nat} (h : Below B w w') (hb : B ≤ b) (v0 v1 v2 : Value) : Below B w (((w'.setCell ⟨b, 0, none⟩ v0).setCell ⟨b, 1, none⟩ v1).setCell ⟨b, 2, none⟩ v2) :=
  ((h.setCell hb _).setCell hb _).setCell hb _
theorem v8_ne {b : UInt8} {n : Nat} (hn : n < 256) (h : b ≠ UInt8.ofNat n) : ((b.toNat : Int) == (n : Int)) = false := by
  rw [beq_eq_false_iff_ne]
  intro e
  apply h
  apply UInt8.toNat_inj.1
  rw [UInt8.toNat_ofNat']
  omega

end Go.Proofs.YtidomoibhjgkjaaGreatDoor

/-
  Texts of values in plain words; what package value has to answer, as contracts that the walks of its statements take for granted; and the chapter's examples from them.
-/
namespace Go.Proofs.YtidomoibhjgkjaaGreatDoor
open Go.RowKit

/-! ### texts of values -/
/-- A number without a sign in digits. -/
def natL (n : Nat) : List UInt8 := if n < 10 then [UInt8.ofNat (48 + n)] else natL (n / 10) ++ [UInt8.ofNat (48 + n % 10)]
  termination_by n
  decreasing_by omega
theorem natL_small {n : Nat} (h : n < 10) : natL n = [UInt8.ofNat (48 + n)] := by rw [natL, if_pos h]
theorem natL_big {n : Nat} (h : 10 ≤ n) : natL n = natL (n / 10) ++ [UInt8.ofNat (48 + n % 10)] := by rw [natL, if_neg (by omega)]
theorem natL_len (k : Nat) : ∀ n, n < 10 ^ (k + 1) → (natL n).length ≤ k + 1 := by
  induction k with
  | zero => intro n h; rw [natL_small (by omega)]; simp
  | succ k ih =>
    intro n h
    by_cases h1 : n < 10
    · rw [natL_small h1]; simp
    · rw [natL_big (by omega), List.length_append]
      have := ih (n / 10) (by rw [Nat.pow_succ] at h; omega)
      simp
      omega
def intL (n : Int) : List UInt8 := if n < 0 then 45 :: natL (-n).toNat else natL n.toNat
/-- A byte as it stands between quotes. -/
def escB (c : UInt8) : List UInt8 := if c = 34 ∨ c = 92 then [92, c] else if 32 ≤ c.toNat ∧ c.toNat ≤ 126 then [c] else [92, digB (c.toNat / 16), digB (c.toNat % 16)]
def escL (l : List UInt8) : List UInt8 := l.flatMap escB
theorem escL_len (l : List UInt8) : (escL l).length ≤ 3 * l.length := by
  induction l with
  | nil => simp [escL]
  | cons c l ih =>
    have h1 : (escB c).length ≤ 3 := by
      unfold escB
      split
      · simp
      · split <;> simp
    have e : escL (c :: l) = escB c ++ escL l := by simp [escL]
    rw [e, List.length_append, List.length_cons]
    omega
def printV (v : V) : List UInt8 :=
  if v.k = 1 then intL v.n
  else if v.k = 2 then (if v.n ≠ 0 then [116, 114, 117, 101] else [102, 97, 108, 115, 101])
  else 34 :: (escL v.s.data.toList ++ [34])
theorem print_len {v : V} (h : rightV v = 0) (h0 : -9223372036854775808 ≤ v.n) (h1 : v.n ≤ 9223372036854775807) : (printV v).length ≤ 1000 := by
  unfold printV
  split
  · unfold intL
    split
    · have := natL_len 19 (-v.n).toNat (by omega)
      simp; omega
    · have := natL_len 19 v.n.toNat (by omega)
      omega
  · split
    · split <;> simp
    · have hk : v.k = 3 := by rcases right_kind h with e | e | e <;> omega
      have hs := (right_text h hk).1
      have hl : v.s.data.toList.length = v.s.size := rfl
      have := escL_len v.s.data.toList
      simp
      omega
def isNum (c : UInt8) : Bool := decide (48 ≤ c.toNat) && decide (c.toNat ≤ 57)
def isWord (c : UInt8) : Bool := (decide (97 ≤ c.toNat) && decide (c.toNat ≤ 122)) || isNum c || c == 45
/-- What may follow a value's text. -/
def moreOk (k : Int) : List UInt8 → Bool
  | [] => true
  | c :: _ => if k = 1 then !isNum c else if k = 2 then !isWord c else true

/-! ### contracts -/
/-- The library's table of powers of ten lies as its text lays it. -/
def TabW (w : World) : Prop := ∃ t fz, w.heap[1]? = some (.cells (Lib.pow10Tab.map fun z => Value.int .u64 z).toArray t fz)
theorem TabW.below {w w' : World} (h : TabW w) (hb : Below w.heap.size w w') : TabW w' := by
  obtain ⟨t, fz, e⟩ := h
  exact ⟨t, fz, (hb.block _ (Array.getElem?_eq_some_iff.1 e).1).trans e⟩
def RightC : Prop := ∀ (v : V) (w : World), Calls Tryz.prog 113 #[v.val] w fun r w' => r = .returned (.int .i64 (rightV v)) ∧ Below w.heap.size w w'
def IntC : Prop := ∀ (n : Int) (w : World), -9223372036854775808 ≤ n → n ≤ 9223372036854775807 → Calls Tryz.prog 95 #[.int .i64 n] w fun r w' => r = .returned (.agg #[.int .i64 1, .int .i64 n, .string ⟨#[]⟩]) ∧ Below w.heap.size w w'
def BoolC : Prop := ∀ (b : Bool) (w : World), Calls Tryz.prog 57 #[.bool b] w fun r w' => r = .returned (.agg #[.int .i64 2, .int .i64 (if b = true then 1 else 0), .string ⟨#[]⟩]) ∧ Below w.heap.size w w'
def TextC : Prop := ∀ (s : ByteArray) (w : World), Calls Tryz.prog 91 #[.string s] w fun r w' => r = .returned (.agg #[.int .i64 3, .int .i64 0, .string s]) ∧ Below w.heap.size w w'
theorem call_from {P : Program} {f : FuncId} {args : Array Value} {v : Value} {W wx : World} (hb : Below W.heap.size W wx) (h : Calls P f args wx fun r w' => r = .returned v ∧ Below wx.heap.size wx w') :
    Calls P f args wx fun r w' => r = .returned v ∧ Below W.heap.size W w' := h.mono fun _ _ ⟨a, b⟩ => ⟨a, hb.trans (b.mono hb.size)⟩

theorem put_m1 : putV ⟨1, -1, ⟨#[]⟩⟩ = [1, 1] := by
  rw [put_right (right_int _)]
  show UInt8.ofNat (1 : Int).toNat :: unInt (-1) = _
  rw [unInt_m1]
  rfl
theorem natL_12 : natL 12 = [49, 50] := by
  rw [natL_big (by omega), natL_small (by omega)]
  rfl
theorem print_12 : printV ⟨1, 12, ⟨#[]⟩⟩ = [49, 50] := by
  show intL 12 = _
  rw [intL, if_neg (by omega)]
  exact natL_12
theorem print_q : printV ⟨3, 0, ⟨#[34]⟩⟩ = [34, 92, 34, 34] := rfl

theorem field_true (w : World) : (Instr.field 27 (.agg #[.int .i64 2, .int .i64 1, .string ⟨#[]⟩]) 1).run Tryz.prog w = .ok (.int .i64 1) w := by kernel_rfl

end Go.Proofs.YtidomoibhjgkjaaGreatDoor
