import Derived.Test.YtidomoibhjgkjaaGreatDoorZC11
import Derived.Test.YtidomoibhjgkjaaGreatDoorZC13
import Derived.Test.YtidomoibhjgkjaaGreatDoorZC01
import Derived.Deep.AppendLies
import Derived.Deep.RegionHeld3
import Derived.Deep.RegionLaw
import Derived.Deep.DeepCutAuto
/-
  Package expr: how many values an Op takes, how strong it is, how strong what it takes must be; letters, digits.
-/
namespace Go.Proofs.YtidomoibhjgkjaaGreatDoor
open Go.RowKit

def takesD (op : Int) : Int := if op < 0 ∨ 18 < op then -1 else if op < 3 then 0 else if op < 6 then 1 else 2
def strD (op : Int) : Nat := if op = 18 then 1 else if op = 17 then 2 else if 11 ≤ op ∧ op ≤ 16 then 3 else if op = 9 ∨ op = 10 then 4 else if 6 ≤ op ∧ op ≤ 8 then 5 else if op = 3 ∨ op = 4 then 6 else 7
def leastD (op place : Int) : Nat := if op = 5 then 0 else if 0 < place ∨ strD op = 3 then strD op + 1 else strD op
theorem takesD_two {op : Int} : takesD op = 2 ↔ isTwo op = true := by
  unfold takesD isTwo
  constructor
  · intro h
    split at h
    · omega
    · split at h
      · omega
      · split at h
        · omega
        · simp; omega
  · intro h
    simp at h
    rw [if_neg (by omega), if_neg (by omega), if_neg (by omega)]
theorem takesD_le (op : Int) : -1 ≤ takesD op ∧ takesD op ≤ 2 := by
  unfold takesD
  split
  · omega
  · split
    · omega
    · split <;> omega
theorem strD_le (op : Int) : strD op ≤ 7 := by
  unfold strD
  repeat' split
  all_goals omega
theorem strD_two {op : Int} (h : isTwo op = true) : strD op = strOf op + 1 := by
  unfold isTwo at h
  simp at h
  unfold strD strOf
  repeat' split
  all_goals omega
set_option maxHeartbeats 1000000 in
theorem dTakes_any (op : Int) (w : World) : Calls Tryz.prog 84 #[.int .i64 op] w fun e w' => e = .returned (.int .i64 (takesD op)) ∧ w' = w := by
  have key : (decide (op < 0) = true ∧ takesD op = -1) ∨ (decide (op < 0) = false ∧ decide (18 < op) = true ∧ takesD op = -1) ∨ (decide (op < 0) = false ∧ decide (18 < op) = false ∧ ((decide (op < 3) = true ∧ takesD op = 0) ∨ (decide (op < 3) = false ∧ decide (op < 6) = true ∧ takesD op = 1) ∨ (decide (op < 3) = false ∧ decide (op < 6) = false ∧ takesD op = 2))) := by
    unfold takesD
    simp only [decide_eq_true_eq, decide_eq_false_iff_not]
    repeat' split
    all_goals omega
  rcases key with ⟨h1, e⟩ | ⟨h1, h2, e⟩ | ⟨h1, h2, ⟨h3, e⟩ | ⟨h3, h4, e⟩ | ⟨h3, h4, e⟩⟩
  all_goals
    rw [e]
    clear e
    go_enter Tryz.func84, Tryz.ntmps84
    go_wp2
    go_ret
    exact ⟨rfl, rfl⟩

set_option maxHeartbeats 4000000 in
theorem dStrength_any (op : Int) (w : World) : Calls Tryz.prog 116 #[.int .i64 op] w fun e w' => e = .returned (.int .i64 (strD op : Int)) ∧ w' = w := by
  by_cases h : 3 ≤ op ∧ op ≤ 18 ∧ op ≠ 5
  · obtain ⟨h1, h2, h3⟩ := h
    have hs : op = 3 ∨ op = 4 ∨ op = 6 ∨ op = 7 ∨ op = 8 ∨ op = 9 ∨ op = 10 ∨ op = 11 ∨ op = 12 ∨ op = 13 ∨ op = 14 ∨ op = 15 ∨ op = 16 ∨ op = 17 ∨ op = 18 := by omega
    clear h1 h2 h3
    rcases hs with rfl | rfl | rfl | rfl | rfl | rfl | rfl | rfl | rfl | rfl | rfl | rfl | rfl | rfl | rfl
    all_goals
      go_enter Tryz.func116, Tryz.ntmps116
      go_wp2
      go_ret
      exact ⟨rfl, rfl⟩
  · have e : strD op = 7 := by
      unfold strD
      rw [if_neg (by omega), if_neg (by omega), if_neg (by omega), if_neg (by omega), if_neg (by omega), if_neg (by omega)]
    have d : ∀ n : Int, 3 ≤ n → n ≤ 18 → n ≠ 5 → (op == n) = false := fun n a b c => by rw [beq_eq_false_iff_ne]; rintro rfl; exact h ⟨a, b, c⟩
    have d3 := d 3 (by decide) (by decide) (by decide)
    have d4 := d 4 (by decide) (by decide) (by decide)
    have d6 := d 6 (by decide) (by decide) (by decide)
    have d7 := d 7 (by decide) (by decide) (by decide)
    have d8 := d 8 (by decide) (by decide) (by decide)
    have d9 := d 9 (by decide) (by decide) (by decide)
    have d10 := d 10 (by decide) (by decide) (by decide)
    have d11 := d 11 (by decide) (by decide) (by decide)
    have d12 := d 12 (by decide) (by decide) (by decide)
    have d13 := d 13 (by decide) (by decide) (by decide)
    have d14 := d 14 (by decide) (by decide) (by decide)
    have d15 := d 15 (by decide) (by decide) (by decide)
    have d16 := d 16 (by decide) (by decide) (by decide)
    have d17 := d 17 (by decide) (by decide) (by decide)
    have d18 := d 18 (by decide) (by decide) (by decide)
    rw [e]
    clear e d h
    go_enter Tryz.func116, Tryz.ntmps116
    go_wp2
    go_ret
    exact ⟨rfl, rfl⟩

set_option maxHeartbeats 2000000 in
theorem dLeast_any (op place : Int) (w : World) : Calls Tryz.prog 117 #[.int .i64 op, .int .i64 place] w fun e w' => e = .returned (.int .i64 (leastD op place : Int)) ∧ w' = w := by
  have HS := Lib.hid (dStrength_any op)
  have hle := strD_le op
  by_cases h5 : op = 5
  · subst h5
    have e : leastD 5 place = 0 := rfl
    rw [e]
    go_enter Tryz.func117, Tryz.ntmps117
    go_wp2_with (go_at_call 116; refine (HS.out _).mono ?_; rintro r w' ⟨rfl, rfl⟩)
    go_ret
    exact ⟨rfl, rfl⟩
  · have d5 : (op == 5) = false := by rw [beq_eq_false_iff_ne]; exact h5
    by_cases hp : 0 < place
    · have dp : decide (0 < place) = true := by simpa using hp
      have e : leastD op place = strD op + 1 := by unfold leastD; rw [if_neg h5, if_pos (.inl hp)]
      rw [e]
      generalize strD op = s at *
      clear e h5 hp
      go_enter Tryz.func117, Tryz.ntmps117
      go_wp2_with (go_at_call 116; refine (HS.out _).mono ?_; rintro r w' ⟨rfl, rfl⟩)
      go_ret
      exact ⟨rfl, rfl⟩
    · have dp : decide (0 < place) = false := by rw [decide_eq_false_iff_not]; exact hp
      by_cases h3 : strD op = 3
      · have e : leastD op place = 4 := by unfold leastD; rw [if_neg h5, if_pos (.inr h3), h3]
        rw [e]
        rw [h3] at HS
        clear e h5 hp
        go_enter Tryz.func117, Tryz.ntmps117
        go_wp2_with (go_at_call 116; refine (HS.out _).mono ?_; rintro r w' ⟨rfl, rfl⟩)
        go_ret
        exact ⟨rfl, rfl⟩
      · have e : leastD op place = strD op := by unfold leastD; rw [if_neg h5, if_neg (by omega)]
        rw [e]
        generalize strD op = s at *
        have d3 : ((s : Int) == 3) = false := by rw [beq_eq_false_iff_ne]; omega
        have d3' : (s == 3) = false := by rw [beq_eq_false_iff_ne]; omega
        clear e h5 hp
        go_enter Tryz.func117, Tryz.ntmps117
        go_wp2_with (go_at_call 116; refine (HS.out _).mono ?_; rintro r w' ⟨rfl, rfl⟩)
        go_ret
        exact ⟨rfl, rfl⟩

def letD (c : UInt8) : Bool := decide (97 ≤ c.toNat) && decide (c.toNat ≤ 122)
def numD (c : UInt8) : Bool := decide (48 ≤ c.toNat) && decide (c.toNat ≤ 57)
end Go.Proofs.YtidomoibhjgkjaaGreatDoor

/-
  Package expr: a reader in memory: what is open, and the terms, each in a slice of its own.
-/
namespace Go.Proofs.YtidomoibhjgkjaaGreatDoor
open Go.RowKit

/-! ### the cells of terms -/
def cellsT (x : TM) : List Value := [.int .i64 x.op, .int .i64 x.v.k, .int .i64 x.v.n, .string x.v.s, .string x.nm]
def flatT (l : List TM) : List Value := l.flatMap cellsT
theorem flatT_cons (x : TM) (l : List TM) : flatT (x :: l) = cellsT x ++ flatT l := by simp [flatT]
theorem flatT_append (a b : List TM) : flatT (a ++ b) = flatT a ++ flatT b := by simp [flatT]
theorem flatT_one (x : TM) : flatT [x] = cellsT x := by simp [flatT]
theorem flatT_len (l : List TM) : (flatT l).length = l.length * 5 := by
  induction l with
  | nil => rfl
  | cons x l ih => rw [flatT_cons, List.length_append, ih, List.length_cons]; simp [cellsT]; omega
theorem cellsT_one (x : TM) : ∀ v ∈ cellsT x, v.oneCell' = true := by
  intro v hv
  simp only [cellsT, List.mem_cons, List.not_mem_nil, or_false] at hv
  rcases hv with rfl | rfl | rfl | rfl | rfl <;> rfl
theorem flatT_at : ∀ (l : List TM) (j : Nat) (h : j < l.length), (flatT l)[j * 5]? = some (.int .i64 (l[j]'h).op) ∧ (flatT l)[j * 5 + 1]? = some (.int .i64 (l[j]'h).v.k) ∧ (flatT l)[j * 5 + 2]? = some (.int .i64 (l[j]'h).v.n) ∧ (flatT l)[j * 5 + 3]? = some (.string (l[j]'h).v.s) ∧ (flatT l)[j * 5 + 4]? = some (.string (l[j]'h).nm)
  | [], _, h => absurd h (by simp)
  | x :: l, 0, _ => by simp [flatT_cons, cellsT]
  | x :: l, j + 1, h => by
    have ih := flatT_at l j (by simpa using h)
    have e : ∀ k, (flatT (x :: l))[(j + 1) * 5 + k]? = (flatT l)[j * 5 + k]? := fun k => by
      rw [flatT_cons, List.getElem?_append_right (by simp [cellsT]; omega)]
      congr 1
      simp [cellsT]
      omega
    have e0 := e 0
    simp only [Nat.add_zero] at e0
    rw [e0, e 1, e 2, e 3, e 4]
    exact ih
theorem flatT_take (l : List TM) (n : Nat) : (flatT l).take (n * 5) = flatT (l.take n) := by
  induction l generalizing n with
  | nil => simp [flatT]
  | cons x l ih =>
    cases n with
    | zero => simp [flatT]
    | succ n =>
      rw [List.take_succ_cons, flatT_cons, flatT_cons, ← ih, List.take_append]
      have hl : (cellsT x).length = 5 := rfl
      rw [hl, List.take_of_length_le (by rw [hl]; omega)]
      congr 2
      omega
theorem infoTerm : ∃ i z, Tryz.prog.info? 47 = some i ∧ i.zero = some z ∧ z.cells.size = 5 ∧ i.size = 5 ∧ i.bytes = 56 := by
  have h : (Tryz.prog.info? 47).map (fun i => (i.zero.map (fun z => z.cells.size), i.size, i.bytes)) = some (some 5, 5, 56) := by kernel_rfl
  obtain ⟨i, hi, hz⟩ := Option.map_eq_some_iff.1 h
  simp only [Prod.mk.injEq] at hz
  obtain ⟨z, hz0, hz1⟩ := Option.map_eq_some_iff.1 hz.1
  exact ⟨i, z, hi, hz0, hz1, hz.2.1, hz.2.2⟩

/-! ### slices of the call's own -/
/-- A slice of these terms, in a block from lo on that nothing else has. -/
def OwnT (w : World) (lo : Nat) (v : Value) (l : List TM) : Prop := w.ownsRow lo 47 5 v l.length (flatT l)
theorem OwnT.form {w : World} {lo : Nat} {v : Value} {l : List TM} (h : OwnT w lo v l) : ∃ A c, v = .slice A l.length c := by
  rcases h.2 with ⟨hv, hn⟩ | ⟨g, cap, cur, hv, _⟩
  · exact ⟨none, 0, by rw [hv, hn]⟩
  · exact ⟨_, cap, hv⟩
theorem OwnT.nil (w : World) (lo : Nat) : OwnT w lo (.slice none 0 0) [] := World.ownsRow_nil _ _ _ _
theorem OwnT.keep {w w' : World} {lo lo' : Nat} {v : Value} {l : List TM} (h : OwnT w lo v l) (hk : ∀ g, v.ownBlock = some g → g < w.heap.size → w'.heap[g]? = w.heap[g]?) (hlo : lo' ≤ lo) : OwnT w' lo' v l := by
  refine ⟨h.1, ?_⟩
  rcases h.2 with h2 | ⟨g, cap, cur, hv, hb, hg, r⟩
  · exact .inl h2
  · refine .inr ⟨g, cap, cur, hv, by omega, ?_, r⟩
    rw [hk g (by rw [hv]; rfl) (Array.getElem?_eq_some_iff.1 hg).1]
    exact hg
theorem OwnT.lt {w : World} {lo : Nat} {v : Value} {l : List TM} (h : OwnT w lo v l) : ∀ g, v.ownBlock = some g → lo ≤ g ∧ g < w.heap.size := fun g hg => World.ownsRow.lt h g hg
theorem OwnT.reads {w : World} {lo : Nat} {A : Option Addr} {n c : Nat} {l : List TM} (h : OwnT w lo (.slice A n c) l) : RowT w lo w.heap.size A l := fun hp => by
  rcases h.2 with ⟨hv, hn⟩ | ⟨g, cap, cur, hv, hb, hg, _⟩
  · omega
  · injection hv with e1 e2 e3
    subst e1
    refine ⟨g, 0, rfl, hb, (Array.getElem?_eq_some_iff.1 hg).1, fun j hj => ?_⟩
    have hc := h.cells (g := g) rfl
    obtain ⟨t0, t1, t2, t3, t4⟩ := flatT_at l j hj
    have add : ∀ k, (⟨g, 0, none⟩ : Addr).add k = ⟨g, k, none⟩ := fun k => by unfold Addr.add; split <;> simp_all
    have c0 := hc _ _ t0
    have c1 := hc _ _ t1
    have c2 := hc _ _ t2
    have c3 := hc _ _ t3
    have c4 := hc _ _ t4
    rw [add] at c0 c1 c2 c3 c4
    rw [Nat.zero_add]
    exact ⟨c0, c1, c2, c3, c4⟩
/-- Less of it, with the same room. -/
theorem OwnT.cut {w : World} {lo n c : Nat} {A : Option Addr} {l : List TM} (h : OwnT w lo (.slice A n c) l) (k : Nat) (hk : k ≤ l.length) (hn : 0 < l.length) : OwnT w lo (.slice A k c) (l.take k) := by
  have hl := flatT_len (l.take k)
  rcases h.2 with ⟨hv, h0⟩ | ⟨g, cap, cur, hv, hb, hg, hcap, hm, hcs, htk⟩
  · omega
  · injection hv with e1 e2 e3
    subst e1 e2 e3
    have hlk : (l.take k).length = k := by rw [List.length_take]; omega
    refine ⟨hl, .inr ⟨g, c, cur, by rw [hlk], hb, hg, by omega, hm, hcs, ?_⟩⟩
    rw [hlk, ← flatT_take, ← htk, List.take_take, Nat.min_eq_left (by omega)]
theorem OwnT.slice_n {w : World} {lo n c : Nat} {A : Option Addr} {l : List TM} (h : OwnT w lo (.slice A n c) l) : n = l.length := by
  obtain ⟨A', c', e⟩ := h.form
  injection e

/-! ### the footprint of a reader's calls -/
/-- Of what lies below lo, the block b alone may have turned. -/
structure Foot (b lo : Nat) (w w' : World) : Prop where
  os : w'.os = w.os
  tape : w'.tape = w.tape
  output : w'.output = w.output
  size : w.heap.size ≤ w'.heap.size
  block : ∀ k, k < lo → k ≠ b → w'.heap[k]? = w.heap[k]?
theorem Foot.refl (b lo : Nat) (w : World) : Foot b lo w w := ⟨rfl, rfl, rfl, Nat.le_refl _, fun _ _ _ => rfl⟩
theorem Foot.trans {b lo : Nat} {x y z : World} (h : Foot b lo x y) (k : Foot b lo y z) : Foot b lo x z :=
  ⟨k.os.trans h.os, k.tape.trans h.tape, k.output.trans h.output, Nat.le_trans h.size k.size, fun i h1 h2 => (k.block i h1 h2).trans (h.block i h1 h2)⟩
theorem Foot.of_below {b lo B : Nat} {x y : World} (h : Below B x y) (hB : lo ≤ B) : Foot b lo x y := ⟨h.os, h.tape, h.output, h.size, fun k h1 _ => h.block k (by omega)⟩
theorem Foot.drew {b lo : Nat} {a w : World} (h : Foot b lo a w) : Foot b lo a w.drew := ⟨h.os, h.tape, h.output, h.size, h.block⟩
theorem Foot.alloc {b lo : Nat} {a w : World} (h : Foot b lo a w) (hB : lo ≤ w.heap.size) (o : Obj) : Foot b lo a (w.alloc o) :=
  h.trans ⟨rfl, rfl, rfl, by simp, fun k hk _ => Below.heap_alloc _ _ _ (by omega)⟩
theorem Foot.setCell {b lo : Nat} {a w : World} (h : Foot b lo a w) {p : Addr} (hp : p.block = b ∨ lo ≤ p.block) (u : Value) : Foot b lo a (w.setCell p u) :=
  h.trans ⟨rfl, rfl, rfl, by simp [World.setCell], fun k hk hb => Below.heap_setCell _ _ _ _ (by omega)⟩
theorem Foot.grown {b lo : Nat} {a w w' : World} {row : Option Nat} (h : Foot b lo a w) (hg : w.grownBy w' row) (hB : lo ≤ w.heap.size) (hr : ∀ k, row = some k → lo ≤ k) : Foot b lo a w' :=
  h.trans ⟨hg.os, hg.tape, hg.output, hg.size, fun k hk _ => hg.block k (by omega) (fun e => by have := hr k e.symm; omega)⟩
theorem Foot.below {b lo B : Nat} {x y : World} (h : Foot b lo x y) (hB : B ≤ b) (hbl : B ≤ lo) : Below B x y := ⟨h.os, h.tape, h.output, h.size, fun k hk => h.block k (by omega) (by omega)⟩

section
variable {w : World} {b : Nat} {wants call deep : Int} {v1 v2 : Value}
end
/-- What is open innermost; -1: nothing is. -/
def lastM : List TM → Int
  | [] => -1
  | t :: _ => t.op
def totalS (s : ST) : Nat := s.st.length + s.out.length
theorem ndeep_le : ∀ S : List TM, ndeep S ≤ S.length
  | [] => Nat.le_refl _
  | t :: S => by
    have := ndeep_le S
    rw [ndeep, List.length_cons]
    split <;> omega

end Go.Proofs.YtidomoibhjgkjaaGreatDoor

/-
  Package expr: what was opened last is closed; what opens.
-/
namespace Go.Proofs.YtidomoibhjgkjaaGreatDoor
open Go.RowKit

theorem newsT (w : World) (e : TypeId) (x : TM) : ∀ j u, (cellsT x)[j]? = some u → (w.alloc (.cells #[.int .i64 x.op, .int .i64 x.v.k, .int .i64 x.v.n, .string x.v.s, .string x.nm] e)).cell? ((⟨w.heap.size, 0, none⟩ : Addr).add j) = some u := fun j u hu => by
  have add : (⟨w.heap.size, 0, none⟩ : Addr).add j = ⟨w.heap.size, j, none⟩ := by unfold Addr.add; split <;> simp_all
  rw [add, cell_of_row _ w.heap.size _ _ e (0, 0) (heap_alloc_new w _)]
  simpa [cellsT] using hu
/-- Behind an append to the one slice the other one is as it was. -/
theorem OwnT.other {w w' : World} {lo : Nat} {v v' : Value} {l : List TM} (h : OwnT w lo v l) (hg : w.grownBy w' v'.ownBlock) (hne : ∀ g, v'.ownBlock = some g → v.ownBlock ≠ some g) : OwnT w' lo v l :=
  h.keep (fun g hv hlt => hg.block g hlt (fun e => hne g e.symm hv)) (Nat.le_refl _)
theorem OwnT.set {w : World} {lo b o : Nat} {v u : Value} {l : List TM} (h : OwnT w lo v l) (hb : b < lo) : OwnT (w.setCell ⟨b, o, none⟩ u) lo v l := ownsRow_setCell_below h hb u
theorem OwnT.allocs {w : World} {lo : Nat} {v : Value} {l : List TM} (h : OwnT w lo v l) (o : Obj) : OwnT (w.alloc o) lo v l := World.ownsRow.alloc h o
theorem OwnT.drews {w : World} {lo : Nat} {v : Value} {l : List TM} (h : OwnT w lo v l) : OwnT w.drew lo v l := h

end Go.Proofs.YtidomoibhjgkjaaGreatDoor
