import Derived.Test.YtfpjepeikjfkpaaGreatDoorZC06
import Derived.Test.YtfpjepeikjfkpaaGreatDoorZC08
import Derived.Test.YtfpjepeikjfkpaaGreatDoorZC01
import Derived.Deep.AppendLies
/-
  Package expr: how many values an Op takes, how strong it is, how strong what it takes must be; letters, digits.
-/
namespace Go.Proofs.YtfpjepeikjfkpaaGreatDoor
open Go.RowKit

def takesD (op : Int) : Int := if op < 0 ∨ 18 < op then -1 else if op < 3 then 0 else if op < 6 then 1 else 2
def strD (op : Int) : Nat := if op = 18 then 1 else if op = 17 then 2 else if 11 ≤ op ∧ op ≤ 16 then 3 else if op = 9 ∨ op = 10 then 4 else if 6 ≤ op ∧ op ≤ 8 then 5 else if op = 3 ∨ op = 4 then 6 else 7
def leastD (op place : Int) : Nat := if op = 5 then 0 else if 0 < place ∨ strD op = 3 then strD op + 1 else strD op
theorem takesD_two {op : Int} : takesD op = 2 ↔ isTwo op = true := by
  unfold takesD isTwo
  constructor
  · intro h
    split at h
    · omega
    · split at h
      · omega
      · split at h
        · omega
        · simp; omega
  · intro h
    simp at h
    rw [if_neg (by omega), if_neg (by omega), if_neg (by omega)]
theorem takesD_le (op : Int) : -1 ≤ takesD op ∧ takesD op ≤ 2 := by
  unfold takesD
  split
  · omega
  · split
    · omega
    · split <;> omega
theorem strD_le (op : Int) : strD op ≤ 7 := by
  unfold strD
  repeat' split
  all_goals omega
theorem strD_two {op : Int} (h : isTwo op = true) : strD op = strOf op + 1 := by
  unfold isTwo at h
  simp at h
  unfold strD strOf
  repeat' split
  all_goals omega
set_option maxHeartbeats 1000000 in
theorem dTakes_any (op : Int) (w : World) : Calls Tryz.prog 23 #[.int .i64 op] w fun e w' => e = .returned (.int .i64 (takesD op)) ∧ w' = w := by
  have key : (decide (op < 0) = true ∧ takesD op = -1) ∨ (decide (op < 0) = false ∧ decide (18 < op) = true ∧ takesD op = -1) ∨ (decide (op < 0) = false ∧ decide (18 < op) = false ∧ ((decide (op < 3) = true ∧ takesD op = 0) ∨ (decide (op < 3) = false ∧ decide (op < 6) = true ∧ takesD op = 1) ∨ (decide (op < 3) = false ∧ decide (op < 6) = false ∧ takesD op = 2))) := by
    unfold takesD
    simp only [decide_eq_true_eq, decide_eq_false_iff_not]
    repeat' split
    all_goals omega
  rcases key with ⟨h1, e⟩ | ⟨h1, h2, e⟩ | ⟨h1, h2, ⟨h3, e⟩ | ⟨h3, h4, e⟩ | ⟨h3, h4, e⟩⟩
  all_goals
    rw [e]
    clear e
    go_enter Tryz.func23, Tryz.ntmps23
    go_wp2
    go_ret
    exact ⟨rfl, rfl⟩

set_option maxHeartbeats 4000000 in
theorem dStrength_any (op : Int) (w : World) : Calls Tryz.prog 31 #[.int .i64 op] w fun e w' => e = .returned (.int .i64 (strD op : Int)) ∧ w' = w := by
  by_cases h : 3 ≤ op ∧ op ≤ 18 ∧ op ≠ 5
  · obtain ⟨h1, h2, h3⟩ := h
    have hs : op = 3 ∨ op = 4 ∨ op = 6 ∨ op = 7 ∨ op = 8 ∨ op = 9 ∨ op = 10 ∨ op = 11 ∨ op = 12 ∨ op = 13 ∨ op = 14 ∨ op = 15 ∨ op = 16 ∨ op = 17 ∨ op = 18 := by omega
    clear h1 h2 h3
    rcases hs with rfl | rfl | rfl | rfl | rfl | rfl | rfl | rfl | rfl | rfl | rfl | rfl | rfl | rfl | rfl
    all_goals
      go_enter Tryz.func31, Tryz.ntmps31
      go_wp2
      go_ret
      exact ⟨rfl, rfl⟩
  · have e : strD op = 7 := by
      unfold strD
      rw [if_neg (by omega), if_neg (by omega), if_neg (by omega), if_neg (by omega), if_neg (by omega), if_neg (by omega)]
    have d : ∀ n : Int, 3 ≤ n → n ≤ 18 → n ≠ 5 → (op == n) = false := fun n a b c => by rw [beq_eq_false_iff_ne]; rintro rfl; exact h ⟨a, b, c⟩
    have d3 := d 3 (by decide) (by decide) (by decide)
    have d4 := d 4 (by decide) (by decide) (by decide)
    have d6 := d 6 (by decide) (by decide) (by decide)
    have d7 := d 7 (by decide) (by decide) (by decide)
    have d8 := d 8 (by decide) (by decide) (by decide)
    have d9 := d 9 (by decide) (by decide) (by decide)
    have d10 := d 10 (by decide) (by decide) (by decide)
    have d11 := d 11 (by decide) (by decide) (by decide)
    have d12 := d 12 (by decide) (by decide) (by decide)
    have d13 := d 13 (by decide) (by decide) (by decide)
    have d14 := d 14 (by decide) (by decide) (by decide)
    have d15 := d 15 (by decide) (by decide) (by decide)
    have d16 := d 16 (by decide) (by decide) (by decide)
    have d17 := d 17 (by decide) (by decide) (by decide)
    have d18 := d 18 (by decide) (by decide) (by decide)
    rw [e]
    clear e d h
    go_enter Tryz.func31, Tryz.ntmps31
    go_wp2
    go_ret
    exact ⟨rfl, rfl⟩

set_option maxHeartbeats 2000000 in
theorem dLeast_any (op place : Int) (w : World) : Calls Tryz.prog 46 #[.int .i64 op, .int .i64 place] w fun e w' => e = .returned (.int .i64 (leastD op place : Int)) ∧ w' = w := by
  have HS := Lib.hid (dStrength_any op)
  have hle := strD_le op
  by_cases h5 : op = 5
  · subst h5
    have e : leastD 5 place = 0 := rfl
    rw [e]
    go_enter Tryz.func46, Tryz.ntmps46
    go_wp2_with (go_at_call 31; refine (HS.out _).mono ?_; rintro r w' ⟨rfl, rfl⟩)
    go_ret
    exact ⟨rfl, rfl⟩
  · have d5 : (op == 5) = false := by rw [beq_eq_false_iff_ne]; exact h5
    by_cases hp : 0 < place
    · have dp : decide (0 < place) = true := by simpa using hp
      have e : leastD op place = strD op + 1 := by unfold leastD; rw [if_neg h5, if_pos (.inl hp)]
      rw [e]
      generalize strD op = s at *
      clear e h5 hp
      go_enter Tryz.func46, Tryz.ntmps46
      go_wp2_with (go_at_call 31; refine (HS.out _).mono ?_; rintro r w' ⟨rfl, rfl⟩)
      go_ret
      exact ⟨rfl, rfl⟩
    · have dp : decide (0 < place) = false := by rw [decide_eq_false_iff_not]; exact hp
      by_cases h3 : strD op = 3
      · have e : leastD op place = 4 := by unfold leastD; rw [if_neg h5, if_pos (.inr h3), h3]
        rw [e]
        rw [h3] at HS
        clear e h5 hp
        go_enter Tryz.func46, Tryz.ntmps46
        go_wp2_with (go_at_call 31; refine (HS.out _).mono ?_; rintro r w' ⟨rfl, rfl⟩)
        go_ret
        exact ⟨rfl, rfl⟩
      · have e : leastD op place = strD op := by unfold leastD; rw [if_neg h5, if_neg (by omega)]
        rw [e]
        generalize strD op = s at *
        have d3 : ((s : Int) == 3) = false := by rw [beq_eq_false_iff_ne]; omega
        have d3' : (s == 3) = false := by rw [beq_eq_false_iff_ne]; omega
        clear e h5 hp
        go_enter Tryz.func46, Tryz.ntmps46
        go_wp2_with (go_at_call 31; refine (HS.out _).mono ?_; rintro r w' ⟨rfl, rfl⟩)
        go_ret
        exact ⟨rfl, rfl⟩

def letD (c : UInt8) : Bool := decide (97 ≤ c.toNat) && decide (c.toNat ≤ 122)
def numD (c : UInt8) : Bool := decide (48 ≤ c.toNat) && decide (c.toNat ≤ 57)
set_option maxHeartbeats 1000000 in
theorem dLetter_any (c : UInt8) (w : World) : Calls Tryz.prog 59 #[.int .u8 (c.toNat : Int)] w fun e w' => e = .returned (.bool (letD c)) ∧ w' = w := by
  unfold letD
  by_cases h1 : 97 ≤ c.toNat
  · have d1 : decide ((97 : Int) ≤ (c.toNat : Int)) = true := by rw [decide_eq_true_iff]; omega
    by_cases h2 : c.toNat ≤ 122
    · have d2 : decide ((c.toNat : Int) ≤ (122 : Int)) = true := by rw [decide_eq_true_iff]; omega
      rw [decide_eq_true h1, decide_eq_true h2]
      clear h1 h2
      go_enter Tryz.func59, Tryz.ntmps59
      go_wp2
      go_ret
      exact ⟨rfl, rfl⟩
    · have d2 : decide ((c.toNat : Int) ≤ (122 : Int)) = false := by rw [decide_eq_false_iff_not]; omega
      rw [decide_eq_true h1, decide_eq_false h2]
      clear h1 h2
      go_enter Tryz.func59, Tryz.ntmps59
      go_wp2
      go_ret
      exact ⟨rfl, rfl⟩
  · have d1 : decide ((97 : Int) ≤ (c.toNat : Int)) = false := by rw [decide_eq_false_iff_not]; omega
    rw [decide_eq_false h1]
    clear h1
    go_enter Tryz.func59, Tryz.ntmps59
    go_wp2
    go_ret
    exact ⟨rfl, rfl⟩
set_option maxHeartbeats 1000000 in
theorem dDigit_any (c : UInt8) (w : World) : Calls Tryz.prog 57 #[.int .u8 (c.toNat : Int)] w fun e w' => e = .returned (.bool (numD c)) ∧ w' = w := by
  unfold numD
  by_cases h1 : 48 ≤ c.toNat
  · have d1 : decide ((48 : Int) ≤ (c.toNat : Int)) = true := by rw [decide_eq_true_iff]; omega
    by_cases h2 : c.toNat ≤ 57
    · have d2 : decide ((c.toNat : Int) ≤ (57 : Int)) = true := by rw [decide_eq_true_iff]; omega
      rw [decide_eq_true h1, decide_eq_true h2]
      clear h1 h2
      go_enter Tryz.func57, Tryz.ntmps57
      go_wp2
      go_ret
      exact ⟨rfl, rfl⟩
    · have d2 : decide ((c.toNat : Int) ≤ (57 : Int)) = false := by rw [decide_eq_false_iff_not]; omega
      rw [decide_eq_true h1, decide_eq_false h2]
      clear h1 h2
      go_enter Tryz.func57, Tryz.ntmps57
      go_wp2
      go_ret
      exact ⟨rfl, rfl⟩
  · have d1 : decide ((48 : Int) ≤ (c.toNat : Int)) = false := by rw [decide_eq_false_iff_not]; omega
    rw [decide_eq_false h1]
    clear h1
    go_enter Tryz.func57, Tryz.ntmps57
    go_wp2
    go_ret
    exact ⟨rfl, rfl⟩
end Go.Proofs.YtfpjepeikjfkpaaGreatDoor

/-
  Package expr: a reader in memory: what is open, and the terms, each in a slice of its own.
-/
namespace Go.Proofs.YtfpjepeikjfkpaaGreatDoor
open Go.RowKit

/-! ### the cells of terms -/
def cellsT (x : TM) : List Value := [.int .i64 x.op, .int .i64 x.v.k, .int .i64 x.v.n, .string x.v.s, .string x.nm]
def flatT (l : List TM) : List Value := l.flatMap cellsT
theorem flatT_cons (x : TM) (l : List TM) : flatT (x :: l) = cellsT x ++ flatT l := by simp [flatT]
theorem flatT_append (a b : List TM) : flatT (a ++ b) = flatT a ++ flatT b := by simp [flatT]
theorem flatT_one (x : TM) : flatT [x] = cellsT x := by simp [flatT]
theorem flatT_len (l : List TM) : (flatT l).length = l.length * 5 := by
  induction l with
  | nil => rfl
  | cons x l ih => rw [flatT_cons, List.length_append, ih, List.length_cons]; simp [cellsT]; omega
theorem cellsT_one (x : TM) : ∀ v ∈ cellsT x, v.oneCell' = true := by
  intro v hv
  simp only [cellsT, List.mem_cons, List.not_mem_nil, or_false] at hv
  rcases hv with rfl | rfl | rfl | rfl | rfl <;> rfl
theorem flatT_at : ∀ (l : List TM) (j : Nat) (h : j < l.length), (flatT l)[j * 5]? = some (.int .i64 (l[j]'h).op) ∧ (flatT l)[j * 5 + 1]? = some (.int .i64 (l[j]'h).v.k) ∧ (flatT l)[j * 5 + 2]? = some (.int .i64 (l[j]'h).v.n) ∧ (flatT l)[j * 5 + 3]? = some (.string (l[j]'h).v.s) ∧ (flatT l)[j * 5 + 4]? = some (.string (l[j]'h).nm)
  | [], _, h => absurd h (by simp)
  | x :: l, 0, _ => by simp [flatT_cons, cellsT]
  | x :: l, j + 1, h => by
    have ih := flatT_at l j (by simpa using h)
    have e : ∀ k, (flatT (x :: l))[(j + 1) * 5 + k]? = (flatT l)[j * 5 + k]? := fun k => by
      rw [flatT_cons, List.getElem?_append_right (by simp [cellsT]; omega)]
      congr 1
      simp [cellsT]
      omega
    have e0 := e 0
    simp only [Nat.add_zero] at e0
    rw [e0, e 1, e 2, e 3, e 4]
    exact ih
theorem flatT_take (l : List TM) (n : Nat) : (flatT l).take (n * 5) = flatT (l.take n) := by
  induction l generalizing n with
  | nil => simp [flatT]
  | cons x l ih =>
    cases n with
    | zero => simp [flatT]
    | succ n =>
      rw [List.take_succ_cons, flatT_cons, flatT_cons, ← ih, List.take_append]
      have hl : (cellsT x).length = 5 := rfl
      rw [hl, List.take_of_length_le (by rw [hl]; omega)]
      congr 2
      omega
theorem infoTerm : ∃ i z, Tryz.prog.info? 44 = some i ∧ i.zero = some z ∧ z.cells.size = 5 ∧ i.size = 5 ∧ i.bytes = 56 := by
  have h : (Tryz.prog.info? 44).map (fun i => (i.zero.map (fun z => z.cells.size), i.size, i.bytes)) = some (some 5, 5, 56) := by kernel_rfl
  obtain ⟨i, hi, hz⟩ := Option.map_eq_some_iff.1 h
  simp only [Prod.mk.injEq] at hz
  obtain ⟨z, hz0, hz1⟩ := Option.map_eq_some_iff.1 hz.1
  exact ⟨i, z, hi, hz0, hz1, hz.2.1, hz.2.2⟩

/-! ### slices of the call's own -/
/-- A slice of these terms, in a block from lo on that nothing else has. -/
def OwnT (w : World) (lo : Nat) (v : Value) (l : List TM) : Prop := w.ownsRow lo 44 5 v l.length (flatT l)
theorem OwnT.form {w : World} {lo : Nat} {v : Value} {l : List TM} (h : OwnT w lo v l) : ∃ A c, v = .slice A l.length c := by
  rcases h.2 with ⟨hv, hn⟩ | ⟨g, cap, cur, hv, _⟩
  · exact ⟨none, 0, by rw [hv, hn]⟩
  · exact ⟨_, cap, hv⟩
theorem OwnT.nil (w : World) (lo : Nat) : OwnT w lo (.slice none 0 0) [] := World.ownsRow_nil _ _ _ _
theorem OwnT.keep {w w' : World} {lo lo' : Nat} {v : Value} {l : List TM} (h : OwnT w lo v l) (hk : ∀ g, v.ownBlock = some g → g < w.heap.size → w'.heap[g]? = w.heap[g]?) (hlo : lo' ≤ lo) : OwnT w' lo' v l := by
  refine ⟨h.1, ?_⟩
  rcases h.2 with h2 | ⟨g, cap, cur, hv, hb, hg, r⟩
  · exact .inl h2
  · refine .inr ⟨g, cap, cur, hv, by omega, ?_, r⟩
    rw [hk g (by rw [hv]; rfl) (Array.getElem?_eq_some_iff.1 hg).1]
    exact hg
theorem OwnT.lt {w : World} {lo : Nat} {v : Value} {l : List TM} (h : OwnT w lo v l) : ∀ g, v.ownBlock = some g → lo ≤ g ∧ g < w.heap.size := fun g hg => World.ownsRow.lt h g hg
theorem OwnT.reads {w : World} {lo : Nat} {A : Option Addr} {n c : Nat} {l : List TM} (h : OwnT w lo (.slice A n c) l) : RowT w lo w.heap.size A l := fun hp => by
  rcases h.2 with ⟨hv, hn⟩ | ⟨g, cap, cur, hv, hb, hg, _⟩
  · omega
  · injection hv with e1 e2 e3
    subst e1
    refine ⟨g, 0, rfl, hb, (Array.getElem?_eq_some_iff.1 hg).1, fun j hj => ?_⟩
    have hc := h.cells (g := g) rfl
    obtain ⟨t0, t1, t2, t3, t4⟩ := flatT_at l j hj
    have add : ∀ k, (⟨g, 0, none⟩ : Addr).add k = ⟨g, k, none⟩ := fun k => by unfold Addr.add; split <;> simp_all
    have c0 := hc _ _ t0
    have c1 := hc _ _ t1
    have c2 := hc _ _ t2
    have c3 := hc _ _ t3
    have c4 := hc _ _ t4
    rw [add] at c0 c1 c2 c3 c4
    rw [Nat.zero_add]
    exact ⟨c0, c1, c2, c3, c4⟩
/-- Less of it, with the same room. -/
theorem OwnT.cut {w : World} {lo n c : Nat} {A : Option Addr} {l : List TM} (h : OwnT w lo (.slice A n c) l) (k : Nat) (hk : k ≤ l.length) (hn : 0 < l.length) : OwnT w lo (.slice A k c) (l.take k) := by
  have hl := flatT_len (l.take k)
  rcases h.2 with ⟨hv, h0⟩ | ⟨g, cap, cur, hv, hb, hg, hcap, hm, hcs, htk⟩
  · omega
  · injection hv with e1 e2 e3
    subst e1 e2 e3
    have hlk : (l.take k).length = k := by rw [List.length_take]; omega
    refine ⟨hl, .inr ⟨g, c, cur, by rw [hlk], hb, hg, by omega, hm, hcs, ?_⟩⟩
    rw [hlk, ← flatT_take, ← htk, List.take_take, Nat.min_eq_left (by omega)]
theorem OwnT.slice_n {w : World} {lo n c : Nat} {A : Option Addr} {l : List TM} (h : OwnT w lo (.slice A n c) l) : n = l.length := by
  obtain ⟨A', c', e⟩ := h.form
  injection e

/-! ### the footprint of a reader's calls -/
/-- Of what lies below lo, the block b alone may have turned. -/
structure Foot (b lo : Nat) (w w' : World) : Prop where
  os : w'.os = w.os
  tape : w'.tape = w.tape
  output : w'.output = w.output
  size : w.heap.size ≤ w'.heap.size
  block : ∀ k, k < lo → k ≠ b → w'.heap[k]? = w.heap[k]?
theorem Foot.refl (b lo : Nat) (w : World) : Foot b lo w w := ⟨rfl, rfl, rfl, Nat.le_refl _, fun _ _ _ => rfl⟩
theorem Foot.trans {b lo : Nat} {x y z : World} (h : Foot b lo x y) (k : Foot b lo y z) : Foot b lo x z :=
  ⟨k.os.trans h.os, k.tape.trans h.tape, k.output.trans h.output, Nat.le_trans h.size k.size, fun i h1 h2 => (k.block i h1 h2).trans (h.block i h1 h2)⟩
theorem Foot.of_below {b lo B : Nat} {x y : World} (h : Below B x y) (hB : lo ≤ B) : Foot b lo x y := ⟨h.os, h.tape, h.output, h.size, fun k h1 _ => h.block k (by omega)⟩
theorem Foot.drew {b lo : Nat} {a w : World} (h : Foot b lo a w) : Foot b lo a w.drew := ⟨h.os, h.tape, h.output, h.size, h.block⟩
theorem Foot.alloc {b lo : Nat} {a w : World} (h : Foot b lo a w) (hB : lo ≤ w.heap.size) (o : Obj) : Foot b lo a (w.alloc o) :=
  h.trans ⟨rfl, rfl, rfl, by simp, fun k hk _ => Below.heap_alloc _ _ _ (by omega)⟩
theorem Foot.setCell {b lo : Nat} {a w : World} (h : Foot b lo a w) {p : Addr} (hp : p.block = b ∨ lo ≤ p.block) (u : Value) : Foot b lo a (w.setCell p u) :=
  h.trans ⟨rfl, rfl, rfl, by simp [World.setCell], fun k hk hb => Below.heap_setCell _ _ _ _ (by omega)⟩
theorem Foot.grown {b lo : Nat} {a w w' : World} {row : Option Nat} (h : Foot b lo a w) (hg : w.grownBy w' row) (hB : lo ≤ w.heap.size) (hr : ∀ k, row = some k → lo ≤ k) : Foot b lo a w' :=
  h.trans ⟨hg.os, hg.tape, hg.output, hg.size, fun k hk _ => hg.block k (by omega) (fun e => by have := hr k e.symm; omega)⟩
theorem Foot.below {b lo B : Nat} {x y : World} (h : Foot b lo x y) (hB : B ≤ b) (hbl : B ≤ lo) : Below B x y := ⟨h.os, h.tape, h.output, h.size, fun k hk => h.block k (by omega) (by omega)⟩

/-! ### a reader -/
def RdE (w : World) (b : Nat) (wants call : Int) (v1 : Value) (deep : Int) (v2 : Value) : Prop :=
  w.heap[b]? = some (.cells #[.int .i64 wants, .int .i64 call, v1, .int .i64 deep, v2] 61 (0, 0))
section
variable {w : World} {b : Nat} {wants call deep : Int} {v1 v2 : Value}
theorem RdE.c0 (h : RdE w b wants call v1 deep v2) : w.cell? ⟨b, 0, none⟩ = some (.int .i64 wants) := by unfold RdE at h; simp [World.cell?, h]
theorem RdE.c1 (h : RdE w b wants call v1 deep v2) : w.cell? ⟨b, 1, none⟩ = some (.int .i64 call) := by unfold RdE at h; simp [World.cell?, h]
theorem RdE.c2 (h : RdE w b wants call v1 deep v2) : w.cell? ⟨b, 2, none⟩ = some v1 := by unfold RdE at h; simp [World.cell?, h]
theorem RdE.c3 (h : RdE w b wants call v1 deep v2) : w.cell? ⟨b, 3, none⟩ = some (.int .i64 deep) := by unfold RdE at h; simp [World.cell?, h]
theorem RdE.c4 (h : RdE w b wants call v1 deep v2) : w.cell? ⟨b, 4, none⟩ = some v2 := by unfold RdE at h; simp [World.cell?, h]
theorem RdE.fz (h : RdE w b wants call v1 deep v2) (o : Nat) : w.frozen? ⟨b, o, none⟩ = false := by unfold RdE at h; simp [World.frozen?, h]
theorem RdE.lt (h : RdE w b wants call v1 deep v2) : b < w.heap.size := (Array.getElem?_eq_some_iff.1 h).1
theorem RdE.set0 (h : RdE w b wants call v1 deep v2) (x : Int) : RdE (w.setCell ⟨b, 0, none⟩ (.int .i64 x)) b x call v1 deep v2 := by unfold RdE; rw [heap_setCell_same w b 0 _ _ _ h]; rfl
theorem RdE.set1 (h : RdE w b wants call v1 deep v2) (x : Int) : RdE (w.setCell ⟨b, 1, none⟩ (.int .i64 x)) b wants x v1 deep v2 := by unfold RdE; rw [heap_setCell_same w b 1 _ _ _ h]; rfl
theorem RdE.set2 (h : RdE w b wants call v1 deep v2) (x : Value) : RdE (w.setCell ⟨b, 2, none⟩ x) b wants call x deep v2 := by unfold RdE; rw [heap_setCell_same w b 2 _ _ _ h]; rfl
theorem RdE.set3 (h : RdE w b wants call v1 deep v2) (x : Int) : RdE (w.setCell ⟨b, 3, none⟩ (.int .i64 x)) b wants call v1 x v2 := by unfold RdE; rw [heap_setCell_same w b 3 _ _ _ h]; rfl
theorem RdE.set4 (h : RdE w b wants call v1 deep v2) (x : Value) : RdE (w.setCell ⟨b, 4, none⟩ x) b wants call v1 deep x := by unfold RdE; rw [heap_setCell_same w b 4 _ _ _ h]; rfl
theorem RdE.keep (h : RdE w b wants call v1 deep v2) {w' : World} (hk : w'.heap[b]? = w.heap[b]?) : RdE w' b wants call v1 deep v2 := hk.trans h
theorem RdE.alloc (h : RdE w b wants call v1 deep v2) (o : Obj) : RdE (w.alloc o) b wants call v1 deep v2 := h.keep (Below.heap_alloc _ _ _ h.lt)
end
/-- A reader at block b reads as the state s; its slices lie from lo on, apart. -/
structure RdM (w : World) (b lo : Nat) (s : ST) : Prop where
  ex : ∃ A1 c1 A2 c2, RdE w b s.wants s.call (.slice A1 s.st.length c1) (ndeep s.st) (.slice A2 s.out.length c2) ∧ OwnT w lo (.slice A1 s.st.length c1) s.st.reverse ∧ OwnT w lo (.slice A2 s.out.length c2) s.out ∧ ∀ g, (Value.slice A1 s.st.length c1).ownBlock = some g → (Value.slice A2 s.out.length c2).ownBlock ≠ some g
  lo1 : b < lo
  lo2 : lo ≤ w.heap.size
theorem RdM.below {w w' : World} {b lo : Nat} {s : ST} (h : RdM w b lo s) (hb : Below w.heap.size w w') : RdM w' b lo s := by
  obtain ⟨⟨A1, c1, A2, c2, h1, h2, h3, h4⟩, h5, h6⟩ := h
  refine ⟨⟨A1, c1, A2, c2, h1.keep (hb.block _ h1.lt), h2.keep (fun g _ hg => hb.block g hg) (Nat.le_refl _), h3.keep (fun g _ hg => hb.block g hg) (Nat.le_refl _), h4⟩, h5, Nat.le_trans h6 hb.size⟩
/-- What is open innermost; -1: nothing is. -/
def lastM : List TM → Int
  | [] => -1
  | t :: _ => t.op
def totalS (s : ST) : Nat := s.st.length + s.out.length
theorem ndeep_le : ∀ S : List TM, ndeep S ≤ S.length
  | [] => Nat.le_refl _
  | t :: S => by
    have := ndeep_le S
    rw [ndeep, List.length_cons]
    split <;> omega

set_option maxHeartbeats 2000000 in
theorem last_any (b lo : Nat) (s : ST) (w : World) (hM : RdM w b lo s) (hs : s.st.length ≤ 100000) :
    Calls Tryz.prog 108 #[.pointer (some ⟨b, 0, none⟩)] w fun r w' => r = .returned (.int .i64 (lastM s.st)) ∧ Below w.heap.size w w' := by
  obtain ⟨⟨A1, c1, A2, c2, h1, h2, h3, h4⟩, h5, h6⟩ := hM
  have k2 := h1.c2
  obtain ⟨wants, call, S, o⟩ := s
  simp only at *
  cases S with
  | nil =>
    clear h1 h2 h3 h4
    go_enter Tryz.func108, Tryz.ntmps108
    go_wp2
    go_ret
    exact ⟨rfl, Below.refl _ _⟩
  | cons t S =>
    obtain ⟨b1, o1, rfl, t0, _⟩ := (h2.reads).at_ (k := S.length) (by simp)
    have e : ((t :: S).reverse[S.length]'(by simp)) = t := by simp
    rw [e] at t0
    have el : lastM (t :: S) = t.op := rfl
    rw [el]
    rw [List.length_cons] at k2 hs
    have q0 : ((S.length + 1 : Nat) : Int) - 1 = (S.length : Int) := by omega
    have q1 : (((S.length + 1 : Nat) : Int) == 0) = false := by rw [beq_eq_false_iff_ne]; omega
    clear h1 h2 h3 h4 e el
    go_enter Tryz.func108, Tryz.ntmps108
    go_wp2
    go_region
    all_goals
      go_wp2
      go_ret
      exact ⟨rfl, (Below.refl _ _).drew⟩
end Go.Proofs.YtfpjepeikjfkpaaGreatDoor
