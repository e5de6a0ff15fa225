import Derived.Lib.MinMax
import Derived.Test.YtidomoibhjgkjaaGreatDoorZC31
import Derived.Test.YtidomoibhjgkjaaGreatDoorZC14
/-
  Package expr: what an operation makes of the parts that it takes.
-/
namespace Go.Proofs.YtidomoibhjgkjaaGreatDoor
open Go.RowKit

/-- A part: how strong it is, and how many are open in it. -/
def PartAt (w : World) (b o : Nat) (p : Nat × Nat) : Prop := w.cell? ⟨b, o, none⟩ = some (.int .i64 (p.1 : Int)) ∧ w.cell? ⟨b, o + 1, none⟩ = some (.int .i64 (p.2 : Int))
/-- A slice at A reads as the parts l, in a block below hi; of an empty one nothing is asked. -/
def RowQ (w : World) (hi : Nat) (A : Option Addr) (l : List (Nat × Nat)) : Prop :=
  0 < l.length → ∃ b o, A = some ⟨b, o, none⟩ ∧ b < hi ∧ ∀ j (h : j < l.length), PartAt w b (o + j * 2) (l[j]'h)
theorem PartAt.below {w w' : World} {B b o : Nat} {x : Nat × Nat} (h : PartAt w b o x) (hb : Below B w w') (hB : b < B) : PartAt w' b o x :=
  ⟨(hb.cell (p := ⟨b, o, none⟩) hB).trans h.1, (hb.cell (p := ⟨b, o + 1, none⟩) hB).trans h.2⟩
theorem RowQ.below {w w' : World} {hi B : Nat} {A : Option Addr} {l : List (Nat × Nat)} (h : RowQ w hi A l) (hb : Below B w w') (hB : hi ≤ B) : RowQ w' hi A l := fun hn => by
  obtain ⟨b, o, e, h2, hc⟩ := h hn
  exact ⟨b, o, e, h2, fun j hj => (hc j hj).below hb (Nat.lt_of_lt_of_le h2 hB)⟩
theorem RowQ.at_ {w : World} {hi k : Nat} {A : Option Addr} {l : List (Nat × Nat)} (h : RowQ w hi A l) (hk : k < l.length) : ∃ b o, A = some ⟨b, o, none⟩ ∧ b < hi ∧ PartAt w b (o + k * 2) (l[k]'hk) := by
  obtain ⟨b, o, e, h2, hc⟩ := h (by omega)
  exact ⟨b, o, e, h2, hc k hk⟩

/-- How many are open in the parts from place j on, and in what is there already. -/
def goJ (op : Int) : Nat → Nat → List (Nat × Nat) → Nat
  | _, acc, [] => acc
  | j, acc, p :: l => goJ op (j + 1) (max acc (wrapN (decide (p.1 < leastD op (j : Int))) p.2)) l
/-- Is it a sign of one, or a call? -/
def upD (op : Int) : Bool := decide (2 ≤ op) && decide (op ≤ 5)
def joinD (op : Int) (l : List (Nat × Nat)) : Nat × Nat := (strD op, wrapN (upD op) (goJ op 0 0 l))

/-- A part in a block of its own. -/
def BoxQ (w : World) (b : Nat) (s d : Int) : Prop := w.heap[b]? = some (.cells #[.int .i64 s, .int .i64 d] 129 (0, 0))
theorem BoxQ.lt {w : World} {b : Nat} {s d : Int} (h : BoxQ w b s d) : b < w.heap.size := (Array.getElem?_eq_some_iff.1 h).1
theorem BoxQ.cells {w : World} {b : Nat} {s d : Int} (h : BoxQ w b s d) : w.cell? ⟨b, 0, none⟩ = some (.int .i64 s) ∧ w.cell? ⟨b, 1, none⟩ = some (.int .i64 d) := ⟨cellAt h rfl, cellAt h rfl⟩
theorem BoxQ.frozen {w : World} {b : Nat} {s d : Int} (h : BoxQ w b s d) (o : Nat) : w.frozen? ⟨b, o, none⟩ = false := frozenAt h
theorem BoxQ.below {w w' : World} {b : Nat} {s d : Int} (h : BoxQ w b s d) (hb : Below w.heap.size w w') : BoxQ w' b s d := (hb.block b h.lt).trans h
theorem BoxQ.alloc {w : World} {b : Nat} {s d : Int} (h : BoxQ w b s d) (o : Obj) : BoxQ (w.alloc o) b s d := h.below ((Below.refl _ _).alloc (Nat.le_refl _) _)
theorem BoxQ.set0 {w : World} {b : Nat} {s d : Int} (h : BoxQ w b s d) (s' : Int) : BoxQ (w.setCell ⟨b, 0, none⟩ (.int .i64 s')) b s' d := by
  unfold BoxQ at *
  simp [World.setCell, Array.getElem?_modify, h]
theorem BoxQ.drew {w : World} {b : Nat} {s d : Int} (h : BoxQ w b s d) : BoxQ w.drew b s d := by
  unfold BoxQ at *
  rw [heap_drew]
  exact h
theorem BoxQ.other {w : World} {b b' : Nat} {s d : Int} (h : BoxQ w b s d) (hne : b' ≠ b) (o : Nat) (v : Value) : BoxQ (w.setCell ⟨b', o, none⟩ v) b s d := by
  unfold BoxQ at *
  simp [World.setCell, Array.getElem?_modify, h, hne]
theorem BoxQ.set {w : World} {b : Nat} {s d : Int} (h : BoxQ w b s d) (d' : Int) : BoxQ (w.setCell ⟨b, 1, none⟩ (.int .i64 d')) b s d' := by
  unfold BoxQ at *
  simp [World.setCell, Array.getElem?_modify, h]

set_option maxRecDepth 100000 in
set_option maxHeartbeats 4000000 in
theorem joined_any (op : Int) (l : List (Nat × Nat)) (A : Option Addr) (c : Nat) (hl : l.length ≤ 2) (hd : ∀ p ∈ l, p.1 ≤ 7 ∧ p.2 ≤ 1000) (w : World) (hr : RowQ w w.heap.size A l) :
    Calls Tryz.prog 85 #[.int .i64 op, .slice A l.length c] w fun r w' => r = .returned (.agg #[.int .i64 ((joinD op l).1 : Int), .int .i64 ((joinD op l).2 : Int)]) ∧ Below w.heap.size w w' := by
  have HR := Lib.hid hr
  have HD := Lib.hid hd
  have HS := Lib.hid (fun w => (dStrength_any op w).mono fun _ _ h => And.intro h.1 h.2.symm)
  have HLe := Lib.hid (fun p w => (dLeast_any op p w).mono fun _ _ h => And.intro h.1 h.2.symm)
  have hll : ∀ p, leastD op p ≤ 8 := fun p => by have := strD_le op; unfold leastD; split; omega; split <;> omega
  have HLL := Lib.hid hll
  clear hr hd hll
  go_enter Tryz.func85, Tryz.ntmps85
  go_wp2_with (go_at_call 116; refine (HS.out _).mono ?_; rintro r w' ⟨rfl, rfl⟩)
  go_loopg [14] l.length (fun q i wr => ∃ j acc : Nat, j + q = l.length ∧ i = .int .i64 j ∧ goJ op 0 0 l = goJ op j acc (l.drop j) ∧ acc ≤ 1001 ∧ BoxQ wr (w.heap.size + 1) (strD op : Int) (acc : Int) ∧ BoxQ wr w.heap.size 0 0 ∧ Below w.heap.size w wr)
  case atStart =>
    refine ⟨0, 0, by omega, rfl, rfl, by omega, ?_, heap_alloc2_old .., ((Below.refl _ w).alloc (Nat.le_refl _) _).alloc (by simp) _⟩
    have h := heap_alloc_new (w.alloc (.cells #[.int .i64 0, .int .i64 0] 129)) (.cells #[.int .i64 (strD op : Int), .int .i64 0] 129)
    rw [show (w.alloc (.cells #[.int .i64 0, .int .i64 0] 129)).heap.size = w.heap.size + 1 from by simp] at h
    exact h
  case round =>
    obtain ⟨j, acc, hk, rfl, hgo, hacc, hw, hz, hb⟩ := hrel
    have HK := Lib.hid hk
    have HB := Lib.hid hb
    have HW := Lib.hid hw
    have HZ := Lib.hid hz
    clear hb hk hz
    obtain ⟨x0, x1⟩ := hw.cells
    have f1 := hw.frozen 1
    have hwl := hw.lt
    clear hw
    by_cases hj : j < l.length
    · have hlt : decide ((j : Int) < (l.length : Int)) = true := by simpa using hj
      have hlt2 : decide (j < l.length) = true := by simpa using hj
      obtain ⟨b, o, rfl, hbl, c0, c1⟩ := (HR.out.below HB.out (Nat.le_refl _)).at_ hj
      have hp := HD.out _ (List.getElem_mem hj)
      rw [List.drop_eq_getElem_cons hj, goJ] at hgo
      generalize l[j] = p at *
      obtain ⟨s, d⟩ := p
      simp only at c0 c1 hp hgo
      have HLe' := Lib.hid (HLe.out (j : Int))
      generalize leastD op (j : Int) = le at *
      have hHB := HB.out
      have HBn : ∀ (m : Int) (o : Obj), Below w.heap.size w (((wr.setCell ⟨w.heap.size + 1, 1, none⟩ (.int .i64 m)).alloc o).drew) := fun m o => ((hHB.setCell (by simp) _).alloc (by simpa using hHB.size) _).drew
      have HBN := Lib.hid HBn
      have HWn := Lib.hid (fun (m : Int) (o : Obj) => ((HW.out.set m).alloc o).drew)
      have HZn := Lib.hid (fun (m : Int) (o : Obj) => ((HZ.out.other (b' := w.heap.size + 1) (by omega) 1 (.int .i64 m)).alloc o).drew)
      clear hHB HBn
      cases hlq : decide (s < le)
      · have q1 : decide ((s : Int) < (le : Int)) = false := by rw [decide_eq_false_iff_not] at hlq ⊢; omega
        have HGo := Lib.hid (hlq ▸ hgo)
        have HMx : max (acc : Int) (d : Int) = ((max acc d : Nat) : Int) := by omega
        clear hgo
        go_wp2
        go_region_with ((go_at_call 117; refine (HLe'.out _).mono ?_; rintro r w' ⟨rfl, rfl⟩))
        all_goals
          go_wp2
          go_roundg (gk - 1)
          case measure => have := HK.out; omega
          case rel => exact ⟨j + 1, max acc d, by have := HK.out; omega, by go_num, HGo.out, by omega, by rw [← HMx]; exact HWn.out _ _, HZn.out _ _, HBN.out _ _⟩
      · have q1 : decide ((s : Int) < (le : Int)) = true := by rw [decide_eq_true_iff] at hlq ⊢; omega
        have HGo := Lib.hid (hlq ▸ hgo)
        have HMx : max (acc : Int) ((d : Int) + 1) = ((max acc (d + 1) : Nat) : Int) := by omega
        clear hgo
        go_wp2
        go_region_with ((go_at_call 117; refine (HLe'.out _).mono ?_; rintro r w' ⟨rfl, rfl⟩))
        all_goals
          go_wp2
          go_roundg (gk - 1)
          case measure => have := HK.out; omega
          case rel => exact ⟨j + 1, max acc (d + 1), by have := HK.out; omega, by go_num, HGo.out, by omega, by rw [← HMx]; exact HWn.out _ _, HZn.out _ _, HBN.out _ _⟩
    · have hlt : decide ((j : Int) < (l.length : Int)) = false := by simpa using hj
      have hlt2 : decide (j < l.length) = false := by simpa using hj
      rw [List.drop_eq_nil_of_le (by omega), goJ] at hgo
      have hJ : joinD op l = (strD op, wrapN (upD op) acc) := by unfold joinD; rw [hgo]
      obtain ⟨z0, z1⟩ := HZ.out.cells
      have g0 := HZ.out.frozen 0
      have g1 := HZ.out.frozen 1
      have hHB := HB.out
      have HE1 := Lib.hid (fun (v0 v1 : Value) => ((hHB.setCell (p := ⟨w.heap.size, 0, none⟩) (Nat.le_refl _) v0).setCell (p := ⟨w.heap.size, 1, none⟩) (Nat.le_refl _) v1))
      have HE2 := Lib.hid (fun (v v0 v1 : Value) => (((hHB.setCell (p := ⟨w.heap.size + 1, 1, none⟩) (by simp) v).setCell (p := ⟨w.heap.size, 0, none⟩) (Nat.le_refl _) v0).setCell (p := ⟨w.heap.size, 1, none⟩) (Nat.le_refl _) v1))
      clear hgo hj HR hHB
      by_cases hop : 2 ≤ op ∧ op ≤ 5
      · have hu : upD op = true := by unfold upD; simp [hop]
        rw [hu] at hJ
        have HJ := Lib.hid hJ
        have hs : (op == 2) = true ∨ ((op == 2) = false ∧ (op == 3) = true) ∨ ((op == 2) = false ∧ (op == 3) = false ∧ (op == 4) = true) ∨ ((op == 2) = false ∧ (op == 3) = false ∧ (op == 4) = false ∧ (op == 5) = true) := by
          simp only [beq_iff_eq, beq_eq_false_iff_ne]
          omega
        clear hop hu hJ
        rcases hs with p2 | ⟨p2, p3⟩ | ⟨p2, p3, p4⟩ | ⟨p2, p3, p4, p5⟩
        all_goals
          go_wp2
          obtain ⟨t0, t1⟩ := (((HZ.out.other (b' := w.heap.size + 1) (by omega) 1 (.int .i64 ((acc : Int) + 1))).set0 (strD op : Int)).set ((acc : Int) + 1)).cells
          refine bodyPost_ret (v := .agg #[.int .i64 (strD op : Int), .int .i64 ((acc : Int) + 1)]) (by simp [results, Tryz.results85, go_sem, t0, t1]) rfl ⟨?_, HE2.out _ _ _⟩
          rw [HJ.out]
          rfl
      · have hu : upD op = false := by unfold upD; rw [Bool.and_eq_false_iff, decide_eq_false_iff_not, decide_eq_false_iff_not]; omega
        rw [hu] at hJ
        have HJ := Lib.hid hJ
        have p2 : (op == 2) = false := by rw [beq_eq_false_iff_ne]; omega
        have p3 : (op == 3) = false := by rw [beq_eq_false_iff_ne]; omega
        have p4 : (op == 4) = false := by rw [beq_eq_false_iff_ne]; omega
        have p5 : (op == 5) = false := by rw [beq_eq_false_iff_ne]; omega
        clear hop hu hJ
        go_wp2
        obtain ⟨t0, t1⟩ := ((HZ.out.set0 (strD op : Int)).set (acc : Int)).cells
        refine bodyPost_ret (v := .agg #[.int .i64 (strD op : Int), .int .i64 (acc : Int)]) (by simp [results, Tryz.results85, go_sem, t0, t1]) rfl ⟨?_, HE1.out _ _⟩
        rw [HJ.out]
        rfl
end Go.Proofs.YtidomoibhjgkjaaGreatDoor

/-
  Package expr: the parts of trees: what an operation makes of them is the part of the tree that it makes.
-/
namespace Go.Proofs.YtidomoibhjgkjaaGreatDoor
open Go.RowKit

def partE (t : Ex) : Nat × Nat := (strD (topE t), deepE t)
theorem strOf_D (x : Int) : (strD x < 6 ∧ strOf x + 1 = strD x) ∨ (6 ≤ strD x ∧ strOf x = 9) := by
  unfold strD strOf
  repeat' split
  all_goals omega
theorem strD_pos (x : Int) : 1 ≤ strD x := by
  unfold strD
  repeat' split
  all_goals omega
theorem two_strD {op : Int} (h : 6 ≤ op ∧ op ≤ 18) : strD op ≤ 5 := by
  unfold strD
  repeat' split
  all_goals omega
theorem least_left {op : Int} (h : 6 ≤ op ∧ op ≤ 18) (x : Int) : decide (strD x < leastD op 0) = inB op x false := by
  have h1 := two_strD h
  have h2 := strOf_D op
  have h3 := strOf_D x
  have h4 := strD_pos op
  have h5 := strD_pos x
  have hl : (strD op = 3 ∧ leastD op 0 = strD op + 1) ∨ (strD op ≠ 3 ∧ leastD op 0 = strD op) := by
    unfold leastD
    rw [if_neg (by omega)]
    by_cases h : strD op = 3
    · exact .inl ⟨h, if_pos (.inr h)⟩
    · exact .inr ⟨h, if_neg (by omega)⟩
  generalize leastD op 0 = le at *
  unfold inB
  have hop : op ≠ 5 := by omega
  by_cases hx : strOf x = 9
  · rw [if_pos (Or.inr hx), decide_eq_false_iff_not]
    omega
  · rw [if_neg (by omega), if_neg (by omega)]
    rw [Bool.eq_iff_iff]
    simp only [Bool.or_eq_true, Bool.and_eq_true, decide_eq_true_eq, Bool.false_eq_true, false_or]
    omega
theorem least_right {op : Int} (h : 6 ≤ op ∧ op ≤ 18) (x : Int) : decide (strD x < leastD op 1) = inB op x true := by
  have h1 := two_strD h
  have h2 := strOf_D op
  have h3 := strOf_D x
  have h4 := strD_pos op
  have h5 := strD_pos x
  have hl : leastD op 1 = strD op + 1 := by
    unfold leastD
    rw [if_neg (by omega), if_pos (.inl (by decide))]
  rw [hl]
  unfold inB
  by_cases hx : strOf x = 9
  · rw [if_pos (Or.inr hx), decide_eq_false_iff_not]
    omega
  · rw [if_neg (by omega), if_neg (by omega)]
    rw [Bool.eq_iff_iff]
    simp only [Bool.or_eq_true, Bool.and_eq_true, decide_eq_true_eq, Bool.true_or, and_true]
    omega
theorem least_one {op : Int} (h : op = 3 ∨ op = 4) (x : Int) : decide (strD x < leastD op 0) = inB op x true := by
  have h3 := strOf_D x
  have hl : leastD op 0 = 6 := by rcases h with rfl | rfl <;> rfl
  have ho : strOf op = 9 := by rcases h with rfl | rfl <;> rfl
  rw [hl]
  unfold inB
  by_cases hx : strOf x = 9
  · rw [if_pos (Or.inr hx), decide_eq_false_iff_not]
    omega
  · rw [if_neg (by omega), if_pos ho, decide_eq_true_iff]
    omega
theorem join_none {op : Int} (v : Ex) (h : (op = 0 ∧ topE v = 0 ∧ deepE v = 0) ∨ (op = 1 ∧ topE v = 1 ∧ deepE v = 0) ∨ (op = 2 ∧ topE v = 2 ∧ deepE v = 1)) : joinD op [] = partE v := by
  unfold joinD partE
  rcases h with ⟨rfl, h1, h2⟩ | ⟨rfl, h1, h2⟩ | ⟨rfl, h1, h2⟩ <;> rw [h1, h2] <;> rfl
theorem join_one {op : Int} (h : op = 3 ∨ op = 4 ∨ op = 5) (a : Ex) : joinD op [partE a] = partE (.one op a) := by
  have hu : upD op = true := by rcases h with rfl | rfl | rfl <;> rfl
  show (strD op, wrapN (upD op) (max 0 (wrapN (decide (strD (topE a) < leastD op 0)) (deepE a)))) = (strD op, deepE (.one op a))
  rw [hu, Nat.zero_max, deepE]
  by_cases h5 : op = 5
  · subst h5
    rw [if_pos rfl]
    rfl
  · rw [if_neg h5, least_one (by omega)]
    rfl
theorem join_two {op : Int} (h : 6 ≤ op ∧ op ≤ 18) (a b : Ex) : joinD op [partE a, partE b] = partE (.two op a b) := by
  have hu : upD op = false := by unfold upD; rw [Bool.and_eq_false_iff, decide_eq_false_iff_not, decide_eq_false_iff_not]; omega
  show (strD op, wrapN (upD op) (max (max 0 (wrapN (decide (strD (topE a) < leastD op 0)) (deepE a))) (wrapN (decide (strD (topE b) < leastD op 1)) (deepE b)))) = (strD op, deepE (.two op a b))
  rw [hu, Nat.zero_max, deepE, least_left h, least_right h]
  rfl

/-- What the program holds of trees, the last one last. -/
def prtsE (st : List Ex) : List (Nat × Nat) := (st.map partE).reverse
theorem prtsE_len (st : List Ex) : (prtsE st).length = st.length := by simp [prtsE]
theorem prts_step {t : TM} (h : ownT t = 0) {st : List Ex} (hn : takesT t.op ≤ st.length) :
    prtsE (stepE st t) = (prtsE st).take (st.length - takesT t.op) ++ [joinD t.op ((prtsE st).drop (st.length - takesT t.op))] := by
  obtain ⟨h0, h18, _, _⟩ := own_op h
  obtain ⟨op, v, m⟩ := t
  simp only at h0 h18 hn ⊢
  have hl := prtsE_len st
  unfold stepE
  simp only
  by_cases e3 : op < 3
  · have ht : takesT op = 0 := if_pos e3
    rw [ht, Nat.sub_zero, List.take_of_length_le (by omega), List.drop_of_length_le (by omega)]
    by_cases e0 : op = 0
    · subst e0
      rw [if_pos rfl, join_none (.val v) (.inl ⟨rfl, rfl, rfl⟩)]
      simp [prtsE]
    · rw [if_neg e0]
      by_cases e1 : op = 1
      · subst e1
        rw [if_pos rfl, join_none (.var m) (.inr (.inl ⟨rfl, rfl, rfl⟩))]
        simp [prtsE]
      · have e2 : op = 2 := by omega
        subst e2
        rw [if_neg (by decide), if_pos rfl, join_none (.has m) (.inr (.inr ⟨rfl, rfl, rfl⟩))]
        simp [prtsE]
  · rw [if_neg (by omega), if_neg (by omega), if_neg (by omega)]
    by_cases e6 : op < 6
    · have ht : takesT op = 1 := by unfold takesT; rw [if_neg e3, if_pos e6]
      rw [ht] at hn ⊢
      rw [if_pos e6]
      cases st with
      | nil => simp at hn
      | cons a r =>
        have hr := prtsE_len r
        have hp : prtsE (a :: r) = prtsE r ++ [partE a] := by simp [prtsE]
        have hp2 : prtsE (.one op a :: r) = prtsE r ++ [partE (.one op a)] := by simp [prtsE]
        rw [hp, List.length_cons, Nat.add_sub_cancel, List.take_left' hr, List.drop_left' hr, join_one (by omega), ← hp2]
    · have ht : takesT op = 2 := by unfold takesT; rw [if_neg e3, if_neg e6]
      rw [ht] at hn ⊢
      rw [if_neg e6]
      match st, hn with
      | b :: a :: r, _ =>
        have hr := prtsE_len r
        have hp : prtsE (b :: a :: r) = prtsE r ++ [partE a, partE b] := by simp [prtsE]
        have hp2 : prtsE (.two op a b :: r) = prtsE r ++ [partE (.two op a b)] := by simp [prtsE]
        have hn2 : (b :: a :: r).length - 2 = r.length := by simp
        rw [hp, hn2, List.take_left' hr, List.drop_left' hr, join_two (by omega)]
        exact hp2
theorem takesD_own {t : TM} (h : ownT t = 0) : takesD t.op = (takesT t.op : Int) := by
  obtain ⟨h0, h18, _, _⟩ := own_op h
  unfold takesD takesT
  rw [if_neg (by omega)]
  split
  · rfl
  · split <;> rfl
end Go.Proofs.YtidomoibhjgkjaaGreatDoor

/-
  Package expr: a slice of parts that a call owns.
-/
namespace Go.Proofs.YtidomoibhjgkjaaGreatDoor
open Go.RowKit

def cellsQ (x : Nat × Nat) : List Value := [.int .i64 (x.1 : Int), .int .i64 (x.2 : Int)]
def flatQ (l : List (Nat × Nat)) : List Value := l.flatMap cellsQ
theorem flatQ_cons (x : Nat × Nat) (l : List (Nat × Nat)) : flatQ (x :: l) = cellsQ x ++ flatQ l := by simp [flatQ]
theorem flatQ_append (a b : List (Nat × Nat)) : flatQ (a ++ b) = flatQ a ++ flatQ b := by simp [flatQ]
theorem flatQ_one (x : Nat × Nat) : flatQ [x] = cellsQ x := by simp [flatQ]
theorem flatQ_len (l : List (Nat × Nat)) : (flatQ l).length = l.length * 2 := by
  induction l with
  | nil => rfl
  | cons x l ih => rw [flatQ_cons, List.length_append, ih, List.length_cons]; simp [cellsQ]; omega
theorem cellsQ_one (x : Nat × Nat) : ∀ v ∈ cellsQ x, v.oneCell' = true := by
  intro v hv
  simp only [cellsQ, List.mem_cons, List.not_mem_nil, or_false] at hv
  rcases hv with rfl | rfl <;> rfl
theorem flatQ_at : ∀ (l : List (Nat × Nat)) (j : Nat) (h : j < l.length), (flatQ l)[j * 2]? = some (.int .i64 ((l[j]'h).1 : Int)) ∧ (flatQ l)[j * 2 + 1]? = some (.int .i64 ((l[j]'h).2 : Int))
  | [], _, h => absurd h (by simp)
  | x :: l, 0, _ => by simp [flatQ_cons, cellsQ]
  | x :: l, j + 1, h => by
    have ih := flatQ_at l j (by simpa using h)
    have e : ∀ k, (flatQ (x :: l))[(j + 1) * 2 + k]? = (flatQ l)[j * 2 + k]? := fun k => by
      rw [flatQ_cons, List.getElem?_append_right (by simp [cellsQ]; omega)]
      congr 1
      simp [cellsQ]
      omega
    have e0 := e 0
    simp only [Nat.add_zero] at e0
    rw [e0, e 1]
    exact ih
theorem flatQ_take (l : List (Nat × Nat)) (n : Nat) : (flatQ l).take (n * 2) = flatQ (l.take n) := by
  induction l generalizing n with
  | nil => simp [flatQ]
  | cons x l ih =>
    cases n with
    | zero => simp [flatQ]
    | succ n =>
      rw [List.take_succ_cons, flatQ_cons, flatQ_cons, ← ih, List.take_append]
      have hl : (cellsQ x).length = 2 := rfl
      rw [hl, List.take_of_length_le (by rw [hl]; omega)]
      congr 2
      omega
theorem infoPart : ∃ i z, Tryz.prog.info? 129 = some i ∧ i.zero = some z ∧ z.cells.size = 2 ∧ i.size = 2 ∧ i.bytes = 16 := by
  have h : (Tryz.prog.info? 129).map (fun i => (i.zero.map (fun z => z.cells.size), i.size, i.bytes)) = some (some 2, 2, 16) := by kernel_rfl
  obtain ⟨i, hi, hz⟩ := Option.map_eq_some_iff.1 h
  simp only [Prod.mk.injEq] at hz
  obtain ⟨z, hz0, hz1⟩ := Option.map_eq_some_iff.1 hz.1
  exact ⟨i, z, hi, hz0, hz1, hz.2.1, hz.2.2⟩

/-- A slice of these parts, in a block from lo on that nothing else has. -/
def OwnQ (w : World) (lo : Nat) (v : Value) (l : List (Nat × Nat)) : Prop := w.ownsRow lo 129 2 v l.length (flatQ l)
theorem OwnQ.form {w : World} {lo : Nat} {v : Value} {l : List (Nat × Nat)} (h : OwnQ w lo v l) : ∃ A c, v = .slice A l.length c := by
  rcases h.2 with ⟨hv, hn⟩ | ⟨g, cap, cur, hv, _⟩
  · exact ⟨none, 0, by rw [hv, hn]⟩
  · exact ⟨_, cap, hv⟩
theorem OwnQ.nil (w : World) (lo : Nat) : OwnQ w lo (.slice none 0 0) [] := World.ownsRow_nil _ _ _ _
theorem OwnQ.keep {w w' : World} {lo lo' : Nat} {v : Value} {l : List (Nat × Nat)} (h : OwnQ w lo v l) (hk : ∀ g, v.ownBlock = some g → g < w.heap.size → w'.heap[g]? = w.heap[g]?) (hlo : lo' ≤ lo) : OwnQ w' lo' v l := by
  refine ⟨h.1, ?_⟩
  rcases h.2 with h2 | ⟨g, cap, cur, hv, hb, hg, r⟩
  · exact .inl h2
  · refine .inr ⟨g, cap, cur, hv, by omega, ?_, r⟩
    rw [hk g (by rw [hv]; rfl) (Array.getElem?_eq_some_iff.1 hg).1]
    exact hg
theorem OwnQ.below {w w' : World} {lo : Nat} {v : Value} {l : List (Nat × Nat)} (h : OwnQ w lo v l) (hb : Below w.heap.size w w') : OwnQ w' lo v l := h.keep (fun g _ hg => hb.block g hg) (Nat.le_refl _)
theorem OwnQ.lt {w : World} {lo : Nat} {v : Value} {l : List (Nat × Nat)} (h : OwnQ w lo v l) : ∀ g, v.ownBlock = some g → lo ≤ g ∧ g < w.heap.size := fun g hg => World.ownsRow.lt h g hg
/-- Where it lies, and its cells. -/
theorem OwnQ.reads {w : World} {lo : Nat} {A : Option Addr} {n c : Nat} {l : List (Nat × Nat)} (h : OwnQ w lo (.slice A n c) l) (hp : 0 < l.length) :
    ∃ g, A = some ⟨g, 0, none⟩ ∧ lo ≤ g ∧ g < w.heap.size ∧ l.length ≤ c ∧ ∀ j (hj : j < l.length), PartAt w g (j * 2) (l[j]'hj) := by
  rcases h.2 with ⟨hv, hn⟩ | ⟨g, cap, cur, hv, hb, hg, hcap, _⟩
  · omega
  · injection hv with e1 e2 e3
    subst e1 e3
    refine ⟨g, rfl, hb, (Array.getElem?_eq_some_iff.1 hg).1, by omega, fun j hj => ?_⟩
    have hc := h.cells (g := g) rfl
    obtain ⟨t0, t1⟩ := flatQ_at l j hj
    have add : ∀ k, (⟨g, 0, none⟩ : Addr).add k = ⟨g, k, none⟩ := fun k => by unfold Addr.add; split <;> simp_all
    have c0 := hc _ _ t0
    have c1 := hc _ _ t1
    rw [add] at c0 c1
    exact ⟨c0, c1⟩
/-- The last ones of it. -/
theorem OwnQ.rest {w : World} {lo n c : Nat} {A : Option Addr} {l : List (Nat × Nat)} (h : OwnQ w lo (.slice A n c) l) (hp : 0 < l.length) (k : Nat) : ∃ g, A = some ⟨g, 0, none⟩ ∧ RowQ w w.heap.size (some ⟨g, k * 2, none⟩) (l.drop k) := by
  obtain ⟨g, e, _, h2, _, hc⟩ := h.reads hp
  refine ⟨g, e, fun _ => ⟨g, k * 2, rfl, h2, fun j hj => ?_⟩⟩
  have hj' : k + j < l.length := by rw [List.length_drop] at hj; omega
  have := hc (k + j) hj'
  rw [List.getElem_drop]
  rwa [Nat.add_mul] at this
/-- Less of it, with the same room. -/
theorem OwnQ.cut {w : World} {lo n c : Nat} {A : Option Addr} {l : List (Nat × Nat)} (h : OwnQ w lo (.slice A n c) l) (k : Nat) (hk : k ≤ l.length) (hn : 0 < l.length) : OwnQ w lo (.slice A k c) (l.take k) := by
  have hl := flatQ_len (l.take k)
  rcases h.2 with ⟨hv, h0⟩ | ⟨g, cap, cur, hv, hb, hg, hcap, hm, hcs, htk⟩
  · omega
  · injection hv with e1 e2 e3
    subst e1 e2 e3
    have hlk : (l.take k).length = k := by rw [List.length_take]; omega
    refine ⟨hl, .inr ⟨g, c, cur, by rw [hlk], hb, hg, by omega, hm, hcs, ?_⟩⟩
    rw [hlk, ← flatQ_take, ← htk, List.take_take, Nat.min_eq_left (by omega)]
end Go.Proofs.YtidomoibhjgkjaaGreatDoor
