import Derived.Test.YtfpjepeikjfkpaaGreatDoorZC34
import Derived.Test.YtfpjepeikjfkpaaGreatDoorZC27
/-
  Package expr: what an operation makes of the parts that it takes.
-/
namespace Go.Proofs.YtfpjepeikjfkpaaGreatDoor
open Go.RowKit

/-- A part: how strong it is, and how many are open in it. -/
def PartAt (w : World) (b o : Nat) (p : Nat × Nat) : Prop := w.cell? ⟨b, o, none⟩ = some (.int .i64 (p.1 : Int)) ∧ w.cell? ⟨b, o + 1, none⟩ = some (.int .i64 (p.2 : Int))
/-- A slice at A reads as the parts l, in a block below hi; of an empty one nothing is asked. -/
def RowQ (w : World) (hi : Nat) (A : Option Addr) (l : List (Nat × Nat)) : Prop :=
  0 < l.length → ∃ b o, A = some ⟨b, o, none⟩ ∧ b < hi ∧ ∀ j (h : j < l.length), PartAt w b (o + j * 2) (l[j]'h)
theorem PartAt.below {w w' : World} {B b o : Nat} {x : Nat × Nat} (h : PartAt w b o x) (hb : Below B w w') (hB : b < B) : PartAt w' b o x :=
  ⟨(hb.cell (p := ⟨b, o, none⟩) hB).trans h.1, (hb.cell (p := ⟨b, o + 1, none⟩) hB).trans h.2⟩
theorem RowQ.below {w w' : World} {hi B : Nat} {A : Option Addr} {l : List (Nat × Nat)} (h : RowQ w hi A l) (hb : Below B w w') (hB : hi ≤ B) : RowQ w' hi A l := fun hn => by
  obtain ⟨b, o, e, h2, hc⟩ := h hn
  exact ⟨b, o, e, h2, fun j hj => (hc j hj).below hb (Nat.lt_of_lt_of_le h2 hB)⟩
theorem RowQ.at_ {w : World} {hi k : Nat} {A : Option Addr} {l : List (Nat × Nat)} (h : RowQ w hi A l) (hk : k < l.length) : ∃ b o, A = some ⟨b, o, none⟩ ∧ b < hi ∧ PartAt w b (o + k * 2) (l[k]'hk) := by
  obtain ⟨b, o, e, h2, hc⟩ := h (by omega)
  exact ⟨b, o, e, h2, hc k hk⟩

/-- How many are open in the parts from place j on, and in what is there already. -/
def goJ (op : Int) : Nat → Nat → List (Nat × Nat) → Nat
  | _, acc, [] => acc
  | j, acc, p :: l => goJ op (j + 1) (max acc (wrapN (decide (p.1 < leastD op (j : Int))) p.2)) l
/-- Is it a sign of one, or a call? -/
def upD (op : Int) : Bool := decide (2 ≤ op) && decide (op ≤ 5)
def joinD (op : Int) (l : List (Nat × Nat)) : Nat × Nat := (strD op, wrapN (upD op) (goJ op 0 0 l))

/-- A part in a block of its own. -/
def BoxQ (w : World) (b : Nat) (s d : Int) : Prop := w.heap[b]? = some (.cells #[.int .i64 s, .int .i64 d] 49 (0, 0))
theorem BoxQ.lt {w : World} {b : Nat} {s d : Int} (h : BoxQ w b s d) : b < w.heap.size := (Array.getElem?_eq_some_iff.1 h).1
theorem BoxQ.cells {w : World} {b : Nat} {s d : Int} (h : BoxQ w b s d) : w.cell? ⟨b, 0, none⟩ = some (.int .i64 s) ∧ w.cell? ⟨b, 1, none⟩ = some (.int .i64 d) := ⟨cellAt h rfl, cellAt h rfl⟩
theorem BoxQ.frozen {w : World} {b : Nat} {s d : Int} (h : BoxQ w b s d) (o : Nat) : w.frozen? ⟨b, o, none⟩ = false := frozenAt h
theorem BoxQ.below {w w' : World} {b : Nat} {s d : Int} (h : BoxQ w b s d) (hb : Below w.heap.size w w') : BoxQ w' b s d := (hb.block b h.lt).trans h
theorem BoxQ.alloc {w : World} {b : Nat} {s d : Int} (h : BoxQ w b s d) (o : Obj) : BoxQ (w.alloc o) b s d := h.below ((Below.refl _ _).alloc (Nat.le_refl _) _)
theorem BoxQ.set0 {w : World} {b : Nat} {s d : Int} (h : BoxQ w b s d) (s' : Int) : BoxQ (w.setCell ⟨b, 0, none⟩ (.int .i64 s')) b s' d := by
  unfold BoxQ at *
  simp [World.setCell, Array.getElem?_modify, h]
theorem BoxQ.drew {w : World} {b : Nat} {s d : Int} (h : BoxQ w b s d) : BoxQ w.drew b s d := by
  unfold BoxQ at *
  rw [heap_drew]
  exact h
theorem BoxQ.other {w : World} {b b' : Nat} {s d : Int} (h : BoxQ w b s d) (hne : b' ≠ b) (o : Nat) (v : Value) : BoxQ (w.setCell ⟨b', o, none⟩ v) b s d := by
  unfold BoxQ at *
  simp [World.setCell, Array.getElem?_modify, h, hne]
theorem BoxQ.set {w : World} {b : Nat} {s d : Int} (h : BoxQ w b s d) (d' : Int) : BoxQ (w.setCell ⟨b, 1, none⟩ (.int .i64 d')) b s d' := by
  unfold BoxQ at *
  simp [World.setCell, Array.getElem?_modify, h]

set_option maxRecDepth 100000 in
set_option maxHeartbeats 4000000 in
theorem joined_any (op : Int) (l : List (Nat × Nat)) (A : Option Addr) (c : Nat) (hl : l.length ≤ 2) (hd : ∀ p ∈ l, p.1 ≤ 7 ∧ p.2 ≤ 1000) (w : World) (hr : RowQ w w.heap.size A l) :
    Calls Tryz.prog 24 #[.int .i64 op, .slice A l.length c] w fun r w' => r = .returned (.agg #[.int .i64 ((joinD op l).1 : Int), .int .i64 ((joinD op l).2 : Int)]) ∧ Below w.heap.size w w' := by
  have HR := Lib.hid hr
  have HD := Lib.hid hd
  have HS := Lib.hid (fun w => (dStrength_any op w).mono fun _ _ h => And.intro h.1 h.2.symm)
  have HLe := Lib.hid (fun p w => (dLeast_any op p w).mono fun _ _ h => And.intro h.1 h.2.symm)
  have hll : ∀ p, leastD op p ≤ 8 := fun p => by have := strD_le op; unfold leastD; split; omega; split <;> omega
  have HLL := Lib.hid hll
  clear hr hd hll
  go_enter Tryz.func24, Tryz.ntmps24
  go_wp2_with (go_at_call 31; refine (HS.out _).mono ?_; rintro r w' ⟨rfl, rfl⟩)
  go_loopg [14] l.length (fun q i wr => ∃ j acc : Nat, j + q = l.length ∧ i = .int .i64 j ∧ goJ op 0 0 l = goJ op j acc (l.drop j) ∧ acc ≤ 1001 ∧ BoxQ wr (w.heap.size + 1) (strD op : Int) (acc : Int) ∧ BoxQ wr w.heap.size 0 0 ∧ Below w.heap.size w wr)
  case atStart =>
    refine ⟨0, 0, by omega, rfl, rfl, by omega, ?_, heap_alloc2_old .., ((Below.refl _ w).alloc (Nat.le_refl _) _).alloc (by simp) _⟩
    have h := heap_alloc_new (w.alloc (.cells #[.int .i64 0, .int .i64 0] 49)) (.cells #[.int .i64 (strD op : Int), .int .i64 0] 49)
    rw [show (w.alloc (.cells #[.int .i64 0, .int .i64 0] 49)).heap.size = w.heap.size + 1 from by simp] at h
    exact h
  case round =>
    obtain ⟨j, acc, hk, rfl, hgo, hacc, hw, hz, hb⟩ := hrel
    have HK := Lib.hid hk
    have HB := Lib.hid hb
    have HW := Lib.hid hw
    have HZ := Lib.hid hz
    clear hb hk hz
    obtain ⟨x0, x1⟩ := hw.cells
    have f1 := hw.frozen 1
    have hwl := hw.lt
    clear hw
    by_cases hj : j < l.length
    · have hlt : decide ((j : Int) < (l.length : Int)) = true := by simpa using hj
      have hlt2 : decide (j < l.length) = true := by simpa using hj
      obtain ⟨b, o, rfl, hbl, c0, c1⟩ := (HR.out.below HB.out (Nat.le_refl _)).at_ hj
      have hp := HD.out _ (List.getElem_mem hj)
      rw [List.drop_eq_getElem_cons hj, goJ] at hgo
      generalize l[j] = p at *
      obtain ⟨s, d⟩ := p
      simp only at c0 c1 hp hgo
      have HLe' := Lib.hid (HLe.out (j : Int))
      generalize leastD op (j : Int) = le at *
      have hHB := HB.out
      have HBn : ∀ (m : Int) (o : Obj), Below w.heap.size w (((wr.setCell ⟨w.heap.size + 1, 1, none⟩ (.int .i64 m)).alloc o).drew) := fun m o => ((hHB.setCell (by simp) _).alloc (by simpa using hHB.size) _).drew
      have HBN := Lib.hid HBn
      have HWn := Lib.hid (fun (m : Int) (o : Obj) => ((HW.out.set m).alloc o).drew)
      have HZn := Lib.hid (fun (m : Int) (o : Obj) => ((HZ.out.other (b' := w.heap.size + 1) (by omega) 1 (.int .i64 m)).alloc o).drew)
      clear hHB HBn
      cases hlq : decide (s < le)
      · have q1 : decide ((s : Int) < (le : Int)) = false := by rw [decide_eq_false_iff_not] at hlq ⊢; omega
        have HGo := Lib.hid (hlq ▸ hgo)
        have HMx : max (acc : Int) (d : Int) = ((max acc d : Nat) : Int) := by omega
        clear hgo
        go_wp2
        go_region_with ((go_at_call 46; refine (HLe'.out _).mono ?_; rintro r w' ⟨rfl, rfl⟩))
        all_goals
          go_wp2
          go_roundg (gk - 1)
          case measure => have := HK.out; omega
          case rel => exact ⟨j + 1, max acc d, by have := HK.out; omega, by go_num, HGo.out, by omega, by rw [← HMx]; exact HWn.out _ _, HZn.out _ _, HBN.out _ _⟩
      · have q1 : decide ((s : Int) < (le : Int)) = true := by rw [decide_eq_true_iff] at hlq ⊢; omega
        have HGo := Lib.hid (hlq ▸ hgo)
        have HMx : max (acc : Int) ((d : Int) + 1) = ((max acc (d + 1) : Nat) : Int) := by omega
        clear hgo
        go_wp2
        go_region_with ((go_at_call 46; refine (HLe'.out _).mono ?_; rintro r w' ⟨rfl, rfl⟩))
        all_goals
          go_wp2
          go_roundg (gk - 1)
          case measure => have := HK.out; omega
          case rel => exact ⟨j + 1, max acc (d + 1), by have := HK.out; omega, by go_num, HGo.out, by omega, by rw [← HMx]; exact HWn.out _ _, HZn.out _ _, HBN.out _ _⟩
    · have hlt : decide ((j : Int) < (l.length : Int)) = false := by simpa using hj
      have hlt2 : decide (j < l.length) = false := by simpa using hj
      rw [List.drop_eq_nil_of_le (by omega), goJ] at hgo
      have hJ : joinD op l = (strD op, wrapN (upD op) acc) := by unfold joinD; rw [hgo]
      obtain ⟨z0, z1⟩ := HZ.out.cells
      have g0 := HZ.out.frozen 0
      have g1 := HZ.out.frozen 1
      have hHB := HB.out
      have HE1 := Lib.hid (fun (v0 v1 : Value) => ((hHB.setCell (p := ⟨w.heap.size, 0, none⟩) (Nat.le_refl _) v0).setCell (p := ⟨w.heap.size, 1, none⟩) (Nat.le_refl _) v1))
      have HE2 := Lib.hid (fun (v v0 v1 : Value) => (((hHB.setCell (p := ⟨w.heap.size + 1, 1, none⟩) (by simp) v).setCell (p := ⟨w.heap.size, 0, none⟩) (Nat.le_refl _) v0).setCell (p := ⟨w.heap.size, 1, none⟩) (Nat.le_refl _) v1))
      clear hgo hj HR hHB
      by_cases hop : 2 ≤ op ∧ op ≤ 5
      · have hu : upD op = true := by unfold upD; simp [hop]
        rw [hu] at hJ
        have HJ := Lib.hid hJ
        have hs : (op == 2) = true ∨ ((op == 2) = false ∧ (op == 3) = true) ∨ ((op == 2) = false ∧ (op == 3) = false ∧ (op == 4) = true) ∨ ((op == 2) = false ∧ (op == 3) = false ∧ (op == 4) = false ∧ (op == 5) = true) := by
          simp only [beq_iff_eq, beq_eq_false_iff_ne]
          omega
        clear hop hu hJ
        rcases hs with p2 | ⟨p2, p3⟩ | ⟨p2, p3, p4⟩ | ⟨p2, p3, p4, p5⟩
        all_goals
          go_wp2
          obtain ⟨t0, t1⟩ := (((HZ.out.other (b' := w.heap.size + 1) (by omega) 1 (.int .i64 ((acc : Int) + 1))).set0 (strD op : Int)).set ((acc : Int) + 1)).cells
          refine bodyPost_ret (v := .agg #[.int .i64 (strD op : Int), .int .i64 ((acc : Int) + 1)]) (by simp [results, Tryz.results24, go_sem, t0, t1]) rfl ⟨?_, HE2.out _ _ _⟩
          rw [HJ.out]
          rfl
      · have hu : upD op = false := by unfold upD; rw [Bool.and_eq_false_iff, decide_eq_false_iff_not, decide_eq_false_iff_not]; omega
        rw [hu] at hJ
        have HJ := Lib.hid hJ
        have p2 : (op == 2) = false := by rw [beq_eq_false_iff_ne]; omega
        have p3 : (op == 3) = false := by rw [beq_eq_false_iff_ne]; omega
        have p4 : (op == 4) = false := by rw [beq_eq_false_iff_ne]; omega
        have p5 : (op == 5) = false := by rw [beq_eq_false_iff_ne]; omega
        clear hop hu hJ
        go_wp2
        obtain ⟨t0, t1⟩ := ((HZ.out.set0 (strD op : Int)).set (acc : Int)).cells
        refine bodyPost_ret (v := .agg #[.int .i64 (strD op : Int), .int .i64 (acc : Int)]) (by simp [results, Tryz.results24, go_sem, t0, t1]) rfl ⟨?_, HE1.out _ _⟩
        rw [HJ.out]
        rfl
end Go.Proofs.YtfpjepeikjfkpaaGreatDoor

/-
  Package expr: the parts of trees: what an operation makes of them is the part of the tree that it makes.
-/
namespace Go.Proofs.YtfpjepeikjfkpaaGreatDoor
open Go.RowKit

def partE (t : Ex) : Nat × Nat := (strD (topE t), deepE t)
theorem strOf_D (x : Int) : (strD x < 6 ∧ strOf x + 1 = strD x) ∨ (6 ≤ strD x ∧ strOf x = 9) := by
  unfold strD strOf
  repeat' split
  all_goals omega
theorem strD_pos (x : Int) : 1 ≤ strD x := by
  unfold strD
  repeat' split
  all_goals omega
theorem two_strD {op : Int} (h : 6 ≤ op ∧ op ≤ 18) : strD op ≤ 5 := by
  unfold strD
  repeat' split
  all_goals omega
theorem least_left {op : Int} (h : 6 ≤ op ∧ op ≤ 18) (x : Int) : decide (strD x < leastD op 0) = inB op x false := by
  have h1 := two_strD h
  have h2 := strOf_D op
  have h3 := strOf_D x
  have h4 := strD_pos op
  have h5 := strD_pos x
  have hl : (strD op = 3 ∧ leastD op 0 = strD op + 1) ∨ (strD op ≠ 3 ∧ leastD op 0 = strD op) := by
    unfold leastD
    rw [if_neg (by omega)]
    by_cases h : strD op = 3
    · exact .inl ⟨h, if_pos (.inr h)⟩
    · exact .inr ⟨h, if_neg (by omega)⟩
  generalize leastD op 0 = le at *
  unfold inB
  have hop : op ≠ 5 := by omega
  by_cases hx : strOf x = 9
  · rw [if_pos (Or.inr hx), decide_eq_false_iff_not]
    omega
  · rw [if_neg (by omega), if_neg (by omega)]
    rw [Bool.eq_iff_iff]
    simp only [Bool.or_eq_true, Bool.and_eq_true, decide_eq_true_eq, Bool.false_eq_true, false_or]
    omega
theorem least_right {op : Int} (h : 6 ≤ op ∧ op ≤ 18) (x : Int) : decide (strD x < leastD op 1) = inB op x true := by
  have h1 := two_strD h
  have h2 := strOf_D op
  have h3 := strOf_D x
  have h4 := strD_pos op
  have h5 := strD_pos x
  have hl : leastD op 1 = strD op + 1 := by
    unfold leastD
    rw [if_neg (by omega), if_pos (.inl (by decide))]
  rw [hl]
  unfold inB
  by_cases hx : strOf x = 9
  · rw [if_pos (Or.inr hx), decide_eq_false_iff_not]
    omega
  · rw [if_neg (by omega), if_neg (by omega)]
    rw [Bool.eq_iff_iff]
    simp only [Bool.or_eq_true, Bool.and_eq_true, decide_eq_true_eq, Bool.true_or, and_true]
    omega
theorem least_one {op : Int} (h : op = 3 ∨ op = 4) (x : Int) : decide (strD x < leastD op 0) = inB op x true := by
  have h3 := strOf_D x
  have hl : leastD op 0 = 6 := by rcases h with rfl | rfl <;> rfl
  have ho : strOf op = 9 := by rcases h with rfl | rfl <;> rfl
  rw [hl]
  unfold inB
  by_cases hx : strOf x = 9
  · rw [if_pos (Or.inr hx), decide_eq_false_iff_not]
    omega
  · rw [if_neg (by omega), if_pos ho, decide_eq_true_iff]
    omega
theorem join_none {op : Int} (v : Ex) (h : (op = 0 ∧ topE v = 0 ∧ deepE v = 0) ∨ (op = 1 ∧ topE v = 1 ∧ deepE v = 0) ∨ (op = 2 ∧ topE v = 2 ∧ deepE v = 1)) : joinD op [] = partE v := by
  unfold joinD partE
  rcases h with ⟨rfl, h1, h2⟩ | ⟨rfl, h1, h2⟩ | ⟨rfl, h1, h2⟩ <;> rw [h1, h2] <;> rfl
theorem join_one {op : Int} (h : op = 3 ∨ op = 4 ∨ op = 5) (a : Ex) : joinD op [partE a] = partE (.one op a) := by
  have hu : upD op = true := by rcases h with rfl | rfl | rfl <;> rfl
  show (strD op, wrapN (upD op) (max 0 (wrapN (decide (strD (topE a) < leastD op 0)) (deepE a)))) = (strD op, deepE (.one op a))
  rw [hu, Nat.zero_max, deepE]
  by_cases h5 : op = 5
  · subst h5
    rw [if_pos rfl]
    rfl
  · rw [if_neg h5, least_one (by omega)]
    rfl
theorem join_two {op : Int} (h : 6 ≤ op ∧ op ≤ 18) (a b : Ex) : joinD op [partE a, partE b] = partE (.two op a b) := by
  have hu : upD op = false := by unfold upD; rw [Bool.and_eq_false_iff, decide_eq_false_iff_not, decide_eq_false_iff_not]; omega
  show (strD op, wrapN (upD op) (max (max 0 (wrapN (decide (strD (topE a) < leastD op 0)) (deepE a))) (wrapN (decide (strD (topE b) < leastD op 1)) (deepE b)))) = (strD op, deepE (.two op a b))
  rw [hu, Nat.zero_max, deepE, least_left h, least_right h]
  rfl

/-- What the program holds of trees, the last one last. -/
def prtsE (st : List Ex) : List (Nat × Nat) := (st.map partE).reverse
theorem prtsE_len (st : List Ex) : (prtsE st).length = st.length := by simp [prtsE]
theorem prts_step {t : TM} (h : ownT t = 0) {st : List Ex} (hn : takesT t.op ≤ st.length) :
    prtsE (stepE st t) = (prtsE st).take (st.length - takesT t.op) ++ [joinD t.op ((prtsE st).drop (st.length - takesT t.op))] := by
  obtain ⟨h0, h18, _, _⟩ := own_op h
  obtain ⟨op, v, m⟩ := t
  simp only at h0 h18 hn ⊢
  have hl := prtsE_len st
  unfold stepE
  simp only
  by_cases e3 : op < 3
  · have ht : takesT op = 0 := if_pos e3
    rw [ht, Nat.sub_zero, List.take_of_length_le (by omega), List.drop_of_length_le (by omega)]
    by_cases e0 : op = 0
    · subst e0
      rw [if_pos rfl, join_none (.val v) (.inl ⟨rfl, rfl, rfl⟩)]
      simp [prtsE]
    · rw [if_neg e0]
      by_cases e1 : op = 1
      · subst e1
        rw [if_pos rfl, join_none (.var m) (.inr (.inl ⟨rfl, rfl, rfl⟩))]
        simp [prtsE]
      · have e2 : op = 2 := by omega
        subst e2
        rw [if_neg (by decide), if_pos rfl, join_none (.has m) (.inr (.inr ⟨rfl, rfl, rfl⟩))]
        simp [prtsE]
  · rw [if_neg (by omega), if_neg (by omega), if_neg (by omega)]
    by_cases e6 : op < 6
    · have ht : takesT op = 1 := by unfold takesT; rw [if_neg e3, if_pos e6]
      rw [ht] at hn ⊢
      rw [if_pos e6]
      cases st with
      | nil => simp at hn
      | cons a r =>
        have hr := prtsE_len r
        have hp : prtsE (a :: r) = prtsE r ++ [partE a] := by simp [prtsE]
        have hp2 : prtsE (.one op a :: r) = prtsE r ++ [partE (.one op a)] := by simp [prtsE]
        rw [hp, List.length_cons, Nat.add_sub_cancel, List.take_left' hr, List.drop_left' hr, join_one (by omega), ← hp2]
    · have ht : takesT op = 2 := by unfold takesT; rw [if_neg e3, if_neg e6]
      rw [ht] at hn ⊢
      rw [if_neg e6]
      match st, hn with
      | b :: a :: r, _ =>
        have hr := prtsE_len r
        have hp : prtsE (b :: a :: r) = prtsE r ++ [partE a, partE b] := by simp [prtsE]
        have hp2 : prtsE (.two op a b :: r) = prtsE r ++ [partE (.two op a b)] := by simp [prtsE]
        have hn2 : (b :: a :: r).length - 2 = r.length := by simp
        rw [hp, hn2, List.take_left' hr, List.drop_left' hr, join_two (by omega)]
        exact hp2
theorem takesD_own {t : TM} (h : ownT t = 0) : takesD t.op = (takesT t.op : Int) := by
  obtain ⟨h0, h18, _, _⟩ := own_op h
  unfold takesD takesT
  rw [if_neg (by omega)]
  split
  · rfl
  · split <;> rfl
end Go.Proofs.YtfpjepeikjfkpaaGreatDoor

/-
  Expressions, the document's own answers: the text of a tree's terms, and how many are open in it.
-/
namespace Go.Proofs.YtfpjepeikjfkpaaGreatDoor
open Go.RowKit

theorem ba_catT (a b : List UInt8) : (⟨a.toArray⟩ : ByteArray) ++ ⟨b.toArray⟩ = ⟨(a ++ b).toArray⟩ := by
  apply ByteArray.ext
  simp
def retText (l : List UInt8) (n : Nat) : Ending := .returned (.tuple #[.string ⟨l.toArray⟩, .int .i64 (n : Int)])
/-- The text of what ends with a term is a tree's. -/
def TextAt (l : List TM) (A : Option Addr) (c : Nat) (x : Int) (t : Ex) : Prop := ∀ w : World, RowT w 0 w.heap.size A l → Calls Tryz.prog 27 #[.slice A l.length c, .int .i64 x] w fun r w' => r = retText (txtE t) (deepE t) ∧ Below w.heap.size w w'
set_option maxRecDepth 100000 in
set_option maxHeartbeats 2000000 in
theorem held_any (l : List TM) (A : Option Addr) (c : Nat) (K : Nat) (x : TM) (right : Bool) (t : Ex) (hK : K < l.length) (ht : (l[K]'hK).op = topE t) (hT : TextAt l A c (K : Int) t) (hd : deepE t ≤ 1000000) (hlen : (txtE t).length ≤ 1000000) (w : World) (hr : RowT w 0 w.heap.size A l) :
    Calls Tryz.prog 51 #[.slice A l.length c, termVal x, .int .i64 (K : Int), .bool right] w fun r w' => r = retText (wrapL (inB x.op (topE t) right) (txtE t)) (wrapN (inB x.op (topE t) right) (deepE t)) ∧ Below w.heap.size w w' := by
  have HR := Lib.hid hr
  obtain ⟨b, o, rfl, _⟩ := hr.at_ hK
  have hlt : decide (K < l.length) = true := by simpa using hK
  have hKI : (K : Int) < (l.length : Int) := by omega
  have HT := Lib.hid (fun (wx : World) (hb : Below w.heap.size w wx) => hT wx ((hr.below hb (Nat.le_refl _)).wide (Nat.le_refl _) hb.size))
  have HB := Lib.hid (fun (y : TM) (wx : World) => brackets_any x y right wx)
  have hin : inB x.op (l[K]'hK).op right = inB x.op (topE t) right := by rw [ht]
  have HCells := Lib.hid (fun (wx : World) (hb : Below w.heap.size w wx) => (show TermAt wx b (o + K * 5) (l[K]'hK) from by
    obtain ⟨b', o', e, h⟩ := (HR.out.below hb (Nat.le_refl _)).at_ hK
    injection e with e
    injection e with e1 e2
    subst e1 e2
    exact h))
  clear ht hr hT
  generalize l[K]'hK = y at *
  obtain ⟨op, ⟨k, n, s⟩, nm⟩ := x
  obtain ⟨op', ⟨k', n', s'⟩, nm'⟩ := y
  simp only [termVal] at HB hin ⊢
  rw [← hin]
  clear hin
  generalize hTL : txtE t = tl at *
  generalize deepE t = dp at *
  simp only [retText] at HT
  have HKeep := Lib.hid (fun (w1 w' : World) (hb1 : Below (w.heap.size + 1) (w.alloc (.cells #[.int .i64 op, .int .i64 k, .int .i64 n, .string s, .string nm] 44)) w1) (hb : Below w1.heap.size w1 w') =>
    (show (w'.cell? ⟨w.heap.size, 0, none⟩ = some (.int .i64 op) ∧ w'.cell? ⟨w.heap.size, 1, none⟩ = some (.int .i64 k) ∧ w'.cell? ⟨w.heap.size, 2, none⟩ = some (.int .i64 n) ∧ w'.cell? ⟨w.heap.size, 3, none⟩ = some (.string s) ∧ w'.cell? ⟨w.heap.size, 4, none⟩ = some (.string nm)) ∧ TermAt w' b (o + K * 5) ⟨op', ⟨k', n', s'⟩, nm'⟩ from by
      have hall := hb1.trans (hb.mono (Nat.le_trans (by simp) hb1.size))
      have g : ∀ i v, (w.alloc (.cells #[.int .i64 op, .int .i64 k, .int .i64 n, .string s, .string nm] 44)).cell? ⟨w.heap.size, i, none⟩ = some v → w'.cell? ⟨w.heap.size, i, none⟩ = some v := fun i v h => (hall.cell (p := ⟨w.heap.size, i, none⟩) (Nat.lt_succ_self _)).trans h
      refine ⟨⟨g 0 _ (by simp [go_sem]), g 1 _ (by simp [go_sem]), g 2 _ (by simp [go_sem]), g 3 _ (by simp [go_sem]), g 4 _ (by simp [go_sem])⟩, ?_⟩
      exact HCells.out _ ((box_below w _ _).trans (hall.mono (Nat.le_succ _)))))
  have hbr := fun (w1 wx : World) (hb : Below w1.heap.size w1 wx) => (HB.out ⟨op', ⟨k', n', s'⟩, nm'⟩ wx).mono fun _ _ h => And.intro h.1 (hb.trans (h.2.mono hb.size))
  simp only at hbr
  clear HB
  generalize inB op op' right = v at *
  have HBr := Lib.hid hbr
  clear hbr
  cases v
  all_goals
    go_enter Tryz.func51, Tryz.ntmps51
    go_wp2_with fail
    refine (HT.out _ (box_below w _ _)).mono ?_
    rintro r w1 ⟨rfl, hb1⟩
    have hb2 := (box_below w _ _).trans (hb1.mono (by simp))
    have HB1 := Lib.hid hb2
    have hb1' : Below (w.heap.size + 1) (w.alloc (.cells #[.int .i64 op, .int .i64 k, .int .i64 n, .string s, .string nm] 44)) w1 := by simpa using hb1
    have HK1 := Lib.hid (fun w' hb => HKeep.out w1 w' hb1' hb)
    clear hb1 hb2 hb1'
    go_wp2_with fail
    refine region_class (C := fun w' => Below w1.heap.size w1 w') (by kernel_rfl) (by kernel_rfl) (Below.refl _ _).drew ?_
    repeat (quiet_step (first
      | (intro hw; with_reducible exact HBr.out w1 _ hw)
      | (intro _; with_reducible rfl)
      | (intro hw; obtain ⟨⟨c0, c1, c2, c3, c4⟩, e0, e1, e2, e3, e4⟩ := HK1.out _ hw; go_simp; with_reducible exact ⟨rfl, rfl⟩) | (intro hw; obtain ⟨⟨c0, c1, c2, c3, c4⟩, e0, e1, e2, e3, e4⟩ := HK1.out _ hw; go_simp; with_reducible rfl) | (intro _; exact rfl)))
    refine wpQuiet_nil ?_
    intro w8 hb8
    have HB8 := Lib.hid (HB1.out.trans (hb8.mono HB1.out.size))
    clear hb8
    go_wp2_with fail
    first
      | exact bodyPost_ret (v := .tuple #[.string ⟨tl.toArray⟩, .int .i64 (dp : Int)]) (by simp [results, Tryz.results51, go_sem]) rfl ⟨rfl, HB8.out⟩
      | (refine bodyPost_ret (v := .tuple #[.string (⟨#[40]⟩ ++ ⟨tl.toArray⟩ ++ ⟨#[41]⟩), .int .i64 ((dp : Int) + 1)]) (by simp [results, Tryz.results51, go_sem]) rfl ⟨?_, HB8.out⟩
         rw [ba_catT [40] tl, ba_catT _ [41]]
         rfl)
end Go.Proofs.YtfpjepeikjfkpaaGreatDoor

/-
  Expressions, the document's own answers: the text of a tree's terms, case by case.
-/
namespace Go.Proofs.YtfpjepeikjfkpaaGreatDoor
open Go.RowKit

theorem ba_selfT (p : ByteArray) : (⟨p.data.toList.toArray⟩ : ByteArray) = p := by cases p; simp
def RefPrintC : Prop := ∀ v : V, rightV v = 0 → -9223372036854775808 ≤ v.n ∧ v.n ≤ 9223372036854775807 → ∀ w : World, Calls Tryz.prog 50 #[v.val] w fun r w' => r = .returned (.string ⟨(printV v).toArray⟩) ∧ Below w.heap.size w w'

set_option maxRecDepth 100000 in
set_option maxHeartbeats 2000000 in
theorem part_val (hP : RefPrintC) (l : List TM) (A : Option Addr) (c : Nat) (K : Nat) (v : V) (hK : K < l.length) (ht : l[K]'hK = ⟨0, v, mtS⟩) (hr0 : rightV v = 0) (hb0 : -9223372036854775808 ≤ v.n ∧ v.n ≤ 9223372036854775807) : TextAt l A c (K : Int) (.val v) := by
  intro w hr
  obtain ⟨b, o, rfl, c0, c1, c2, c3, c4⟩ := hr.at_ hK
  have hlt : decide (K < l.length) = true := by simpa using hK
  have hKI : (K : Int) < (l.length : Int) := by omega
  rw [ht] at c0 c1 c2 c3 c4
  have HPr := Lib.hid (hP v hr0 hb0)
  obtain ⟨k, n, s⟩ := v
  simp only [V.val] at c0 c1 c2 c3 c4 HPr
  clear ht hr0 hb0
  show Calls _ _ _ _ fun r w' => r = retText (printV ⟨k, n, s⟩) 0 ∧ Below w.heap.size w w'
  generalize printV ⟨k, n, s⟩ = pl at *
  have hb := box_below w #[.int .i64 0, .int .i64 k, .int .i64 n, .string s, .string mtS] 44
  have HB := Lib.hid hb
  clear hb
  go_enter Tryz.func27, Tryz.ntmps27
  go_wp2_with fail
  refine (HPr.out _).mono ?_
  rintro r w1 ⟨rfl, hb1⟩
  have HB1 := Lib.hid (HB.out.trans (hb1.mono HB.out.size))
  clear hb1
  go_wp2_with fail
  exact bodyPost_ret (v := .tuple #[.string ⟨pl.toArray⟩, .int .i64 0]) (by simp [results, Tryz.results27, go_sem]) rfl ⟨rfl, HB1.out⟩
set_option maxRecDepth 100000 in
set_option maxHeartbeats 2000000 in
theorem part_var (l : List TM) (A : Option Addr) (c : Nat) (K : Nat) (m : ByteArray) (hK : K < l.length) (ht : l[K]'hK = ⟨1, V0, m⟩) : TextAt l A c (K : Int) (.var m) := by
  intro w hr
  obtain ⟨b, o, rfl, c0, c1, c2, c3, c4⟩ := hr.at_ hK
  have hlt : decide (K < l.length) = true := by simpa using hK
  have hKI : (K : Int) < (l.length : Int) := by omega
  rw [ht] at c0 c1 c2 c3 c4
  simp only [V0] at c0 c1 c2 c3 c4
  clear ht
  show Calls _ _ _ _ fun r w' => r = retText m.data.toList 0 ∧ Below w.heap.size w w'
  have hb := box_below w #[.int .i64 1, .int .i64 0, .int .i64 0, .string ⟨#[]⟩, .string m] 44
  have HB := Lib.hid hb
  clear hb
  unfold retText
  rw [ba_selfT]
  go_enter Tryz.func27, Tryz.ntmps27
  go_wp2_with fail
  exact bodyPost_ret (v := .tuple #[.string m, .int .i64 0]) (by simp [results, Tryz.results27, go_sem]) rfl ⟨rfl, HB.out⟩
set_option maxRecDepth 100000 in
set_option maxHeartbeats 2000000 in
theorem part_has (l : List TM) (A : Option Addr) (c : Nat) (K : Nat) (m : ByteArray) (hm : m.size ≤ 1000000) (hK : K < l.length) (ht : l[K]'hK = ⟨2, V0, m⟩) : TextAt l A c (K : Int) (.has m) := by
  intro w hr
  obtain ⟨b, o, rfl, c0, c1, c2, c3, c4⟩ := hr.at_ hK
  have hlt : decide (K < l.length) = true := by simpa using hK
  have hKI : (K : Int) < (l.length : Int) := by omega
  rw [ht] at c0 c1 c2 c3 c4
  simp only [V0] at c0 c1 c2 c3 c4
  clear ht
  show Calls _ _ _ _ fun r w' => r = retText ([104, 97, 115, 40] ++ m.data.toList ++ [41]) 1 ∧ Below w.heap.size w w'
  have hb := box_below w #[.int .i64 2, .int .i64 0, .int .i64 0, .string ⟨#[]⟩, .string m] 44
  have HB := Lib.hid hb
  clear hb
  unfold retText
  rw [← ba_catT, ← ba_catT, ba_selfT]
  go_enter Tryz.func27, Tryz.ntmps27
  go_wp2_with fail
  exact bodyPost_ret (v := .tuple #[.string (⟨#[104, 97, 115, 40]⟩ ++ m ++ ⟨#[41]⟩), .int .i64 1]) (by simp [results, Tryz.results27, go_sem]) rfl ⟨rfl, HB.out⟩
end Go.Proofs.YtfpjepeikjfkpaaGreatDoor
