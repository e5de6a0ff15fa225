import Derived.Test.YtjkmodfbbiojmaaZC11
import Derived.Test.YtjkmodfbbiojmaaZC13
import Derived.Test.YtjkmodfbbiojmaaZC14
import Derived.Test.YtjkmodfbbiojmaaZC07
import Derived.Deep.DeepCutAuto
import Derived.Deep.LoopGhost
/-
  What package ssi has to answer, as contracts.
-/
namespace Go.Proofs.Ytjkmodfbbiojmaa
open Go.RowKit

instance : DecidableEq RecS := fun a b => decidable_of_iff (a.first = b.first ∧ a.last = b.last ∧ a.began = b.began ∧ a.out = b.out ∧ a.reads = b.reads ∧ a.writes = b.writes) (by cases a; cases b; simp)
def sameOneR (a b : RecS) : Bool := decide (a = b)
def sameR (a b : List RecS) : Bool := decide (a = b)
/-- How package span joins two lists, with at most so many stretches. -/
def jI (n : Int) (a b : List Sp) : List Sp := fitI n (joinSp (a ++ b))
/-- Records of which the contracts speak. -/
def okR (r : RecS) : Prop := r.reads.length ≤ 1000 ∧ r.writes.length ≤ 1000
def okRs (l : List RecS) : Prop := l.length ≤ 1000 ∧ manyR l ≤ 1000
theorem okRs.mem {l : List RecS} (h : okRs l) {r : RecS} (hr : r ∈ l) : okR r := by
  have h1 := many_mem hr
  have h2 := h.2
  exact ⟨by omega, by omega⟩
structure SsiC : Prop where
  right : ∀ (x : MR) (w : World), okR x.r → OkMR w w.heap.size x → Calls Try.prog 20 #[recVal x] w fun r w' => r = .returned (.bool (rightR x.r)) ∧ Below w.heap.size w w'
  judge : ∀ (l : List RecS) (A : Option Addr) (c : Nat) (x : MR) (w : World), okRs l → okR x.r → ChR w w.heap.size A c l → OkMR w w.heap.size x → Calls Try.prog 21 #[.slice A l.length c, recVal x] w fun r w' => r = .returned (judgeVal (judgeR l x.r)) ∧ Below w.heap.size w w'
  join : ∀ (x y : MR) (n : Int) (w : World), x.r.reads.length + y.r.reads.length ≤ 1000 → x.r.writes.length + y.r.writes.length ≤ 1000 → -9223372036854775808 ≤ n → n ≤ 9223372036854775807 → OkMR w w.heap.size x → OkMR w w.heap.size y → Calls Try.prog 11 #[recVal x, recVal y, .int .i64 n] w (RetOne (joinR (jI n) x.r y.r) w)
  forget : ∀ (l : List RecS) (A : Option Addr) (c : Nat) (low : Nat) (w : World), okRs l → low < 18446744073709551616 → ChR w w.heap.size A c l → Calls Try.prog 14 #[.slice A l.length c, .int .u64 low] w (RetRec (forgetR l low) w)
  fit : ∀ (l : List RecS) (A : Option Addr) (c : Nat) (n marks : Int) (w : World), okRs l → -9223372036854775808 ≤ n → n ≤ 9223372036854775807 → -9223372036854775808 ≤ marks → marks ≤ 9223372036854775807 → ChR w w.heap.size A c l → Calls Try.prog 16 #[.slice A l.length c, .int .i64 n, .int .i64 marks] w (RetRec (fitR (jI marks) n.toNat l) w)
  same : ∀ (a b : List RecS) (A B : Option Addr) (c d : Nat) (w : World), okRs a → okRs b → ChR w w.heap.size A c a → ChR w w.heap.size B d b → Calls Try.prog 18 #[.slice A a.length c, .slice B b.length d] w fun r w' => r = .returned (.bool (sameR a b)) ∧ Below w.heap.size w w'

/-! ### few -/
def fewOne (r : RecS) : Bool := fewI r.reads && fewI r.writes && decide (r.reads.length + r.writes.length ≤ 20)
def fewR (l : List RecS) : Bool := l.all fewOne && decide (l.length ≤ 20)
theorem fewR_yes {l : List RecS} (h : fewR l = true) : (∀ r ∈ l, fewI r.reads = true ∧ fewI r.writes = true ∧ r.reads.length + r.writes.length ≤ 20) ∧ l.length ≤ 20 := by
  unfold fewR at h
  rw [Bool.and_eq_true, List.all_eq_true, decide_eq_true_iff] at h
  refine ⟨fun r hr => ?_, h.2⟩
  have := h.1 r hr
  unfold fewOne at this
  rw [Bool.and_eq_true, Bool.and_eq_true, decide_eq_true_iff] at this
  exact ⟨this.1.1, this.1.2, this.2⟩
theorem fewR_ok {l : List RecS} (h : fewR l = true) : okRs l := by
  obtain ⟨h1, h2⟩ := fewR_yes h
  have h3 := many_le (l := l) (n := 20) fun r hr => (h1 r hr).2.2
  refine ⟨by omega, ?_⟩
  have : l.length * 20 ≤ 20 * 20 := Nat.mul_le_mul_right 20 h2
  omega
theorem fewR_one {r : RecS} (h : fewR [r] = true) : okR r := (fewR_ok h).mem (List.mem_cons_self ..)
/-! ### what the statements conclude by -/
theorem jI_len (n : Int) (a b : List Sp) : (jI n a b).length ≤ a.length + b.length := by
  have h1 := fit_shrinks (n := n) (joinSp (a ++ b))
  have h2 := join_len (a ++ b)
  rw [List.length_append] at h2
  unfold jI
  omega
theorem jI_c (n : Int) : JoinC (jI n) := by
  have hn : ∀ a b : List Sp, normS (jI n a b) ∧ ∀ k, inP (joinSp (a ++ b)) k = true → inP (jI n a b) k = true := fun a b => fit_norm _ _ _ (Nat.le_refl _) (join_norm _)
  refine ⟨fun a b => (hn a b).1, fun a b k h => (hn a b).2 k ?_, fun a b k h => (hn a b).2 k ?_⟩
  · rw [join_in]
    unfold inP at *
    rw [List.any_append, h, Bool.true_or]
  · rw [join_in]
    unfold inP at *
    rw [List.any_append, h, Bool.or_true]
theorem fit_many (marks : Int) (n : Nat) : ∀ (m : Nat) (l : List RecS), l.length ≤ m → manyR (fitR (jI marks) n l) ≤ manyR l ∧ (fitR (jI marks) n l).length ≤ l.length
  | _, [], _ => by unfold fitR; exact ⟨Nat.le_refl _, Nat.le_refl _⟩
  | _, [x], _ => by unfold fitR; exact ⟨Nat.le_refl _, Nat.le_refl _⟩
  | 0, x :: y :: l, h => by simp at h
  | m + 1, x :: y :: l, h => by
    unfold fitR
    split
    · obtain ⟨h1, h2⟩ := fit_many marks n m (joinR (jI marks) x y :: l) (by simp at h ⊢; omega)
      have h3 := many_join (jI_len marks) x y l
      refine ⟨by omega, ?_⟩
      simp only [List.length_cons] at h2 ⊢
      omega
    · exact ⟨Nat.le_refl _, Nat.le_refl _⟩
theorem okRs.fit {l : List RecS} (h : okRs l) (marks : Int) (n : Nat) : okRs (fitR (jI marks) n l) := by
  obtain ⟨h1, h2⟩ := fit_many marks n _ l (Nat.le_refl _)
  exact ⟨Nat.le_trans h2 h.1, Nat.le_trans h1 h.2⟩
theorem many_sub {l : List RecS} (f : RecS → Bool) : manyR (l.filter f) ≤ manyR l := by
  induction l with
  | nil => exact Nat.le_refl _
  | cons x l ih =>
    have e : manyR (x :: l) = (x.reads.length + x.writes.length) + manyR l := by simp [manyR]
    cases hf : f x with
    | true =>
      rw [List.filter_cons_of_pos (by simpa using hf)]
      have e2 : manyR (x :: l.filter f) = (x.reads.length + x.writes.length) + manyR (l.filter f) := by simp [manyR]
      omega
    | false =>
      rw [List.filter_cons_of_neg (by simp [hf])]
      omega
theorem okRs.forget {l : List RecS} (h : okRs l) (low : Nat) : okRs (forgetR l low) := ⟨Nat.le_trans (forget_len l low) h.1, Nat.le_trans (many_sub _) h.2⟩
end Go.Proofs.Ytjkmodfbbiojmaa

/-
  Records: the statements' own helpers: few, right.
-/
namespace Go.Proofs.Ytjkmodfbbiojmaa
open Go.RowKit

theorem six_of {w : World} {b : Nat} {e : TypeId} {fz : Nat × Nat} {a0 a1 a2 a3 a4 a5 : Value} (h : w.heap[b]? = some (.cells #[a0, a1, a2, a3, a4, a5] e fz)) :
    w.cell? ⟨b, 0, none⟩ = some a0 ∧ w.cell? ⟨b, 1, none⟩ = some a1 ∧ w.cell? ⟨b, 2, none⟩ = some a2 ∧ w.cell? ⟨b, 3, none⟩ = some a3 ∧ w.cell? ⟨b, 4, none⟩ = some a4 ∧ w.cell? ⟨b, 5, none⟩ = some a5 :=
  ⟨cell_of_row w b 0 _ _ _ h, cell_of_row w b 1 _ _ _ h, cell_of_row w b 2 _ _ _ h, cell_of_row w b 3 _ _ _ h, cell_of_row w b 4 _ _ _ h, cell_of_row w b 5 _ _ _ h⟩
theorem ChR.len {w : World} {A : Option Addr} {c : Nat} {l : List RecS} (h : ChR w w.heap.size A c l) : l.length ≤ 9223372036854775807 := by have := h.1; have := h.2.1; unfold maxLen at this; omega
theorem fewR_at {l : List RecS} {j : Nat} (hj : j < l.length) (h : fewOne (l[j]'hj) = false) : fewR l = false := by
  unfold fewR
  rw [Bool.and_eq_false_iff]
  left
  rw [List.all_eq_false]
  exact ⟨_, List.getElem_mem hj, by rw [h]; simp⟩
theorem fewR_take {l : List RecS} {j : Nat} (hj : j < l.length) (h : (l.take j).all fewOne = true) (h2 : fewOne (l[j]'hj) = true) : (l.take (j + 1)).all fewOne = true := by
  rw [List.take_succ_eq_append_getElem hj, List.all_append, h]
  simp [h2]
set_option maxRecDepth 100000 in
set_option maxHeartbeats 8000000 in
theorem fewR_any (l : List RecS) (A : Option Addr) (c : Nat) (w : World) (hl : ChR w w.heap.size A c l) :
    Calls Try.prog 9 #[.slice A l.length c] w fun r w' => r = .returned (.bool (fewR l)) ∧ Below w.heap.size w w' := by
  have hll := hl.len
  have HR := Lib.hid hl
  clear hl
  go_enter Try.func9, Try.ntmps9
  go_wp2
  go_loopg [7] l.length (fun q i wr => ∃ j : Nat, j + q = l.length ∧ i = .int .i64 j ∧ (l.take j).all fewOne = true ∧ Below w.heap.size w wr)
  case atStart => exact ⟨0, by omega, rfl, rfl, Below.refl _ _⟩
  case round =>
    obtain ⟨j, hk, rfl, hall, hb⟩ := hrel
    have HK := Lib.hid hk
    have HA := Lib.hid hall
    have HB := Lib.hid hb
    clear hall hb hk
    by_cases hj : j < l.length
    · have hlt : decide ((j : Int) < (l.length : Int)) = true := by simpa using hj
      have hlt3 : decide (j < l.length) = true := by simpa using hj
      obtain ⟨b, o, rfl, hbl, x, hx, hok, c0, c1, c2, c3, c4, c5⟩ := (HR.out.below HB.out (Nat.le_refl _) HB.out.size).2.2.2.at_ hj
      have HT := Lib.hid (fun h : fewOne x.r = true => fewR_take hj HA.out (by rw [← hx]; exact h))
      have HNo := Lib.hid (fun h : fewOne x.r = false => fewR_at hj (by rw [← hx]; exact h))
      have HOk := Lib.hid hok
      clear hx hok
      obtain ⟨⟨xf, xl, xb, xo, xr, xw⟩, xA, xc, xB, xd⟩ := x
      simp only at c0 c1 c2 c3 c4 c5 HOk HT HNo
      obtain ⟨wo, hwo⟩ : ∃ y, y = wr := ⟨_, rfl⟩
      subst hwo
      go_upto_region 4 with fail
      clear c0 c1 c2 c3 c4 c5 hbl
      obtain ⟨w1, hw1⟩ : ∃ y, wo.alloc (.cells #[.int .u64 xf, .int .u64 xl, .int .u64 xb, .int .u64 xo, .slice xA xr.length xc, .slice xB xw.length xd] 29) = y := ⟨_, rfl⟩
      rw [hw1]
      have hb1 : Below wo.heap.size wo w1 := by rw [← hw1]; exact (Below.refl _ wo).alloc (Nat.le_refl _) _
      have hx1 : w1.heap[wo.heap.size]? = some (.cells #[.int .u64 xf, .int .u64 xl, .int .u64 xb, .int .u64 xo, .slice xA xr.length xc, .slice xB xw.length xd] 29 (0, 0)) := by rw [← hw1]; exact heap_alloc_new wo _
      clear hw1
      have HB1 := Lib.hid (HB.out.trans (hb1.mono HB.out.size))
      have HCl := Lib.hid (fun (W : World) (h : Below w1.heap.size w1 W) => six_of (heap_below hx1 h (lt_of_heap hx1)))
      have hr := HOk.out.reads.below hb1 (Nat.le_refl _) hb1.size
      have hwr := HOk.out.writes.below hb1 (Nat.le_refl _) hb1.size
      clear hb1 hx1
      have hR := fun (W : World) (h : Below w1.heap.size w1 W) => (fewI_any xr xA xc W (hr.below h (Nat.le_refl _) h.size).len (hr.below h (Nat.le_refl _) h.size).2.2.2).mono fun r w' (q : r = .returned (.bool (fewI xr)) ∧ Below W.heap.size W w') => (⟨q.1, h.trans (q.2.mono h.size)⟩ : r = .returned (.bool (fewI xr)) ∧ Below w1.heap.size w1 w')
      have hW := fun (W : World) (h : Below w1.heap.size w1 W) => (fewI_any xw xB xd W (hwr.below h (Nat.le_refl _) h.size).len (hwr.below h (Nat.le_refl _) h.size).2.2.2).mono fun r w' (q : r = .returned (.bool (fewI xw)) ∧ Below W.heap.size W w') => (⟨q.1, h.trans (q.2.mono h.size)⟩ : r = .returned (.bool (fewI xw)) ∧ Below w1.heap.size w1 w')
      clear hr hwr HOk
      cases f1 : fewI xr with
      | false =>
        rw [f1] at hR
        have HFr := Lib.hid hR
        have HFw := Lib.hid hW
        have HF := Lib.hid (HNo.out (by simp [fewOne, f1]))
        clear hR hW f1 HNo HT
        have hbz := Below.refl w1.heap.size w1
        obtain ⟨z0, z1, z2, z3, z4, z5⟩ := HCl.out _ hbz
        go_wp2_with fail
        refine (HFr.out _ hbz).mono ?_
        rintro r w2 ⟨rfl, hbz2⟩
        clear z0 z1 z2 z3 z4 z5 hbz
        obtain ⟨z0, z1, z2, z3, z4, z5⟩ := HCl.out _ hbz2
        have HB8 := Lib.hid (HB1.out.trans (hbz2.mono HB1.out.size))
        clear hbz2
        go_wp2_with fail
        go_ret
        rw [HF.out]
        exact ⟨rfl, HB8.out⟩
      | true =>
        rw [f1] at hR
        have HFr := Lib.hid hR
        cases f2 : fewI xw with
        | false =>
          rw [f2] at hW
          have HFw := Lib.hid hW
          have HF := Lib.hid (HNo.out (by simp [fewOne, f2]))
          clear hR hW f1 f2 HNo HT
          have hbz := Below.refl w1.heap.size w1
          obtain ⟨z0, z1, z2, z3, z4, z5⟩ := HCl.out _ hbz
          go_wp2_with fail
          refine (HFr.out _ hbz).mono ?_
          rintro r w2 ⟨rfl, hbz2⟩
          clear z0 z1 z2 z3 z4 z5 hbz
          obtain ⟨z0, z1, z2, z3, z4, z5⟩ := HCl.out _ hbz2
          go_wp2_with fail
          refine (HFw.out _ hbz2).mono ?_
          rintro r w3 ⟨rfl, hbz3⟩
          clear z0 z1 z2 z3 z4 z5 hbz2
          obtain ⟨z0, z1, z2, z3, z4, z5⟩ := HCl.out _ hbz3
          have HB8 := Lib.hid (HB1.out.trans (hbz3.mono HB1.out.size))
          clear hbz3
          go_wp2_with fail
          go_ret
          rw [HF.out]
          exact ⟨rfl, HB8.out⟩
        | true =>
          rw [f2] at hW
          have HFw := Lib.hid hW
          have g1 := (fewI_yes f1).2
          have g2 := (fewI_yes f2).2
          by_cases h3 : xr.length + xw.length ≤ 20
          · have d1 : decide ((20 : Int) < (xr.length : Int) + (xw.length : Int)) = false := by rw [decide_eq_false_iff_not]; omega
            have d2 : decide (20 < xr.length + xw.length) = false := by rw [decide_eq_false_iff_not]; omega
            have HF := Lib.hid (HT.out (by simp [fewOne, f1, f2, h3]))
            clear hR hW f1 f2 HNo HT h3
            have hbz := Below.refl w1.heap.size w1
            obtain ⟨z0, z1, z2, z3, z4, z5⟩ := HCl.out _ hbz
            go_wp2_with fail
            refine (HFr.out _ hbz).mono ?_
            rintro r w2 ⟨rfl, hbz2⟩
            clear z0 z1 z2 z3 z4 z5 hbz
            obtain ⟨z0, z1, z2, z3, z4, z5⟩ := HCl.out _ hbz2
            go_wp2_with fail
            refine (HFw.out _ hbz2).mono ?_
            rintro r w3 ⟨rfl, hbz3⟩
            clear z0 z1 z2 z3 z4 z5 hbz2
            obtain ⟨z0, z1, z2, z3, z4, z5⟩ := HCl.out _ hbz3
            have HB8 := Lib.hid (HB1.out.trans (hbz3.mono HB1.out.size))
            clear hbz3
            go_wp2_with fail
            go_roundg (gk - 1)
            case measure => have := HK.out; omega
            case rel => exact ⟨j + 1, by have := HK.out; omega, by go_num, HF.out, HB8.out⟩
          · have d1 : decide ((20 : Int) < (xr.length : Int) + (xw.length : Int)) = true := by rw [decide_eq_true_iff]; omega
            have d2 : decide (20 < xr.length + xw.length) = true := by rw [decide_eq_true_iff]; omega
            have HF := Lib.hid (HNo.out (by simp [fewOne, h3]))
            clear hR hW f1 f2 HNo HT h3
            have hbz := Below.refl w1.heap.size w1
            obtain ⟨z0, z1, z2, z3, z4, z5⟩ := HCl.out _ hbz
            go_wp2_with fail
            refine (HFr.out _ hbz).mono ?_
            rintro r w2 ⟨rfl, hbz2⟩
            clear z0 z1 z2 z3 z4 z5 hbz
            obtain ⟨z0, z1, z2, z3, z4, z5⟩ := HCl.out _ hbz2
            go_wp2_with fail
            refine (HFw.out _ hbz2).mono ?_
            rintro r w3 ⟨rfl, hbz3⟩
            clear z0 z1 z2 z3 z4 z5 hbz2
            obtain ⟨z0, z1, z2, z3, z4, z5⟩ := HCl.out _ hbz3
            have HB8 := Lib.hid (HB1.out.trans (hbz3.mono HB1.out.size))
            clear hbz3
            go_wp2_with fail
            go_ret
            rw [HF.out]
            exact ⟨rfl, HB8.out⟩
    · have hj' : j = l.length := by have := HK.out; omega
      subst hj'
      have hlt : decide ((l.length : Int) < (l.length : Int)) = false := by simp
      have hlt2 : decide (l.length < l.length) = false := by simp
      have hF := HA.out
      rw [List.take_length] at hF
      by_cases h4 : l.length ≤ 20
      · have d1 : decide ((l.length : Int) ≤ 20) = true := by rw [decide_eq_true_iff]; omega
        have d1' : decide (l.length ≤ 20) = true := by rw [decide_eq_true_iff]; omega
        have HF := Lib.hid (show fewR l = true by unfold fewR; rw [hF, d1']; rfl)
        clear hF hj h4
        go_wp2_with fail
        go_ret
        rw [HF.out]
        exact ⟨rfl, HB.out⟩
      · have d1 : decide ((l.length : Int) ≤ 20) = false := by rw [decide_eq_false_iff_not]; omega
        have d1' : decide (l.length ≤ 20) = false := by rw [decide_eq_false_iff_not]; omega
        have HF := Lib.hid (show fewR l = false by unfold fewR; rw [hF, d1']; rfl)
        clear hF hj h4
        go_wp2_with fail
        go_ret
        rw [HF.out]
        exact ⟨rfl, HB.out⟩
end Go.Proofs.Ytjkmodfbbiojmaa
