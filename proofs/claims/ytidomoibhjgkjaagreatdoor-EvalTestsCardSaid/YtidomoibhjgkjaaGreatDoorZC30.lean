import Derived.Test.YtidomoibhjgkjaaGreatDoorZC11
import Derived.BigQuiet
import Derived.Deep.QuietTactic
/-
  Expressions, the document's own answers: where the part that ends with a term begins; which part stands in brackets.
-/
namespace Go.Proofs.YtidomoibhjgkjaaGreatDoor
open Go.RowKit

/-- Is every inner place of a tree an operation that takes so many? -/
def ShapeT : Ex → Prop
  | .val _ => True
  | .var _ => True
  | .has _ => True
  | .one op a => (3 ≤ op ∧ op ≤ 5) ∧ ShapeT a
  | .two op a b => (6 ≤ op ∧ op ≤ 18) ∧ ShapeT a ∧ ShapeT b
theorem ShapeT.takes {t : Ex} (h : ShapeT t) : takesT (topE t) = match t with | .one _ _ => 1 | .two _ _ _ => 2 | _ => 0 := by
  cases t with
  | val v => rfl
  | var v => rfl
  | has v => rfl
  | one op a => obtain ⟨⟨h1, h2⟩, _⟩ := h; show takesT op = 1; unfold takesT; rw [if_neg (by omega), if_pos (by omega)]
  | two op a b => obtain ⟨⟨h1, h2⟩, _⟩ := h; show takesT op = 2; unfold takesT; rw [if_neg (by omega), if_neg (by omega)]
theorem post_top (pre suf : List TM) (t : Ex) (h : pre.length + (postE t).length - 1 < (pre ++ postE t ++ suf).length) : ((pre ++ postE t ++ suf)[pre.length + (postE t).length - 1]'h).op = topE t := by
  have hp := post_pos t
  rw [List.getElem_append_left (by rw [List.length_append]; omega), List.getElem_append_right (by omega)]
  cases t with
  | val v => simp [postE, topE]
  | var v => simp [postE, topE]
  | has v => simp [postE, topE]
  | one op a => simp [postE, topE, opT]
  | two op a b =>
    have e : pre.length + (postE (.two op a b)).length - 1 - pre.length = (postE a).length + (postE b).length := by simp [postE]; omega
    simp only [e]
    simp [postE, topE, opT]

def Part (l : List TM) (A : Option Addr) (c : Nat) (x : Int) (y : Nat) : Prop := ∀ w : World, RowT w 0 w.heap.size A l → Calls Tryz.prog 82 #[.slice A l.length c, .int .i64 x] w fun r w' => r = .returned (.int .i64 (y : Int)) ∧ Below w.heap.size w w'
set_option maxRecDepth 100000 in
set_option maxHeartbeats 2000000 in
theorem begin_zero (l : List TM) (A : Option Addr) (c : Nat) (K : Nat) (hK : K < l.length) (ht : takesT (l[K]'hK).op = 0) : Part l A c (K : Int) K := by
  intro w hr
  obtain ⟨b, o, rfl, c0, c1, c2, c3, c4⟩ := hr.at_ hK
  have hlt : decide (K < l.length) = true := by simpa using hK
  have hKI : (K : Int) < (l.length : Int) := by omega
  have ht0 := fun w => takes_any (l[K]'hK).op w
  rw [ht] at ht0
  have HT := Lib.hid (fun w => (ht0 w).mono fun _ _ h => And.intro h.1 h.2.symm)
  clear ht0
  clear ht
  generalize (l[K]'hK).op = op at *
  clear c1 c2 c3 c4
  go_enter Tryz.func82, Tryz.ntmps82
  go_wp2_with (go_at_call 48; refine (HT.out _).mono ?_; rintro r w' ⟨rfl, rfl⟩)
  go_loopw [1, 5] (fun i k wr => i = .int .i64 (K : Int) ∧ k = .int .i64 0 ∧ Below w.heap.size w wr) (fun _ k _ => (intOf k).toNat)
  case atStart => exact ⟨rfl, rfl, Below.refl _ _⟩
  case round =>
    obtain ⟨rfl, rfl, hb⟩ := hrel
    have HB := Lib.hid hb
    clear hb
    go_wp2
    go_ret
    exact ⟨rfl, HB.out⟩
set_option maxRecDepth 100000 in
set_option maxHeartbeats 2000000 in
theorem begin_one (l : List TM) (A : Option Addr) (c : Nat) (K x : Nat) (hK : K < l.length) (hl : l.length ≤ 1000000) (ht : takesT (l[K]'hK).op = 1) (h1 : Part l A c ((K : Int) - 1) x) : Part l A c (K : Int) x := by
  intro w hr
  have HR := Lib.hid hr
  obtain ⟨b, o, rfl, c0, c1, c2, c3, c4⟩ := hr.at_ hK
  have hlt : decide (K < l.length) = true := by simpa using hK
  have hKI : (K : Int) < (l.length : Int) := by omega
  have ht0 := fun w => takes_any (l[K]'hK).op w
  rw [ht] at ht0
  have HT := Lib.hid (fun w => (ht0 w).mono fun _ _ h => And.intro h.1 h.2.symm)
  clear ht0
  have H1 := Lib.hid h1
  clear ht h1 hr
  generalize (l[K]'hK).op = op at *
  clear c1 c2 c3 c4
  go_enter Tryz.func82, Tryz.ntmps82
  go_wp2_with (go_at_call 48; refine (HT.out _).mono ?_; rintro r w' ⟨rfl, rfl⟩)
  go_loopw [1, 5] (fun i k wr => ((i = .int .i64 (K : Int) ∧ k = .int .i64 1) ∨ (i = .int .i64 (x : Int) ∧ k = .int .i64 0)) ∧ Below w.heap.size w wr) (fun _ k _ => (intOf k).toNat)
  case atStart => exact ⟨.inl ⟨rfl, rfl⟩, Below.refl _ _⟩
  case round =>
    obtain ⟨⟨rfl, rfl⟩ | ⟨rfl, rfl⟩, hb⟩ := hrel
    · have HB := Lib.hid hb
      have HC := Lib.hid (H1.out _ ((HR.out.below hb (Nat.le_refl _)).wide (Nat.le_refl _) hb.size))
      clear hb c0
      go_wp2_with fail
      refine HC.out.mono ?_
      rintro r w1 ⟨rfl, hb1⟩
      have HB1 := Lib.hid (HB.out.trans (hb1.mono HB.out.size))
      clear hb1
      go_wp2
      go_roundw
      case rel => exact ⟨.inr ⟨rfl, by go_num⟩, HB1.out⟩
      case measure => simp [intOf]
    · have HB := Lib.hid hb
      clear hb
      go_wp2
      go_ret
      exact ⟨rfl, HB.out⟩
set_option maxRecDepth 100000 in
set_option maxHeartbeats 2000000 in
theorem begin_two (l : List TM) (A : Option Addr) (c : Nat) (K x y : Nat) (hK : K < l.length) (hl : l.length ≤ 1000000) (ht : takesT (l[K]'hK).op = 2) (hy : y < 1000000) (h1 : Part l A c ((K : Int) - 1) y) (h2 : Part l A c ((y : Int) - 1) x) : Part l A c (K : Int) x := by
  intro w hr
  have HR := Lib.hid hr
  obtain ⟨b, o, rfl, c0, c1, c2, c3, c4⟩ := hr.at_ hK
  have hlt : decide (K < l.length) = true := by simpa using hK
  have hKI : (K : Int) < (l.length : Int) := by omega
  have ht0 := fun w => takes_any (l[K]'hK).op w
  rw [ht] at ht0
  have HT := Lib.hid (fun w => (ht0 w).mono fun _ _ h => And.intro h.1 h.2.symm)
  clear ht0
  have H1 := Lib.hid h1
  have H2 := Lib.hid h2
  clear ht h1 h2 hr
  generalize (l[K]'hK).op = op at *
  clear c1 c2 c3 c4
  go_enter Tryz.func82, Tryz.ntmps82
  go_wp2_with (go_at_call 48; refine (HT.out _).mono ?_; rintro r w' ⟨rfl, rfl⟩)
  go_loopw [1, 5] (fun i k wr => ((i = .int .i64 (K : Int) ∧ k = .int .i64 2) ∨ (i = .int .i64 (y : Int) ∧ k = .int .i64 1) ∨ (i = .int .i64 (x : Int) ∧ k = .int .i64 0)) ∧ Below w.heap.size w wr) (fun _ k _ => (intOf k).toNat)
  case atStart => exact ⟨.inl ⟨rfl, rfl⟩, Below.refl _ _⟩
  case round =>
    obtain ⟨⟨rfl, rfl⟩ | ⟨rfl, rfl⟩ | ⟨rfl, rfl⟩, hb⟩ := hrel
    · have HB := Lib.hid hb
      have HC := Lib.hid (H1.out _ ((HR.out.below hb (Nat.le_refl _)).wide (Nat.le_refl _) hb.size))
      clear hb c0
      go_wp2_with fail
      refine HC.out.mono ?_
      rintro r w1 ⟨rfl, hb1⟩
      have HB1 := Lib.hid (HB.out.trans (hb1.mono HB.out.size))
      clear hb1
      go_wp2
      go_roundw
      case rel => exact ⟨.inr (.inl ⟨rfl, by go_num⟩), HB1.out⟩
      case measure => simp [intOf]
    · have HB := Lib.hid hb
      have HC := Lib.hid (H2.out _ ((HR.out.below hb (Nat.le_refl _)).wide (Nat.le_refl _) hb.size))
      clear hb c0
      go_wp2_with fail
      refine HC.out.mono ?_
      rintro r w1 ⟨rfl, hb1⟩
      have HB1 := Lib.hid (HB.out.trans (hb1.mono HB.out.size))
      clear hb1
      go_wp2
      go_roundw
      case rel => exact ⟨.inr (.inr ⟨rfl, by go_num⟩), HB1.out⟩
      case measure => simp [intOf]
    · have HB := Lib.hid hb
      clear hb
      go_wp2
      go_ret
      exact ⟨rfl, HB.out⟩
theorem begin_any (l : List TM) (A : Option Addr) (c : Nat) (hl : l.length ≤ 1000000) : ∀ (t : Ex), ShapeT t → ∀ (pre suf : List TM), l = pre ++ postE t ++ suf → Part l A c ((pre.length + (postE t).length - 1 : Nat) : Int) pre.length := by
  intro t
  have hat : ∀ (t : Ex) (pre suf : List TM), l = pre ++ postE t ++ suf → ∃ h : pre.length + (postE t).length - 1 < l.length, (l[pre.length + (postE t).length - 1]'h).op = topE t := fun t pre suf e => by
    have hp := post_pos t
    have h : pre.length + (postE t).length - 1 < l.length := by rw [e]; simp; omega
    subst e
    exact ⟨h, post_top pre suf t h⟩
  induction t with
  | val v =>
    intro hs pre suf hpre
    obtain ⟨h, e⟩ := hat _ pre suf hpre
    exact begin_zero l A c _ h (by rw [e]; exact hs.takes)
  | var v =>
    intro hs pre suf hpre
    obtain ⟨h, e⟩ := hat _ pre suf hpre
    exact begin_zero l A c _ h (by rw [e]; exact hs.takes)
  | has v =>
    intro hs pre suf hpre
    obtain ⟨h, e⟩ := hat _ pre suf hpre
    exact begin_zero l A c _ h (by rw [e]; exact hs.takes)
  | one op a ih =>
    intro hs pre suf hpre
    obtain ⟨h, e⟩ := hat _ pre suf hpre
    have hp := post_pos a
    refine begin_one l A c _ _ h hl (by rw [e]; exact hs.takes) ?_
    have e2 : (((pre.length + (postE (.one op a)).length - 1 : Nat) : Int) - 1) = ((pre.length + (postE a).length - 1 : Nat) : Int) := by
      have : (postE (.one op a)).length = (postE a).length + 1 := by simp [postE]
      rw [this]; omega
    rw [e2]
    exact ih hs.2 pre ([opT op] ++ suf) (by rw [hpre]; simp [postE])
  | two op a b iha ihb =>
    intro hs pre suf hpre
    obtain ⟨h, e⟩ := hat _ pre suf hpre
    have hp := post_pos a
    have hq := post_pos b
    have hlen : (postE (.two op a b)).length = (postE a).length + (postE b).length + 1 := by simp [postE]; omega
    have hy : pre.length + (postE a).length < 1000000 := by rw [hlen] at h; omega
    refine begin_two l A c _ _ (pre.length + (postE a).length) h hl (by rw [e]; exact hs.takes) hy ?_ ?_
    · have e2 : (((pre.length + (postE (.two op a b)).length - 1 : Nat) : Int) - 1) = (((pre ++ postE a).length + (postE b).length - 1 : Nat) : Int) := by
        rw [hlen, List.length_append]; omega
      have h3 := ihb hs.2.2 (pre ++ postE a) ([opT op] ++ suf) (by rw [hpre]; simp [postE])
      rw [e2]
      rw [List.length_append] at h3 ⊢
      exact h3
    · have e2 : ((pre.length + (postE a).length : Nat) : Int) - 1 = ((pre.length + (postE a).length - 1 : Nat) : Int) := by omega
      rw [e2]
      exact iha hs.2.1 pre (postE b ++ [opT op] ++ suf) (by rw [hpre]; simp [postE])
end Go.Proofs.YtidomoibhjgkjaaGreatDoor

/-
  Expressions, the document's own answers: which part stands in brackets.
-/
namespace Go.Proofs.YtidomoibhjgkjaaGreatDoor
open Go.RowKit

theorem strOf_le (op : Int) : strOf op ≤ 9 := by
  unfold strOf
  repeat' split
  all_goals omega
theorem same_fromT {P : Program} {f : FuncId} {args : Array Value} {v : Value} {B : Nat} {W wx : World} (hb : Below B W wx) (h : Calls P f args wx fun r w' => r = .returned v ∧ w' = wx) :
    Calls P f args wx fun r w' => r = .returned v ∧ Below B W w' := h.mono fun _ _ ⟨a, b⟩ => ⟨a, by rw [b]; exact hb⟩
theorem region_class {P : Program} {C : World → Prop} {id : Nat} {Q : Exit → Act → World → Prop} {a : Act} {w : World} {l : List Oper} (hm : P.follows .mixedOrders = true) (hB : Region.lexB .any l.toArray = true) (hC : C w.drew)
    (h : wpQuiet P l.toArray C (fun a' => ∀ w', C w' → Q .normal a' w') l a) : (Code.region id l.toArray true).wp P Q a w :=
  wp_region_quiet (C := C) hm hB hC (by simpa using h)
theorem inB_cases (a b : Int) (right : Bool) :
    ((a == 5) = true ∧ inB a b right = false) ∨ ((a == 5) = false ∧ ((strOf b : Int) == 9) = true ∧ inB a b right = false) ∨ ((a == 5) = false ∧ ((strOf b : Int) == 9) = false ∧ ((strOf a : Int) == 9) = true ∧ inB a b right = true)
    ∨ ((a == 5) = false ∧ ((strOf b : Int) == 9) = false ∧ ((strOf a : Int) == 9) = false ∧ decide (strOf b < strOf a) = true ∧ inB a b right = true)
    ∨ ((a == 5) = false ∧ ((strOf b : Int) == 9) = false ∧ ((strOf a : Int) == 9) = false ∧ decide (strOf b < strOf a) = false ∧ ((strOf b : Int) == (strOf a : Int)) = false ∧ inB a b right = false)
    ∨ ((a == 5) = false ∧ ((strOf b : Int) == 9) = false ∧ ((strOf a : Int) == 9) = false ∧ decide (strOf b < strOf a) = false ∧ ((strOf b : Int) == (strOf a : Int)) = true ∧ inB a b right = (right || ((strOf a : Int) == 2))) := by
  by_cases h5 : a = 5
  · exact .inl ⟨by simpa using h5, by unfold inB; rw [if_pos (.inl h5)]⟩
  have e5 : (a == 5) = false := by simpa using h5
  right
  by_cases h9 : strOf b = 9
  · exact .inl ⟨e5, by rw [h9]; rfl, by unfold inB; rw [if_pos (.inr h9)]⟩
  have e9 : ((strOf b : Int) == 9) = false := by rw [beq_eq_false_iff_ne]; omega
  right
  have n1 : ¬ (a = 5 ∨ strOf b = 9) := by rintro (h | h); exact h5 h; exact h9 h
  by_cases ha : strOf a = 9
  · exact .inl ⟨e5, e9, by rw [ha]; rfl, by unfold inB; rw [if_neg n1, if_pos ha]⟩
  have ea : ((strOf a : Int) == 9) = false := by rw [beq_eq_false_iff_ne]; omega
  right
  have hin : inB a b right = (decide (strOf b < strOf a) || (decide (strOf b = strOf a) && (right || decide (strOf a = 2)))) := by unfold inB; rw [if_neg n1, if_neg ha]
  by_cases hlt : strOf b < strOf a
  · exact .inl ⟨e5, e9, ea, by rw [decide_eq_true_iff]; omega, by rw [hin]; simp [hlt]⟩
  have elt : decide (strOf b < strOf a) = false := by rw [decide_eq_false_iff_not]; omega
  right
  by_cases heq : strOf b = strOf a
  · refine .inr ⟨e5, e9, ea, elt, by rw [heq]; simp, ?_⟩
    rw [hin]
    have : ((strOf a : Int) == 2) = decide (strOf a = 2) := by
      rw [Bool.eq_iff_iff, beq_iff_eq, decide_eq_true_iff]; omega
    rw [this]
    simp [heq]
  · exact .inl ⟨e5, e9, ea, elt, by rw [beq_eq_false_iff_ne]; omega, by rw [hin]; simp [heq]; omega⟩

set_option maxRecDepth 100000 in
set_option maxHeartbeats 2000000 in
theorem brackets_any (x y : TM) (right : Bool) (w : World) :
    Calls Tryz.prog 112 #[termVal x, termVal y, .bool right] w fun r w' => r = .returned (.bool (inB x.op y.op right)) ∧ Below w.heap.size w w' := by
  obtain ⟨op, ⟨k, n, s⟩, nm⟩ := x
  obtain ⟨op', ⟨k', n', s'⟩, nm'⟩ := y
  simp only [termVal]
  have hbel := box_below w #[.int .i64 op, .int .i64 k, .int .i64 n, .string s, .string nm] 47
  have HBel := Lib.hid (hbel.alloc hbel.size (.cells #[.int .i64 op', .int .i64 k', .int .i64 n', .string s', .string nm'] 47))
  clear hbel
  have HA := Lib.hid (fun (wx : World) (hb : Below (w.heap.size + 1 + 1) ((w.alloc (.cells #[.int .i64 op, .int .i64 k, .int .i64 n, .string s, .string nm] 47)).alloc (.cells #[.int .i64 op', .int .i64 k', .int .i64 n', .string s', .string nm'] 47)) wx) => same_fromT hb (strength_any op wx))
  have HB := Lib.hid (fun (wx : World) (hb : Below (w.heap.size + 1 + 1) ((w.alloc (.cells #[.int .i64 op, .int .i64 k, .int .i64 n, .string s, .string nm] 47)).alloc (.cells #[.int .i64 op', .int .i64 k', .int .i64 n', .string s', .string nm'] 47)) wx) => same_fromT hb (strength_any op' wx))
  have KEEP := Lib.hid (fun (wx : World) (hb : Below (w.heap.size + 1 + 1) ((w.alloc (.cells #[.int .i64 op, .int .i64 k, .int .i64 n, .string s, .string nm] 47)).alloc (.cells #[.int .i64 op', .int .i64 k', .int .i64 n', .string s', .string nm'] 47)) wx) => And.intro ((hb.cell (p := ⟨w.heap.size, 0, none⟩) (by simp; omega)).trans (show _ = some (Value.int .i64 op) by simp [go_sem])) ((hb.cell (p := ⟨w.heap.size + 1, 0, none⟩) (by simp)).trans (show _ = some (Value.int .i64 op') by simp [go_sem])))
  have hc := inB_cases op op' right
  generalize hv : inB op op' right = v at *
  clear hv
  generalize strOf op = a at *
  generalize strOf op' = b at *
  rcases hc with ⟨e1, rfl⟩ | ⟨e1, e2, rfl⟩ | ⟨e1, e2, e3, rfl⟩ | ⟨e1, e2, e3, e4, rfl⟩ | ⟨e1, e2, e3, e4, e5, rfl⟩ | ⟨e1, e2, e3, e4, e5, rfl⟩
  case inr.inr.inr.inr.inr =>
    cases right
    · cases hq : ((a : Int) == 2)
      all_goals
        go_enter Tryz.func112, Tryz.ntmps112
        go_wp2
        refine region_class (C := fun w' => Below (w.heap.size + 1 + 1) ((w.alloc (.cells #[.int .i64 op, .int .i64 k, .int .i64 n, .string s, .string nm] 47)).alloc (.cells #[.int .i64 op', .int .i64 k', .int .i64 n', .string s', .string nm'] 47)) w') (by kernel_rfl) (by kernel_rfl) (Below.refl _ _).drew ?_
        repeat (quiet_step (first
          | (intro hw; with_reducible exact HA.out _ hw)
          | (intro hw; with_reducible exact HB.out _ hw)
          | (intro _; with_reducible rfl)
          | (intro hw; obtain ⟨c0, c1⟩ := KEEP.out _ hw; go_simp; with_reducible exact ⟨rfl, rfl⟩)
          | (intro hw; obtain ⟨c0, c1⟩ := KEEP.out _ hw; go_simp; with_reducible rfl) | (intro hw; go_simp; with_reducible rfl) | (intro _; exact rfl)))
        refine wpQuiet_nil ?_
        intro w8 hb8
        have HB8 := Lib.hid (HBel.out.trans (hb8.mono (by omega)))
        obtain ⟨c0, c1⟩ := KEEP.out _ hb8
        clear hb8
        go_wp2
        go_ret
        exact ⟨rfl, HB8.out⟩
    · skip
      go_enter Tryz.func112, Tryz.ntmps112
      go_wp2
      refine region_class (C := fun w' => Below (w.heap.size + 1 + 1) ((w.alloc (.cells #[.int .i64 op, .int .i64 k, .int .i64 n, .string s, .string nm] 47)).alloc (.cells #[.int .i64 op', .int .i64 k', .int .i64 n', .string s', .string nm'] 47)) w') (by kernel_rfl) (by kernel_rfl) (Below.refl _ _).drew ?_
      repeat (quiet_step (first
        | (intro hw; with_reducible exact HA.out _ hw)
        | (intro hw; with_reducible exact HB.out _ hw)
        | (intro _; with_reducible rfl)
        | (intro hw; obtain ⟨c0, c1⟩ := KEEP.out _ hw; go_simp; with_reducible exact ⟨rfl, rfl⟩)
        | (intro hw; obtain ⟨c0, c1⟩ := KEEP.out _ hw; go_simp; with_reducible rfl) | (intro hw; go_simp; with_reducible rfl) | (intro _; exact rfl)))
      refine wpQuiet_nil ?_
      intro w8 hb8
      have HB8 := Lib.hid (HBel.out.trans (hb8.mono (by omega)))
      obtain ⟨c0, c1⟩ := KEEP.out _ hb8
      clear hb8
      go_wp2
      go_ret
      exact ⟨rfl, HB8.out⟩
  all_goals
    go_enter Tryz.func112, Tryz.ntmps112
    go_wp2
    refine region_class (C := fun w' => Below (w.heap.size + 1 + 1) ((w.alloc (.cells #[.int .i64 op, .int .i64 k, .int .i64 n, .string s, .string nm] 47)).alloc (.cells #[.int .i64 op', .int .i64 k', .int .i64 n', .string s', .string nm'] 47)) w') (by kernel_rfl) (by kernel_rfl) (Below.refl _ _).drew ?_
    repeat (quiet_step (first
      | (intro hw; with_reducible exact HA.out _ hw)
      | (intro hw; with_reducible exact HB.out _ hw)
      | (intro _; with_reducible rfl)
      | (intro hw; obtain ⟨c0, c1⟩ := KEEP.out _ hw; go_simp; with_reducible exact ⟨rfl, rfl⟩)
      | (intro hw; obtain ⟨c0, c1⟩ := KEEP.out _ hw; go_simp; with_reducible rfl) | (intro hw; go_simp; with_reducible rfl) | (intro _; exact rfl)))
    refine wpQuiet_nil ?_
    intro w8 hb8
    have HB8 := Lib.hid (HBel.out.trans (hb8.mono (by omega)))
    obtain ⟨c0, c1⟩ := KEEP.out _ hb8
    clear hb8
    go_wp2
    go_ret
    exact ⟨rfl, HB8.out⟩
end Go.Proofs.YtidomoibhjgkjaaGreatDoor
