import Derived.Test.YtfpjepeikjfkpaaGreatDoorZBlanks08
/-
  Expressions, the document's own answers: where the part that ends with a term begins; which part stands in brackets.
-/
namespace Go.Proofs.YtfpjepeikjfkpaaGreatDoor
open Go.RowKit

/-- Is every inner place of a tree an operation that takes so many? -/
def ShapeT : Ex → Prop
  | .val _ => True
  | .var _ => True
  | .has _ => True
  | .one op a => (3 ≤ op ∧ op ≤ 5) ∧ ShapeT a
  | .two op a b => (6 ≤ op ∧ op ≤ 18) ∧ ShapeT a ∧ ShapeT b
theorem ShapeT.takes {t : Ex} (h : ShapeT t) : takesT (topE t) = match t with | .one _ _ => 1 | .two _ _ _ => 2 | _ => 0 := by
  cases t with
  | val v => rfl
  | var v => rfl
  | has v => rfl
  | one op a => obtain ⟨⟨h1, h2⟩, _⟩ := h; show takesT op = 1; unfold takesT; rw [if_neg (by omega), if_pos (by omega)]
  | two op a b => obtain ⟨⟨h1, h2⟩, _⟩ := h; show takesT op = 2; unfold takesT; rw [if_neg (by omega), if_neg (by omega)]
theorem post_top (pre suf : List TM) (t : Ex) (h : pre.length + (postE t).length - 1 < (pre ++ postE t ++ suf).length) : ((pre ++ postE t ++ suf)[pre.length + (postE t).length - 1]'h).op = topE t := by
  have hp := post_pos t
  rw [List.getElem_append_left (by rw [List.length_append]; omega), List.getElem_append_right (by omega)]
  cases t with
  | val v => simp [postE, topE]
  | var v => simp [postE, topE]
  | has v => simp [postE, topE]
  | one op a => simp [postE, topE, opT]
  | two op a b =>
    have e : pre.length + (postE (.two op a b)).length - 1 - pre.length = (postE a).length + (postE b).length := by simp [postE]; omega
    simp only [e]
    simp [postE, topE, opT]

def Part (l : List TM) (A : Option Addr) (c : Nat) (x : Int) (y : Nat) : Prop := ∀ w : World, RowT w 0 w.heap.size A l → Calls Tryz.prog 53 #[.slice A l.length c, .int .i64 x] w fun r w' => r = .returned (.int .i64 (y : Int)) ∧ Below w.heap.size w w'
set_option maxRecDepth 100000 in
set_option maxHeartbeats 2000000 in
theorem begin_zero (l : List TM) (A : Option Addr) (c : Nat) (K : Nat) (hK : K < l.length) (ht : takesT (l[K]'hK).op = 0) : Part l A c (K : Int) K := by
  intro w hr
  obtain ⟨b, o, rfl, c0, c1, c2, c3, c4⟩ := hr.at_ hK
  have hlt : decide (K < l.length) = true := by simpa using hK
  have hKI : (K : Int) < (l.length : Int) := by omega
  have ht0 := fun w => takes_any (l[K]'hK).op w
  rw [ht] at ht0
  have HT := Lib.hid (fun w => (ht0 w).mono fun _ _ h => And.intro h.1 h.2.symm)
  clear ht0
  clear ht
  generalize (l[K]'hK).op = op at *
  clear c1 c2 c3 c4
  go_enter Tryz.func53, Tryz.ntmps53
  go_wp2_with (go_at_call 26; refine (HT.out _).mono ?_; rintro r w' ⟨rfl, rfl⟩)
  go_loopw [1, 5] (fun i k wr => i = .int .i64 (K : Int) ∧ k = .int .i64 0 ∧ Below w.heap.size w wr) (fun _ k _ => (intOf k).toNat)
  case atStart => exact ⟨rfl, rfl, Below.refl _ _⟩
  case round =>
    obtain ⟨rfl, rfl, hb⟩ := hrel
    have HB := Lib.hid hb
    clear hb
    go_wp2
    go_ret
    exact ⟨rfl, HB.out⟩
set_option maxRecDepth 100000 in
set_option maxHeartbeats 2000000 in
theorem begin_one (l : List TM) (A : Option Addr) (c : Nat) (K x : Nat) (hK : K < l.length) (hl : l.length ≤ 1000000) (ht : takesT (l[K]'hK).op = 1) (h1 : Part l A c ((K : Int) - 1) x) : Part l A c (K : Int) x := by
  intro w hr
  have HR := Lib.hid hr
  obtain ⟨b, o, rfl, c0, c1, c2, c3, c4⟩ := hr.at_ hK
  have hlt : decide (K < l.length) = true := by simpa using hK
  have hKI : (K : Int) < (l.length : Int) := by omega
  have ht0 := fun w => takes_any (l[K]'hK).op w
  rw [ht] at ht0
  have HT := Lib.hid (fun w => (ht0 w).mono fun _ _ h => And.intro h.1 h.2.symm)
  clear ht0
  have H1 := Lib.hid h1
  clear ht h1 hr
  generalize (l[K]'hK).op = op at *
  clear c1 c2 c3 c4
  go_enter Tryz.func53, Tryz.ntmps53
  go_wp2_with (go_at_call 26; refine (HT.out _).mono ?_; rintro r w' ⟨rfl, rfl⟩)
  go_loopw [1, 5] (fun i k wr => ((i = .int .i64 (K : Int) ∧ k = .int .i64 1) ∨ (i = .int .i64 (x : Int) ∧ k = .int .i64 0)) ∧ Below w.heap.size w wr) (fun _ k _ => (intOf k).toNat)
  case atStart => exact ⟨.inl ⟨rfl, rfl⟩, Below.refl _ _⟩
  case round =>
    obtain ⟨⟨rfl, rfl⟩ | ⟨rfl, rfl⟩, hb⟩ := hrel
    · have HB := Lib.hid hb
      have HC := Lib.hid (H1.out _ ((HR.out.below hb (Nat.le_refl _)).wide (Nat.le_refl _) hb.size))
      clear hb c0
      go_wp2_with fail
      refine HC.out.mono ?_
      rintro r w1 ⟨rfl, hb1⟩
      have HB1 := Lib.hid (HB.out.trans (hb1.mono HB.out.size))
      clear hb1
      go_wp2
      go_roundw
      case rel => exact ⟨.inr ⟨rfl, by go_num⟩, HB1.out⟩
      case measure => simp [intOf]
    · have HB := Lib.hid hb
      clear hb
      go_wp2
      go_ret
      exact ⟨rfl, HB.out⟩
set_option maxRecDepth 100000 in
set_option maxHeartbeats 2000000 in
theorem begin_two (l : List TM) (A : Option Addr) (c : Nat) (K x y : Nat) (hK : K < l.length) (hl : l.length ≤ 1000000) (ht : takesT (l[K]'hK).op = 2) (hy : y < 1000000) (h1 : Part l A c ((K : Int) - 1) y) (h2 : Part l A c ((y : Int) - 1) x) : Part l A c (K : Int) x := by
  intro w hr
  have HR := Lib.hid hr
  obtain ⟨b, o, rfl, c0, c1, c2, c3, c4⟩ := hr.at_ hK
  have hlt : decide (K < l.length) = true := by simpa using hK
  have hKI : (K : Int) < (l.length : Int) := by omega
  have ht0 := fun w => takes_any (l[K]'hK).op w
  rw [ht] at ht0
  have HT := Lib.hid (fun w => (ht0 w).mono fun _ _ h => And.intro h.1 h.2.symm)
  clear ht0
  have H1 := Lib.hid h1
  have H2 := Lib.hid h2
  clear ht h1 h2 hr
  generalize (l[K]'hK).op = op at *
  clear c1 c2 c3 c4
  go_enter Tryz.func53, Tryz.ntmps53
  go_wp2_with (go_at_call 26; refine (HT.out _).mono ?_; rintro r w' ⟨rfl, rfl⟩)
  go_loopw [1, 5] (fun i k wr => ((i = .int .i64 (K : Int) ∧ k = .int .i64 2) ∨ (i = .int .i64 (y : Int) ∧ k = .int .i64 1) ∨ (i = .int .i64 (x : Int) ∧ k = .int .i64 0)) ∧ Below w.heap.size w wr) (fun _ k _ => (intOf k).toNat)
  case atStart => exact ⟨.inl ⟨rfl, rfl⟩, Below.refl _ _⟩
  case round =>
    obtain ⟨⟨rfl, rfl⟩ | ⟨rfl, rfl⟩ | ⟨rfl, rfl⟩, hb⟩ := hrel
    · have HB := Lib.hid hb
      have HC := Lib.hid (H1.out _ ((HR.out.below hb (Nat.le_refl _)).wide (Nat.le_refl _) hb.size))
      clear hb c0
      go_wp2_with fail
      refine HC.out.mono ?_
      rintro r w1 ⟨rfl, hb1⟩
      have HB1 := Lib.hid (HB.out.trans (hb1.mono HB.out.size))
      clear hb1
      go_wp2
      go_roundw
      case rel => exact ⟨.inr (.inl ⟨rfl, by go_num⟩), HB1.out⟩
      case measure => simp [intOf]
    · have HB := Lib.hid hb
      have HC := Lib.hid (H2.out _ ((HR.out.below hb (Nat.le_refl _)).wide (Nat.le_refl _) hb.size))
      clear hb c0
      go_wp2_with fail
      refine HC.out.mono ?_
      rintro r w1 ⟨rfl, hb1⟩
      have HB1 := Lib.hid (HB.out.trans (hb1.mono HB.out.size))
      clear hb1
      go_wp2
      go_roundw
      case rel => exact ⟨.inr (.inr ⟨rfl, by go_num⟩), HB1.out⟩
      case measure => simp [intOf]
    · have HB := Lib.hid hb
      clear hb
      go_wp2
      go_ret
      exact ⟨rfl, HB.out⟩
theorem begin_any (l : List TM) (A : Option Addr) (c : Nat) (hl : l.length ≤ 1000000) : ∀ (t : Ex), ShapeT t → ∀ (pre suf : List TM), l = pre ++ postE t ++ suf → Part l A c ((pre.length + (postE t).length - 1 : Nat) : Int) pre.length := by
  intro t
  have hat : ∀ (t : Ex) (pre suf : List TM), l = pre ++ postE t ++ suf → ∃ h : pre.length + (postE t).length - 1 < l.length, (l[pre.length + (postE t).length - 1]'h).op = topE t := fun t pre suf e => by
    have hp := post_pos t
    have h : pre.length + (postE t).length - 1 < l.length := by rw [e]; simp; omega
    subst e
    exact ⟨h, post_top pre suf t h⟩
  induction t with
  | val v =>
    intro hs pre suf hpre
    obtain ⟨h, e⟩ := hat _ pre suf hpre
    exact begin_zero l A c _ h (by rw [e]; exact hs.takes)
  | var v =>
    intro hs pre suf hpre
    obtain ⟨h, e⟩ := hat _ pre suf hpre
    exact begin_zero l A c _ h (by rw [e]; exact hs.takes)
  | has v =>
    intro hs pre suf hpre
    obtain ⟨h, e⟩ := hat _ pre suf hpre
    exact begin_zero l A c _ h (by rw [e]; exact hs.takes)
  | one op a ih =>
    intro hs pre suf hpre
    obtain ⟨h, e⟩ := hat _ pre suf hpre
    have hp := post_pos a
    refine begin_one l A c _ _ h hl (by rw [e]; exact hs.takes) ?_
    have e2 : (((pre.length + (postE (.one op a)).length - 1 : Nat) : Int) - 1) = ((pre.length + (postE a).length - 1 : Nat) : Int) := by
      have : (postE (.one op a)).length = (postE a).length + 1 := by simp [postE]
      rw [this]; omega
    rw [e2]
    exact ih hs.2 pre ([opT op] ++ suf) (by rw [hpre]; simp [postE])
  | two op a b iha ihb =>
    intro hs pre suf hpre
    obtain ⟨h, e⟩ := hat _ pre suf hpre
    have hp := post_pos a
    have hq := post_pos b
    have hlen : (postE (.two op a b)).length = (postE a).length + (postE b).length + 1 := by simp [postE]; omega
    have hy : pre.length + (postE a).length < 1000000 := by rw [hlen] at h; omega
    refine begin_two l A c _ _ (pre.length + (postE a).length) h hl (by rw [e]; exact hs.takes) hy ?_ ?_
    · have e2 : (((pre.length + (postE (.two op a b)).length - 1 : Nat) : Int) - 1) = (((pre ++ postE a).length + (postE b).length - 1 : Nat) : Int) := by
        rw [hlen, List.length_append]; omega
      have h3 := ihb hs.2.2 (pre ++ postE a) ([opT op] ++ suf) (by rw [hpre]; simp [postE])
      rw [e2]
      rw [List.length_append] at h3 ⊢
      exact h3
    · have e2 : ((pre.length + (postE a).length : Nat) : Int) - 1 = ((pre.length + (postE a).length - 1 : Nat) : Int) := by omega
      rw [e2]
      exact iha hs.2.1 pre (postE b ++ [opT op] ++ suf) (by rw [hpre]; simp [postE])
end Go.Proofs.YtfpjepeikjfkpaaGreatDoor
