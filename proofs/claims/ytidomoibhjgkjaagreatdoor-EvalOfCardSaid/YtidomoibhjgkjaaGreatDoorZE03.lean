import Derived.Test.YtidomoibhjgkjaaGreatDoorZE01
import Derived.Test.YtidomoibhjgkjaaGreatDoorZE02
import Derived.Test.YtidomoibhjgkjaaGreatDoorZC43
import Derived.Test.YtidomoibhjgkjaaGreatDoorZC47
import Derived.Lib.MinMax
import Derived.Test.YtidomoibhjgkjaaGreatDoorZC18
import Derived.Test.YtidomoibhjgkjaaGreatDoorZC46
import Derived.Deep.RegionHeld3
/-
  What an expression comes to: the document's own answer.
-/
namespace Go.Proofs.YtidomoibhjgkjaaGreatDoor
open Go.RowKit

/-! ### the place of the error that is told -/
def ErrB (w : World) (s : Nat) (v0 v1 v2 v3 v4 v5 : Value) : Prop := w.heap[s]? = some (.cells #[v0, v1, v2, v3, v4, v5] 37 (0, 0))
section
variable {w : World} {s : Nat} {v0 v1 v2 v3 v4 v5 : Value}
theorem ErrB.below {w' : World} {B : Nat} (h : ErrB w s v0 v1 v2 v3 v4 v5) (hb : Below B w w') (hs : s < B) : ErrB w' s v0 v1 v2 v3 v4 v5 := (hb.block s hs).trans h
theorem ErrB.cell (h : ErrB w s v0 v1 v2 v3 v4 v5) (o : Nat) : w.cell? ⟨s, o, none⟩ = (#[v0, v1, v2, v3, v4, v5] : Array Value)[o]? := cell_of_row w s o _ _ _ h
theorem ErrB.frozen (h : ErrB w s v0 v1 v2 v3 v4 v5) (o : Nat) : w.frozen? ⟨s, o, none⟩ = false := by unfold ErrB at h; simp [World.frozen?, h]
theorem ErrB.put0 (h : ErrB w s v0 v1 v2 v3 v4 v5) (x : Value) : ErrB (w.setCell ⟨s, 0, none⟩ x) s x v1 v2 v3 v4 v5 := by unfold ErrB; rw [heap_setCell_same w s 0 _ _ _ h]; rfl
theorem ErrB.put1 (h : ErrB w s v0 v1 v2 v3 v4 v5) (x : Value) : ErrB (w.setCell ⟨s, 1, none⟩ x) s v0 x v2 v3 v4 v5 := by unfold ErrB; rw [heap_setCell_same w s 1 _ _ _ h]; rfl
theorem ErrB.put2 (h : ErrB w s v0 v1 v2 v3 v4 v5) (x : Value) : ErrB (w.setCell ⟨s, 2, none⟩ x) s v0 v1 x v3 v4 v5 := by unfold ErrB; rw [heap_setCell_same w s 2 _ _ _ h]; rfl
theorem ErrB.put3 (h : ErrB w s v0 v1 v2 v3 v4 v5) (x : Value) : ErrB (w.setCell ⟨s, 3, none⟩ x) s v0 v1 v2 x v4 v5 := by unfold ErrB; rw [heap_setCell_same w s 3 _ _ _ h]; rfl
theorem ErrB.put4 (h : ErrB w s v0 v1 v2 v3 v4 v5) (x : Value) : ErrB (w.setCell ⟨s, 4, none⟩ x) s v0 v1 v2 v3 x v5 := by unfold ErrB; rw [heap_setCell_same w s 4 _ _ _ h]; rfl
theorem ErrB.put5 (h : ErrB w s v0 v1 v2 v3 v4 v5) (x : Value) : ErrB (w.setCell ⟨s, 5, none⟩ x) s v0 v1 v2 v3 v4 x := by unfold ErrB; rw [heap_setCell_same w s 5 _ _ _ h]; rfl
theorem ErrB.other {t o : Nat} {x : Value} (h : ErrB w s v0 v1 v2 v3 v4 v5) (ht : s ≠ t) : ErrB (w.setCell ⟨t, o, none⟩ x) s v0 v1 v2 v3 v4 v5 := (Below.heap_setCell _ _ _ _ ht).trans h
end
/-- Both are stored: the value at s, the error at s + 1. -/
def put9 (w : World) (s : Nat) (k n : Value) (t : Value) (v0 v1 v2 v3 v4 v5 : Value) : World :=
  ((((((((w.setCell ⟨s, 0, none⟩ k).setCell ⟨s, 1, none⟩ n).setCell ⟨s, 2, none⟩ t).setCell ⟨s + 1, 0, none⟩ v0).setCell ⟨s + 1, 1, none⟩ v1).setCell ⟨s + 1, 2, none⟩ v2).setCell ⟨s + 1, 3, none⟩ v3).setCell ⟨s + 1, 4, none⟩ v4).setCell ⟨s + 1, 5, none⟩ v5
structure Put9 (w0 w : World) (s : Nat) (k n t v0 v1 v2 v3 v4 v5 : Value) : Prop where
  a0 : w.cell? ⟨s, 0, none⟩ = some k
  a1 : w.cell? ⟨s, 1, none⟩ = some n
  a2 : w.cell? ⟨s, 2, none⟩ = some t
  e0 : w.cell? ⟨s + 1, 0, none⟩ = some v0
  e1 : w.cell? ⟨s + 1, 1, none⟩ = some v1
  e2 : w.cell? ⟨s + 1, 2, none⟩ = some v2
  e3 : w.cell? ⟨s + 1, 3, none⟩ = some v3
  e4 : w.cell? ⟨s + 1, 4, none⟩ = some v4
  e5 : w.cell? ⟨s + 1, 5, none⟩ = some v5
  hb : Below w0.heap.size w0 w
theorem put9_is {w0 w : World} {s : Nat} {u0 u1 u2 u3 u4 u5 : Value} (h6 : Boxed w s V0) (h8 : ErrB w (s + 1) u0 u1 u2 u3 u4 u5) (hb : Below w0.heap.size w0 w) (hs : w0.heap.size ≤ s) (k n : Int) (t : ByteArray) (v0 v1 v2 v3 v4 v5 : Value) :
    Put9 w0 (put9 w s (.int .i64 k) (.int .i64 n) (.string t) v0 v1 v2 v3 v4 v5) s (.int .i64 k) (.int .i64 n) (.string t) v0 v1 v2 v3 v4 v5 := by
  have hB : Boxed (((w.setCell ⟨s, 0, none⟩ (.int .i64 k)).setCell ⟨s, 1, none⟩ (.int .i64 n)).setCell ⟨s, 2, none⟩ (.string t)) s ⟨k, n, t⟩ := h6.set3' k n t
  have hE := ((((((((h8.other (t := s) (o := 0) (x := .int .i64 k) (by omega)).other (t := s) (o := 1) (x := .int .i64 n) (by omega)).other (t := s) (o := 2) (x := .string t) (by omega)).put0 v0).put1 v1).put2 v2).put3 v3).put4 v4).put5 v5
  have hbB : (put9 w s (.int .i64 k) (.int .i64 n) (.string t) v0 v1 v2 v3 v4 v5).heap[s]? = (((w.setCell ⟨s, 0, none⟩ (.int .i64 k)).setCell ⟨s, 1, none⟩ (.int .i64 n)).setCell ⟨s, 2, none⟩ (.string t)).heap[s]? := by
    unfold put9
    rw [Below.heap_setCell _ _ _ _ (show s ≠ s + 1 by omega), Below.heap_setCell _ _ _ _ (show s ≠ s + 1 by omega), Below.heap_setCell _ _ _ _ (show s ≠ s + 1 by omega), Below.heap_setCell _ _ _ _ (show s ≠ s + 1 by omega), Below.heap_setCell _ _ _ _ (show s ≠ s + 1 by omega), Below.heap_setCell _ _ _ _ (show s ≠ s + 1 by omega)]
  have hB2 : Boxed (put9 w s (.int .i64 k) (.int .i64 n) (.string t) v0 v1 v2 v3 v4 v5) s ⟨k, n, t⟩ := hbB.trans hB
  obtain ⟨c0, c1, c2⟩ := hB2.cells
  refine ⟨c0, c1, c2, hE.cell 0, hE.cell 1, hE.cell 2, hE.cell 3, hE.cell 4, hE.cell 5, ?_⟩
  have h3 := Below.set3' hb hs (.int .i64 k) (.int .i64 n) (.string t)
  exact (((((h3.setCell (by show w0.heap.size ≤ s + 1; omega) _).setCell (by show w0.heap.size ≤ s + 1; omega) _).setCell (by show w0.heap.size ≤ s + 1; omega) _).setCell (by show w0.heap.size ≤ s + 1; omega) _).setCell (by show w0.heap.size ≤ s + 1; omega) _).setCell (by show w0.heap.size ≤ s + 1; omega) _
theorem put9_other (W : World) (s : Nat) (k n t v0 v1 v2 v3 v4 v5 : Value) {g : Nat} (h1 : g ≠ s) (h2 : g ≠ s + 1) : (put9 W s k n t v0 v1 v2 v3 v4 v5).heap[g]? = W.heap[g]? := by
  unfold put9
  rw [Below.heap_setCell _ _ _ _ (show g ≠ s + 1 from h2), Below.heap_setCell _ _ _ _ (show g ≠ s + 1 from h2), Below.heap_setCell _ _ _ _ (show g ≠ s + 1 from h2), Below.heap_setCell _ _ _ _ (show g ≠ s + 1 from h2), Below.heap_setCell _ _ _ _ (show g ≠ s + 1 from h2), Below.heap_setCell _ _ _ _ (show g ≠ s + 1 from h2), Below.heap_setCell _ _ _ _ (show g ≠ s from h1), Below.heap_setCell _ _ _ _ (show g ≠ s from h1), Below.heap_setCell _ _ _ _ (show g ≠ s from h1)]
theorem put9_size (W : World) (s : Nat) (k n t v0 v1 v2 v3 v4 v5 : Value) : (put9 W s k n t v0 v1 v2 v3 v4 v5).heap.size = W.heap.size := by simp [put9, World.setCell]
theorem row_put9 {W : World} {lo lo' s : Nat} {A : Option Addr} {l : List ByteArray} (h : RowS W lo W.heap.size A l) (hs : s + 1 < lo) (hl : lo' ≤ lo) (k n t v0 v1 v2 v3 v4 v5 : Value) : RowS (put9 W s k n t v0 v1 v2 v3 v4 v5) lo' (put9 W s k n t v0 v1 v2 v3 v4 v5).heap.size A l := fun hp => by
  obtain ⟨b, o, e, h1, h2, hc⟩ := h hp
  refine ⟨b, o, e, by omega, by rw [put9_size]; exact h2, fun j hj => ?_⟩
  rw [World.cell?_of_block (w := W) (put9_other W s k n t v0 v1 v2 v3 v4 v5 (show b ≠ s by omega) (show b ≠ s + 1 by omega))]
  exact hc j hj
/-- What Of gives. -/
def RetOfR (x : V × Nat × Int × List ByteArray) (w : World) (r : Ending) (w' : World) : Prop :=
  ∃ k n s A c, r = .returned (.tuple #[.agg #[.int .i64 k, .int .i64 n, .string s], .int .i64 (x.2.1 : Int), .agg #[.bool (!(x.2.2.1 == 0)), .slice A x.2.2.2.length c, .int .i64 x.2.2.1, .bool false, .string ⟨#[]⟩, .string ⟨#[]⟩]]) ∧ x.1 = ⟨k, n, s⟩ ∧ RowS w' w.heap.size w'.heap.size A x.2.2.2 ∧ Below w.heap.size w w'

theorem runG_inl {get : ByteArray → Option V} {t : TM} {l : List TM} {st st' : List V} {f : Nat} (h : stepG get t st = .inl st') : runG get (t :: l) st (f + 1) = runG get l st' f := by
  simp only [runG]
  rw [h]
theorem runG_inr {get : ByteArray → Option V} {t : TM} {l : List TM} {st : List V} {f : Nat} {e : Int × List ByteArray} (h : stepG get t st = .inr e) : runG get (t :: l) st (f + 1) = (.inr e, f) := by
  simp only [runG]
  rw [h]
theorem OwnV.put3 {w : World} {lo b : Nat} {v x y z : Value} {l : List V} (h : OwnV w lo v l) (hne : v.ownBlock ≠ some b) : OwnV (((w.setCell ⟨b, 0, none⟩ x).setCell ⟨b, 1, none⟩ y).setCell ⟨b, 2, none⟩ z) lo v l :=
  ownsRow_setCell_other (ownsRow_setCell_other (ownsRow_setCell_other h hne _) hne _) hne _
set_option maxRecDepth 100000 in
theorem append_val (w : World) {ops : Array Oper} {rest : List Oper} {o : Oper} {a : Act} {Q : Exit → Act → World → Prop} (hgd : o.guard = none) (s x : Operand)
    (ho : o.op = .call { callee := .builtin .append, args := #[s, x], argTypes := #[74, 74] })
    (base : Nat) (v : Value) (l : List V) (hs : a.eval s = v) (hown : OwnV w base v l)
    (g c : Nat) (y : V) (hx : a.eval x = .slice (some ⟨g, 0, none⟩) 1 c) (hr : w.heap[g]? = some (.cells #[.int .i64 y.k, .int .i64 y.n, .string y.s] 27 (0, 0)))
    (hbig : l.length ≤ 1000) (hbase : base ≤ w.heap.size)
    (h : ∀ v' w', OwnV w' base v' (l ++ [y]) → w.grownBy w' v.ownBlock → wpList Tryz.prog ops Q rest (a.put o.dst v') w') : wpList Tryz.prog ops Q (o :: rest) a w := by
  obtain ⟨i, z, hi0, hz0, hzs, hz2, hz3⟩ := infoVal
  refine wpList_append_own w hgd s x _ ho base _ i z 3 32 Tryz.underlying74 hi0 hz0 hz2 hz3 hzs (by omega) v l.length (cells3 l) hs hown ⟨g, 0, none⟩ 1 c (cells3 [y]) hx (cells3_len [y]) ?_ (by intro u hu; simp [cells3] at hu; rcases hu with rfl | rfl | rfl <;> rfl) (by unfold maxLen; omega) (by omega) hbase ?_
  · intro j u hu
    have hadd : (⟨g, 0, none⟩ : Addr).add j = ⟨g, j, none⟩ := by unfold Addr.add; split <;> simp_all
    rw [hadd, cell_of_row w g j _ _ _ hr]
    simpa [cells3] using hu
  · intro v' w' h1 h2 _
    refine h v' w' ?_ h2
    unfold OwnV
    rw [List.length_append, show cells3 (l ++ [y]) = cells3 l ++ cells3 [y] from by simp [cells3]]
    exact h1
theorem OwnV.form' {w : World} {lo : Nat} {v : Value} {l : List V} (h : OwnV w lo v l) : ∃ A c, v = .slice A l.length c := by
  rcases h.2 with ⟨hv, hn⟩ | ⟨g, cap, cur, hv, _⟩
  · exact ⟨none, 0, by rw [hv, hn]⟩
  · exact ⟨_, cap, hv⟩
/-- Of two, and of one, by the document's own answer. -/
theorem twoR6 {op : Int} {a b : V} (ha : okV a) (hb : okV b) {xk xn xc : Int} {xs : ByteArray} (h : twoV op a b = (⟨xk, xn, xs⟩, xc)) (W : World) : Calls Tryz.prog 37 #[.int .i64 op, .agg #[.int .i64 a.k, .int .i64 a.n, .string a.s], .agg #[.int .i64 b.k, .int .i64 b.n, .string b.s]] W fun r w' => r = .returned (.tuple #[.agg #[.int .i64 xk, .int .i64 xn, .string xs], .int .i64 xc]) ∧ Below W.heap.size W w' := by
  have := g6Two_any op a b W ha hb
  rw [h] at this
  exact this
theorem oneR6 {op : Int} {a : V} (ha : okV a) {xk xn xc : Int} {xs : ByteArray} (h : oneV op a = (⟨xk, xn, xs⟩, xc)) (W : World) : Calls Tryz.prog 38 #[.int .i64 op, .agg #[.int .i64 a.k, .int .i64 a.n, .string a.s]] W fun r w' => r = .returned (.tuple #[.agg #[.int .i64 xk, .int .i64 xn, .string xs], .int .i64 xc]) ∧ Below W.heap.size W w' := by
  have := g6One_any op a W ha
  rw [h] at this
  exact this

theorem OwnV.top2 {w : World} {lo n c : Nat} {A : Option Addr} {a b : V} {r : List V} (h : OwnV w lo (.slice A n c) (b :: a :: r).reverse) : ∃ g, A = some ⟨g, 0, none⟩ ∧ g < w.heap.size ∧ r.length + 1 + 1 ≤ c ∧ ValAt w g (r.length * 3) a ∧ ValAt w g ((r.length + 1) * 3) b := by
  obtain ⟨g, rfl, _, hg, _, hc, ha⟩ := h.at_ r.length (by simp)
  obtain ⟨g', e, _, _, _, _, hb⟩ := h.at_ (r.length + 1) (by simp)
  injection e with e
  injection e with e
  subst e
  refine ⟨g, rfl, hg, by simpa using hc, ?_, ?_⟩
  · simpa using ha
  · simpa using hb
theorem OwnV.top1 {w : World} {lo n c : Nat} {A : Option Addr} {a : V} {r : List V} (h : OwnV w lo (.slice A n c) (a :: r).reverse) : ∃ g, A = some ⟨g, 0, none⟩ ∧ g < w.heap.size ∧ r.length + 1 ≤ c ∧ ValAt w g (r.length * 3) a := by
  obtain ⟨g, rfl, _, hg, _, hc, ha⟩ := h.at_ r.length (by simp)
  refine ⟨g, rfl, hg, by simpa using hc, ?_⟩
  simpa using ha
theorem OwnV.less2 {w : World} {lo n c : Nat} {A : Option Addr} {a b : V} {r : List V} (h : OwnV w lo (.slice A n c) (b :: a :: r).reverse) : OwnV w lo (.slice A r.length c) r.reverse := by
  have h2 := h.cut r.length (by simp only [List.length_reverse, List.length_cons]; omega) (by simp)
  have e : (b :: a :: r).reverse.take r.length = r.reverse := by
    rw [List.reverse_cons, List.reverse_cons, List.append_assoc, List.take_append_of_le_length (by simp), List.take_of_length_le (by simp)]
  rwa [e] at h2
theorem OwnV.less1 {w : World} {lo n c : Nat} {A : Option Addr} {a : V} {r : List V} (h : OwnV w lo (.slice A n c) (a :: r).reverse) : OwnV w lo (.slice A r.length c) r.reverse := by
  have h2 := h.cut r.length (by simp) (by simp)
  have e : (a :: r).reverse.take r.length = r.reverse := by
    rw [List.reverse_cons, List.take_append_of_le_length (by simp), List.take_of_length_le (by simp)]
  rwa [e] at h2
theorem getO_some {vs : List VN} {nm : ByteArray} {v : V} (h : getO vs nm = v) (hs : (getL vs nm).isSome = true) : getL vs nm = some v := by
  unfold getO at h
  cases hg : getL vs nm with
  | none => rw [hg] at hs; cases hs
  | some x => rw [hg] at h; exact congrArg some h
theorem getO_none {vs : List VN} {nm : ByteArray} (hs : (getL vs nm).isSome = false) : getL vs nm = none := by
  cases hg : getL vs nm with
  | none => rfl
  | some x => rw [hg] at hs; cases hs

theorem checkGo_own {n : Nat} {t : TM} {l : List TM} (h : checkGo n (t :: l) = (0, 1)) : ownT t = 0 ∧ takesT t.op ≤ n ∧ checkGo (n + 1 - takesT t.op) l = (0, 1) := by
  rw [checkGo] at h
  have h1 : ownT t = 0 := by
    by_cases h1 : ownT t = 0
    · exact h1
    · rw [if_pos h1] at h; exact absurd (Prod.mk.inj h).1 h1
  rw [if_neg (by simp [h1])] at h
  by_cases h2 : n < takesT t.op
  · rw [if_pos h2] at h; cases h
  · rw [if_neg h2] at h
    exact ⟨h1, by omega, h⟩

set_option maxRecDepth 100000 in
set_option maxHeartbeats 8000000 in
theorem refOf_any (l : List TM) (A : Option Addr) (c : Nat) (vs : List VN) (A2 : Option Addr) (c2 : Nat) (fuel : Int) (w : World) (hl : TermsOk w l A) (hv : VarsOk w vs A2 c2) (hf : fuel ≤ 9223372036854775807) (hf0 : -9223372036854775808 ≤ fuel) :
    Calls Tryz.prog 12 #[.slice A l.length c, .slice A2 vs.length c2, .int .i64 fuel] w (RetOfR (ofG (getL vs) l fuel.toNat) w) := by
  have hmx : max fuel 0 = (fuel.toNat : Int) := maxZero fuel
  have hfn : fuel.toNat ≤ 9223372036854775807 := by omega
  obtain ⟨F, hF⟩ : ∃ F, fuel.toNat = F := ⟨_, rfl⟩
  rw [hF] at hmx hfn ⊢
  -- the places of the answer
  have hx0 := Boxed.new w 0 0 ⟨#[]⟩
  have hb1 := box_below w #[.int .i64 0, .int .i64 0, .string ⟨#[]⟩] 27
  have hb2 := box_below (w.alloc (.cells #[.int .i64 0, .int .i64 0, .string ⟨#[]⟩] 27)) #[.bool false, .slice none 0 0, .int .i64 0, .bool false, .string ⟨#[]⟩, .string ⟨#[]⟩] 37
  have he2 : ErrB ((w.alloc (.cells #[.int .i64 0, .int .i64 0, .string ⟨#[]⟩] 27)).alloc (.cells #[.bool false, .slice none 0 0, .int .i64 0, .bool false, .string ⟨#[]⟩, .string ⟨#[]⟩] 37)) (w.heap.size + 1) (.bool false) (.slice none 0 0) (.int .i64 0) (.bool false) (.string ⟨#[]⟩) (.string ⟨#[]⟩) := heap2 w _ _
  have hx2 := hx0.below hb2
  have hB2 := hb1.trans (hb2.mono hb1.size)
  have hsz : w.heap.size + 1 < ((w.alloc (.cells #[.int .i64 0, .int .i64 0, .string ⟨#[]⟩] 27)).alloc (.cells #[.bool false, .slice none 0 0, .int .i64 0, .bool false, .string ⟨#[]⟩, .string ⟨#[]⟩] 37)).heap.size := by simp
  obtain ⟨w2, hw⟩ : ∃ y, (w.alloc (.cells #[.int .i64 0, .int .i64 0, .string ⟨#[]⟩] 27)).alloc (.cells #[.bool false, .slice none 0 0, .int .i64 0, .bool false, .string ⟨#[]⟩, .string ⟨#[]⟩] 37) = y := ⟨_, rfl⟩
  obtain ⟨s, hs⟩ : ∃ y, w.heap.size = y := ⟨_, rfl⟩
  rw [hw] at he2 hx2 hB2 hsz
  rw [hs] at he2 hx2 hsz
  have HP9 : Hid (∀ W, Below w2.heap.size w2 W → ∀ (k n : Int) (t : ByteArray) (v0 v1 v2 v3 v4 v5 : Value), Put9 w (put9 W s (.int .i64 k) (.int .i64 n) (.string t) v0 v1 v2 v3 v4 v5) s (.int .i64 k) (.int .i64 n) (.string t) v0 v1 v2 v3 v4 v5) := Lib.hid (fun W hW k n t v0 v1 v2 v3 v4 v5 => put9_is (hx2.below hW) (he2.below hW hsz) (hB2.trans (hW.mono hB2.size)) (by omega) k n t v0 v1 v2 v3 v4 v5)
  have HFr : Hid (∀ W, Below w2.heap.size w2 W → W.frozen? ⟨s, 0, none⟩ = false ∧ W.frozen? ⟨s, 1, none⟩ = false ∧ W.frozen? ⟨s, 2, none⟩ = false ∧ W.frozen? ⟨s + 1, 0, none⟩ = false ∧ W.frozen? ⟨s + 1, 1, none⟩ = false ∧ W.frozen? ⟨s + 1, 2, none⟩ = false ∧ W.frozen? ⟨s + 1, 3, none⟩ = false ∧ W.frozen? ⟨s + 1, 4, none⟩ = false ∧ W.frozen? ⟨s + 1, 5, none⟩ = false ∧ W.cell? ⟨s, 0, none⟩ = some (.int .i64 0) ∧ W.cell? ⟨s, 1, none⟩ = some (.int .i64 0) ∧ W.cell? ⟨s, 2, none⟩ = some (.string ⟨#[]⟩) ∧ W.cell? ⟨s + 1, 0, none⟩ = some (.bool false) ∧ W.cell? ⟨s + 1, 1, none⟩ = some (.slice none 0 0) ∧ W.cell? ⟨s + 1, 2, none⟩ = some (.int .i64 0) ∧ W.cell? ⟨s + 1, 3, none⟩ = some (.bool false) ∧ W.cell? ⟨s + 1, 4, none⟩ = some (.string ⟨#[]⟩) ∧ W.cell? ⟨s + 1, 5, none⟩ = some (.string ⟨#[]⟩)) := Lib.hid (fun W hW => by
    have h6 := hx2.below hW
    have h8 := he2.below hW hsz
    obtain ⟨g0, g1, g2⟩ := h6.cells
    exact ⟨h6.frozen 0, h6.frozen 1, h6.frozen 2, h8.frozen 0, h8.frozen 1, h8.frozen 2, h8.frozen 3, h8.frozen 4, h8.frozen 5, g0, g1, g2, h8.cell 0, h8.cell 1, h8.cell 2, h8.cell 3, h8.cell 4, h8.cell 5⟩)
  have HSS := Lib.hid hsz
  have HCk := Lib.hid (check_few c (hl.below hB2))
  have HT := Lib.hid (hl.below hB2)
  have HV := Lib.hid (hv.below hB2)
  have HB2 := Lib.hid hB2
  have HW := Lib.hid hw
  have HS := Lib.hid hs
  have hlen := hl.len
  obtain ⟨R, hR⟩ : ∃ R : Ending → World → Prop, RetOfR (ofG (getL vs) l F) w = R := ⟨_, rfl⟩
  rw [hR]
  have HEnd : Hid (∀ (k n : Int) (t : ByteArray) (xn : Nat) (code : Int) (ps : List ByteArray) (A : Option Addr) (c : Nat) (b : Bool) (w' : World), ofG (getL vs) l F = (⟨k, n, t⟩, xn, code, ps) → b = (!(code == 0)) → RowS w' w.heap.size w'.heap.size A ps → Below w.heap.size w w' → R (.returned (.tuple #[.agg #[.int .i64 k, .int .i64 n, .string t], .int .i64 (xn : Int), .agg #[.bool b, .slice A ps.length c, .int .i64 code, .bool false, .string ⟨#[]⟩, .string ⟨#[]⟩]])) w') := Lib.hid (fun k n t xn code ps A c b w' h hb hrow hbel => by
    rw [← hR, h, hb]
    exact ⟨k, n, t, A, c, rfl, rfl, hrow, hbel⟩)
  clear hx0 hb1 hb2 he2 hx2 hB2 hsz hw hs hl hv hF hR
  go_enter Tryz.func12, Tryz.ntmps12
  go_upto_region 1 with fail
  rw [HW.out, HS.out]
  clear HW
  go_wp2_with fail
  refine HCk.out.mono ?_
  rintro r w3 ⟨rfl, hb3⟩
  dsimp only
  by_cases hck : checkL l = 0
  · have hgo := right_go hck
    have hOF := ofG_right (getL vs) hck F
    have HBa := Lib.hid (show Below w2.heap.size w2 w3 from hb3)
    obtain ⟨lo, hlo⟩ : ∃ y, w2.heap.size = y := ⟨_, rfl⟩
    have HLo := Lib.hid hlo
    rw [hlo] at HP9 HFr HBa
    have hlo3 : lo ≤ w3.heap.size := by rw [← hlo]; exact hb3.size
    have HLo3 := Lib.hid hlo3
    have HGO := Lib.hid hgo
    have HOF := Lib.hid hOF
    have HT3 := Lib.hid (HT.out.below hb3)
    have HV3 := Lib.hid (HV.out.below hb3)
    rw [hck]
    clear hb3 hlo hlo3 hgo hOF hck
    go_wp2_with fail
    go_loopg [2, 10, 12, 13, 14, 15, 16, 17, 30] l.length (fun q fu lv _ _ _ _ _ _ i wr => ∃ (j : Nat) (st : List V) (f : Nat), j + q = l.length ∧ i = .int .i64 j ∧ fu = .int .i64 f ∧ (∃ A c, lv = .slice A st.length c ∧ OwnV wr lo (.slice A st.length c) st.reverse) ∧ Below lo w2 wr ∧ runG (getL vs) l [] F = runG (getL vs) (l.drop j) st f ∧ checkGo st.length (l.drop j) = (0, 1) ∧ (∀ v ∈ st, okV v) ∧ st.length ≤ j ∧ f ≤ F)
    case atStart => exact ⟨0, [], F, by omega, rfl, rfl, ⟨none, 0, rfl, OwnV.nil _ _⟩, HBa.out, rfl, HGO.out, by simp, Nat.le_refl _, Nat.le_refl _⟩
    case round =>
      obtain ⟨j, st, f, hk, rfl, rfl, ⟨A9, c9, rfl, hown⟩, hb, hrun, hchk, hok, hsj, hfF⟩ := hrel
      have HK := Lib.hid hk
      have HO := Lib.hid hown
      have HB := Lib.hid hb
      have HRUN := Lib.hid hrun
      have HOK := Lib.hid hok
      have hlow : lo ≤ wr.heap.size := by have := hb.size; have := HLo.out; omega
      have HLW := Lib.hid hlow
      clear hk hown hb hrun hok hlow
      by_cases hj : j < l.length
      · have hlt : decide ((j : Int) < (l.length : Int)) = true := by simpa using hj
        have hlt2 : decide (j < l.length) = true := by simpa using hj
        have hTr := HT.out.below (w' := wr) (by rw [HLo.out]; exact HB.out)
        have hVr := HV.out.below (w' := wr) (by rw [HLo.out]; exact HB.out)
        obtain ⟨tb, tof, rfl, c0, c1, c2', c3, c4⟩ := hTr.row.at_ hj
        have hto := HT.out.ok _ (List.getElem_mem hj)
        have HDR := Lib.hid (List.drop_eq_getElem_cons hj)
        generalize l[j] = t at *
        obtain ⟨op, ⟨tk, tm, ts⟩, nm⟩ := t
        simp only at c0 c1 c2' c3 c4 hto
        have hchk' := hchk
        rw [HDR.out] at hchk'
        obtain ⟨h1, h2, h3⟩ := checkGo_own hchk'
        have hrun' := HRUN.out
        rw [HDR.out] at hrun'
        have HVr := Lib.hid hVr
        have HTO := Lib.hid hto
        have HCN := Lib.hid h3
        have HOWN := Lib.hid h1
        simp only at h2
        have HB1 := Lib.hid (HB.out.alloc HLW.out (.cells #[.int .i64 op, .int .i64 tk, .int .i64 tm, .string ts, .string nm] 47))
        clear hTr hVr hto hchk hchk' h1 h3
        by_cases hf9 : f = 0
        · subst hf9
          have HX : Hid (ofG (getL vs) l F = (V0, 0, 60, [])) := Lib.hid (by rw [HOF.out, hrun']; rfl)
          have HOf := Lib.hid (fun W => refOf_num 60 W (by decide))
          clear hrun'
          go_wp2_with fail
          refine (HOf.out _).mono ?_
          rintro r w5 ⟨rfl, hb5⟩
          dsimp only
          have HB5 := Lib.hid (HB1.out.trans (hb5.mono (by have := HLW.out; simp; omega)))
          clear hb5
          obtain ⟨f0, f1, f2, f3, f4, f5, f6, f7, f8, y0, y1, y2, y3, y4, y5, y6, y7, y8⟩ := HFr.out _ HB5.out
          have p9 := HP9.out _ HB5.out (0) (0) (⟨#[]⟩) (.bool true) (.slice none 0 0) (.int .i64 (60)) (.bool false) (.string ⟨#[]⟩) (.string ⟨#[]⟩)
          unfold put9 at p9
          have HQ := Lib.hid p9
          clear p9
          go_wp2
          obtain ⟨z0, z1, z2, p0, p1, p2, p3, p4, p5, hbF⟩ := HQ.out
          refine bodyPost_ret (v := .tuple #[.agg #[.int .i64 (0), .int .i64 (0), .string (⟨#[]⟩)], .int .i64 (0), .agg #[.bool true, .slice none 0 0, .int .i64 (60), .bool false, .string ⟨#[]⟩, .string ⟨#[]⟩]]) (by simp [results, Tryz.results12, go_sem, z0, z1, z2, p0, p1, p2, p3, p4, p5]) rfl ?_
          exact HEnd.out 0 0 ⟨#[]⟩ 0 60 [] none 0 true _ HX.out rfl (fun h => absurd h (by simp)) hbF
        · obtain ⟨m, rfl⟩ : ∃ m, f = m + 1 := ⟨f - 1, by omega⟩
          have q1 : ((m + 1 : Nat) : Int) - 1 = (m : Int) := by omega
          have z1 : (((m + 1 : Nat) : Int) == 0) = false := by rw [beq_eq_false_iff_ne]; omega
          have z1' : ¬ ((m + 1 : Nat) : Int) = 0 := by omega
          have hb5 := HB1.out.alloc (by have := HLW.out; simp; omega) (.cells #[.int .i64 tk, .int .i64 tm, .string ts] 27)
          have ho5 := (HO.out.allocs (.cells #[.int .i64 op, .int .i64 tk, .int .i64 tm, .string ts, .string nm] 47)).allocs (.cells #[.int .i64 tk, .int .i64 tm, .string ts] 27)
          have hT5 := heap1 wr (.cells #[.int .i64 op, .int .i64 tk, .int .i64 tm, .string ts, .string nm] 47) (.cells #[.int .i64 tk, .int .i64 tm, .string ts] 27)
          have hV5 : Boxed ((wr.alloc (.cells #[.int .i64 op, .int .i64 tk, .int .i64 tm, .string ts, .string nm] 47)).alloc (.cells #[.int .i64 tk, .int .i64 tm, .string ts] 27)) (wr.heap.size + 1) ⟨tk, tm, ts⟩ := heap2 wr _ _
          have hs5 : wr.heap.size + 1 < ((wr.alloc (.cells #[.int .i64 op, .int .i64 tk, .int .i64 tm, .string ts, .string nm] 47)).alloc (.cells #[.int .i64 tk, .int .i64 tm, .string ts] 27)).heap.size := by simp
          obtain ⟨w5, hw⟩ : ∃ y, (wr.alloc (.cells #[.int .i64 op, .int .i64 tk, .int .i64 tm, .string ts, .string nm] 47)).alloc (.cells #[.int .i64 tk, .int .i64 tm, .string ts] 27) = y := ⟨_, rfl⟩
          obtain ⟨sv, hs⟩ : ∃ y, wr.heap.size = y := ⟨_, rfl⟩
          rw [hw] at hb5 ho5 hT5 hV5 hs5
          rw [hs] at hT5 hV5 hs5
          have HW := Lib.hid hw
          have HSv := Lib.hid hs
          have HLsv := Lib.hid (show lo ≤ sv by have := HLW.out; omega)
          have HB5 := Lib.hid hb5
          have HO5 := Lib.hid ho5
          have HT5 := Lib.hid hT5
          have HV5 := Lib.hid hV5
          have HS5 := Lib.hid hs5
          have HGet := Lib.hid (refGet_any vs A2 c2 nm w5 (by have := HV.out.short.1; omega) (HV.out.below (w' := w5) (by rw [HLo.out]; exact HB5.out)).row)
          have HRUN2 := Lib.hid hrun'
          have d0 : w5.cell? ⟨sv, 4, none⟩ = some (.string nm) := cell_of_row w5 sv 4 _ _ _ HT5.out
          clear hw hs hb5 ho5 hT5 hV5 hs5 hrun' hf9
          obtain ⟨gv, hgv⟩ : ∃ v, getO vs nm = v := ⟨_, rfl⟩
          obtain ⟨has, hhas⟩ : ∃ b, (getL vs nm).isSome = b := ⟨_, rfl⟩
          rw [hgv, hhas] at HGet
          obtain ⟨gvk, gvm, gvs⟩ := gv
          simp only [V.val] at HGet
          have HGV := Lib.hid hgv
          have HHAS := Lib.hid hhas
          clear hgv hhas
          go_upto_region 14 with fail
          rw [HW.out, HSv.out]
          clear HW
          go_wp2_with fail
          refine HGet.out.mono ?_
          rintro r w6 ⟨rfl, hb6⟩
          dsimp only
          have hb7 := box_below w6 #[.int .i64 gvk, .int .i64 gvm, .string gvs] 27
          have hg7 := Boxed.new w6 gvk gvm gvs
          have hbb := hb6.trans (hb7.mono hb6.size)
          have hb57 := HB5.out.trans (hbb.mono (Nat.le_trans HLsv.out (Nat.le_of_lt (Nat.lt_trans (Nat.lt_succ_self _) HS5.out))))
          have ho7 := HO5.out.keep (fun g _ hg => hbb.block g hg) (Nat.le_refl _)
          have hT7 := (hbb.block _ (Nat.lt_trans (Nat.lt_succ_self _) HS5.out)).trans HT5.out
          have hV7 := HV5.out.below hbb
          have hs7 : sv + 1 < w6.heap.size := Nat.lt_of_lt_of_le HS5.out hb6.size
          obtain ⟨w7, hw⟩ : ∃ y, w6.alloc (.cells #[.int .i64 gvk, .int .i64 gvm, .string gvs] 27) = y := ⟨_, rfl⟩
          obtain ⟨sg, hs⟩ : ∃ y, w6.heap.size = y := ⟨_, rfl⟩
          rw [hw] at hb57 ho7 hT7 hV7 hg7
          rw [hs] at hg7 hs7
          have HW := Lib.hid hw
          have HSg := Lib.hid hs
          have HB7 := Lib.hid hb57
          have HO7 := Lib.hid ho7
          have HT7 := Lib.hid hT7
          have HV7 := Lib.hid hV7
          have HG7 := Lib.hid hg7
          have HNG := Lib.hid hs7
          have HNO := Lib.hid (show (Value.slice A9 st.length c9).ownBlock ≠ some (sv + 1) from fun e => by
            have := (HO.out.lt _ e).2
            have := HSv.out
            omega)
          have d0 : w7.cell? ⟨sv, 0, none⟩ = some (.int .i64 op) := cell_of_row w7 sv 0 _ _ _ HT7.out
          have d4 : w7.cell? ⟨sv, 4, none⟩ = some (.string nm) := cell_of_row w7 sv 4 _ _ _ HT7.out
          clear hb6 hb7 hg7 hbb hb57 ho7 hT7 hV7 hs7 hw hs HGet HB5 HO5 HT5 HV5 HS5
          go_upto_region 15 with fail
          rw [HW.out, HSg.out]
          clear HW
          have HTL := Lib.hid hlen
          by_cases e1 : op = 1
          · subst e1
            cases has
            · have HGN := Lib.hid (getO_none HHAS.out)
              have HX : Hid (ofG (getL vs) l F = (V0, m, 61, [nm])) := Lib.hid (by
                have hst : stepG (getL vs) ⟨1, ⟨tk, tm, ts⟩, nm⟩ st = .inr (61, [nm]) := by
                  unfold stepG
                  rw [if_neg (show ¬ (1 : Int) = 0 by decide), if_pos rfl]
                  rw [show getL vs (TM.nm ⟨1, ⟨tk, tm, ts⟩, nm⟩) = none from HGN.out]
                rw [HOF.out, HRUN2.out, runG_inr hst])
              have HOf := Lib.hid (fun W => refOf_num 61 W (by decide))
              have HWr : Hid (∀ W : World, Calls Tryz.prog 35 #[.string nm, .agg #[.bool true, .slice none 0 0, .int .i64 61, .bool false, .string ⟨#[]⟩, .string ⟨#[]⟩]] W fun r w' => ∃ A c, r = .returned (.agg #[.bool true, .slice A 1 c, .int .i64 61, .bool false, .string ⟨#[]⟩, .string ⟨#[]⟩]) ∧ RowS w' W.heap.size w'.heap.size A [nm] ∧ Below W.heap.size W w') := Lib.hid (fun W => by
                have h := refWrap_any nm [] none 0 0 61 false ⟨#[]⟩ ⟨#[]⟩ 0 0 W rfl (fun _ => rfl) (fun h => absurd h (by simp)) (Nat.zero_le _) (by simp)
                refine h.mono ?_
                rintro r w' ⟨A, c, rfl, _, _, hrow, hb⟩
                exact ⟨A, c, rfl, hrow, hb⟩)
              have HLT := Lib.hid (show sv < w7.heap.size from (Array.getElem?_eq_some_iff.1 HT7.out).1)
              have HLs := Lib.hid (show s + 1 < w7.heap.size by have := HB7.out.size; have := HSS.out; omega)
              have HL7 := Lib.hid (show lo ≤ w7.heap.size by have := HB7.out.size; have := HLo.out; omega)
              go_upto_region 16 with fail
              go_region_with ((first
                | (go_at_call 34; refine (HOf.out _).mono ?_; rintro r w8a ⟨rfl, hba⟩; have hb8a : Below w7.heap.size w7 w8a := (Below.refl _ w7).drew.trans hba; have d4b : w8a.cell? ⟨sv, 4, none⟩ = some (.string nm) := (hb8a.cell (p := ⟨sv, 4, none⟩) HLT.out).trans d4)
                | (go_at_call 35; refine (HWr.out _).mono ?_; rintro r w8b ⟨A8, c8, rfl, hrow8, hbb⟩; have HBw : Below lo w2 w8b := HB7.out.trans ((hb8a.trans (hbb.mono hb8a.size)).mono HL7.out); obtain ⟨f0, f1, f2, f3, f4, f5, f6, f7, f8, y0, y1, y2, y3, y4, y5, y6, y7, y8⟩ := HFr.out _ HBw)))
              all_goals
                have p9 := HP9.out _ HBw 0 0 ⟨#[]⟩ (.bool true) (.slice A8 1 c8) (.int .i64 61) (.bool false) (.string ⟨#[]⟩) (.string ⟨#[]⟩)
                have hrow9 := row_put9 (s := s) (lo' := w.heap.size) hrow8 (by have := HLs.out; have := hb8a.size; omega) (by have := HLs.out; have := hb8a.size; have := HS.out; omega) (.int .i64 0) (.int .i64 0) (.string ⟨#[]⟩) (.bool true) (.slice A8 1 c8) (.int .i64 61) (.bool false) (.string ⟨#[]⟩) (.string ⟨#[]⟩)
                unfold put9 at p9 hrow9
                have HQ := Lib.hid p9
                have HR9 := Lib.hid hrow9
                clear p9 hrow9 hrow8
                go_wp2
                obtain ⟨z0, z1, z2, p0, p1, p2, p3, p4, p5, hbF⟩ := HQ.out
                refine bodyPost_ret (v := .tuple #[.agg #[.int .i64 0, .int .i64 0, .string ⟨#[]⟩], .int .i64 (m : Int), .agg #[.bool true, .slice A8 1 c8, .int .i64 61, .bool false, .string ⟨#[]⟩, .string ⟨#[]⟩]]) (by simp [results, Tryz.results12, go_sem, z0, z1, z2, p0, p1, p2, p3, p4, p5]) rfl ?_
                exact HEnd.out 0 0 ⟨#[]⟩ m 61 [nm] A8 c8 true _ HX.out rfl HR9.out hbF
            · have HGS := Lib.hid (getO_some HGV.out HHAS.out)
              have HST : Hid (stepG (getL vs) ⟨1, ⟨tk, tm, ts⟩, nm⟩ st = .inl (⟨gvk, gvm, gvs⟩ :: st)) := Lib.hid (by unfold stepG; rw [if_neg (show ¬ (1 : Int) = 0 by decide), if_pos rfl]; rw [show getL vs (TM.nm ⟨1, ⟨tk, tm, ts⟩, nm⟩) = some ⟨gvk, gvm, gvs⟩ from HGS.out])
              have HTK : Hid (takesT (TM.op ⟨1, ⟨tk, tm, ts⟩, nm⟩) = 0) := Lib.hid rfl
              have HOKG : Hid (okV ⟨gvk, gvm, gvs⟩) := Lib.hid (by obtain ⟨x, hx, e⟩ := getL_in HGS.out; rw [← e]; exact HV.out.ok x hx)
              obtain ⟨g0, g1, g2⟩ := HG7.out.cells
              simp only at g0 g1 g2
              obtain ⟨y0, y1, y2⟩ := HV7.out.cells
              simp only at y0 y1 y2
              have f0 := HV7.out.frozen 0
              have f1 := HV7.out.frozen 1
              have f2 := HV7.out.frozen 2
              have hv8 := (HV7.out).set3' gvk gvm gvs
              have ho8 := HO7.out.put3 (x := .int .i64 gvk) (y := .int .i64 gvm) (z := .string gvs) HNO.out
              have hb8 := ((HB7.out.setCell (p := ⟨sv + 1, 0, none⟩) (by show lo ≤ sv + 1; have := HLsv.out; omega) (.int .i64 gvk)).setCell (p := ⟨sv + 1, 1, none⟩) (by show lo ≤ sv + 1; have := HLsv.out; omega) (.int .i64 gvm)).setCell (p := ⟨sv + 1, 2, none⟩) (by show lo ≤ sv + 1; have := HLsv.out; omega) (.string gvs)
              obtain ⟨w8, hw⟩ : ∃ y, ((w7.setCell ⟨sv + 1, 0, none⟩ (.int .i64 gvk)).setCell ⟨sv + 1, 1, none⟩ (.int .i64 gvm)).setCell ⟨sv + 1, 2, none⟩ (.string gvs) = y := ⟨_, rfl⟩
              rw [hw] at hv8 ho8 hb8
              have HV8 := Lib.hid hv8
              have HO8 := Lib.hid ho8
              have HB8 := Lib.hid hb8
              have HW8 := Lib.hid hw
              clear hv8 ho8 hb8 hw
              go_upto_region 27 with fail
              rw [HW8.out]
              clear HW8 y0 y1 y2 f0 f1 f2 g0 g1 g2 d0 d4
              obtain ⟨t0, t1, t2⟩ := HV8.out.cells
              simp only at t0 t1 t2
              have HRn := Lib.hid (HRUN2.out.trans (runG_inl HST.out))
              have HL8 := Lib.hid (show lo ≤ w8.heap.size by have := HB8.out.size; have := HLo.out; omega)
              have HLN := Lib.hid hsj
              have HFF := Lib.hid hfF
              go_wp2_with (at_builtin; refine append_val _ rfl _ _ rfl lo _ (st).reverse rfl (HO8.out.allocs _) w8.heap.size 1 ⟨gvk, gvm, gvs⟩ rfl (heap_alloc_new w8 _) (by have h1 := HLN.out; have h2 := HTL.out; have h3 := HK.out; simp only [List.length_reverse, List.length_cons] at *; omega) (by have := HL8.out; simp; omega) ?_; intro v9 w9 ho9 hg9; have HB9 := Lib.hid ((HB8.out.alloc HL8.out (.cells #[.int .i64 gvk, .int .i64 gvm, .string gvs] 27)).grown hg9 (by have := HL8.out; simp; omega) (fun k hk => (HO8.out.lt k hk).1)); have HO9 := Lib.hid (show OwnV w9 lo v9 (⟨gvk, gvm, gvs⟩ :: st).reverse by rw [List.reverse_cons]; exact ho9); clear ho9 hg9)
              obtain ⟨A8, c8, hv9⟩ := HO9.out.form'
              rw [List.length_reverse] at hv9
              subst hv9
              go_roundg (gk - 1)
              case measure => have := HK.out; omega
              case rel => exact ⟨j + 1, ⟨gvk, gvm, gvs⟩ :: st, m, by have := HK.out; omega, by go_num, rfl, ⟨A8, c8, rfl, HO9.out⟩, HB9.out, HRn.out, by have h := HCN.out; rw [HTK.out] at h; exact (by simpa using h), (fun v hv => by
                    rcases List.mem_cons.1 hv with rfl | hv
                    · exact HOKG.out
                    · exact HOK.out v hv), by have h1 := HLN.out; simp only [List.length_cons] at h1 ⊢; omega, by have := HFF.out; omega⟩
          have e1' : (op == 1) = false := by rw [beq_eq_false_iff_ne]; exact e1
          by_cases e2 : op = 2
          · subst e2
            have HTK : Hid (takesT (TM.op ⟨2, ⟨tk, tm, ts⟩, nm⟩) = 0) := Lib.hid rfl
            have HST : Hid (stepG (getL vs) ⟨2, ⟨tk, tm, ts⟩, nm⟩ st = .inl (truthV has :: st)) := Lib.hid (by unfold stepG; rw [if_neg (show ¬ (2 : Int) = 0 by decide), if_neg (show ¬ (2 : Int) = 1 by decide), if_pos rfl]; rw [show (getL vs (TM.nm ⟨2, ⟨tk, tm, ts⟩, nm⟩)).isSome = has from HHAS.out])
            have HOKG := Lib.hid (okV_truth has)
            have HTr := Lib.hid (fun W => g6truth_any has W)
            obtain ⟨bk, bm, bs, hbv⟩ : ∃ bk bm bs, truthV has = ⟨bk, bm, bs⟩ := ⟨_, _, _, rfl⟩
            rw [hbv] at HST HOKG HTr
            simp only [V.val] at HTr
            clear hbv e1
            go_wp2_with fail
            refine (HTr.out _).mono ?_
            rintro r w7b ⟨rfl, hbt⟩
            dsimp only
            have HV7b := Lib.hid (HV7.out.below hbt)
            have HO7b := Lib.hid (HO7.out.keep (fun g _ hg => hbt.block g hg) (Nat.le_refl _))
            have HB7b := Lib.hid (HB7.out.trans (hbt.mono (by have := HB7.out.size; have := HLo.out; omega)))
            obtain ⟨y0, y1, y2⟩ := HV7b.out.cells
            simp only at y0 y1 y2
            have f0 := HV7b.out.frozen 0
            have f1 := HV7b.out.frozen 1
            have f2 := HV7b.out.frozen 2
            have hv8 := (HV7b.out).set3' bk bm bs
            have ho8 := HO7b.out.put3 (x := .int .i64 bk) (y := .int .i64 bm) (z := .string bs) HNO.out
            have hb8 := ((HB7b.out.setCell (p := ⟨sv + 1, 0, none⟩) (by show lo ≤ sv + 1; have := HLsv.out; omega) (.int .i64 bk)).setCell (p := ⟨sv + 1, 1, none⟩) (by show lo ≤ sv + 1; have := HLsv.out; omega) (.int .i64 bm)).setCell (p := ⟨sv + 1, 2, none⟩) (by show lo ≤ sv + 1; have := HLsv.out; omega) (.string bs)
            obtain ⟨w8, hw⟩ : ∃ y, ((w7b.setCell ⟨sv + 1, 0, none⟩ (.int .i64 bk)).setCell ⟨sv + 1, 1, none⟩ (.int .i64 bm)).setCell ⟨sv + 1, 2, none⟩ (.string bs) = y := ⟨_, rfl⟩
            rw [hw] at hv8 ho8 hb8
            have HV8 := Lib.hid hv8
            have HO8 := Lib.hid ho8
            have HB8 := Lib.hid hb8
            have HW8 := Lib.hid hw
            clear hv8 ho8 hb8 hw
            clear hbt HV7 HO7 HB7
            go_upto_region 27 with fail
            rw [HW8.out]
            clear HW8 y0 y1 y2 f0 f1 f2 d0 d4
            obtain ⟨t0, t1, t2⟩ := HV8.out.cells
            simp only at t0 t1 t2
            have HRn := Lib.hid (HRUN2.out.trans (runG_inl HST.out))
            have HL8 := Lib.hid (show lo ≤ w8.heap.size by have := HB8.out.size; have := HLo.out; omega)
            have HLN := Lib.hid hsj
            have HFF := Lib.hid hfF
            go_wp2_with (at_builtin; refine append_val _ rfl _ _ rfl lo _ (st).reverse rfl (HO8.out.allocs _) w8.heap.size 1 ⟨bk, bm, bs⟩ rfl (heap_alloc_new w8 _) (by have h1 := HLN.out; have h2 := HTL.out; have h3 := HK.out; simp only [List.length_reverse, List.length_cons] at *; omega) (by have := HL8.out; simp; omega) ?_; intro v9 w9 ho9 hg9; have HB9 := Lib.hid ((HB8.out.alloc HL8.out (.cells #[.int .i64 bk, .int .i64 bm, .string bs] 27)).grown hg9 (by have := HL8.out; simp; omega) (fun k hk => (HO8.out.lt k hk).1)); have HO9 := Lib.hid (show OwnV w9 lo v9 (⟨bk, bm, bs⟩ :: st).reverse by rw [List.reverse_cons]; exact ho9); clear ho9 hg9)
            obtain ⟨A8, c8, hv9⟩ := HO9.out.form'
            rw [List.length_reverse] at hv9
            subst hv9
            go_roundg (gk - 1)
            case measure => have := HK.out; omega
            case rel => exact ⟨j + 1, ⟨bk, bm, bs⟩ :: st, m, by have := HK.out; omega, by go_num, rfl, ⟨A8, c8, rfl, HO9.out⟩, HB9.out, HRn.out, by have h := HCN.out; rw [HTK.out] at h; exact (by simpa using h), (fun v hv => by
                  rcases List.mem_cons.1 hv with rfl | hv
                  · exact HOKG.out
                  · exact HOK.out v hv), by have h1 := HLN.out; simp only [List.length_cons] at h1 ⊢; omega, by have := HFF.out; omega⟩
          have e2' : (op == 2) = false := by rw [beq_eq_false_iff_ne]; exact e2
          by_cases e0 : op = 0
          · subst e0
            have HTK : Hid (takesT (TM.op ⟨0, ⟨tk, tm, ts⟩, nm⟩) = 0) := Lib.hid rfl
            have HST : Hid (stepG (getL vs) ⟨0, ⟨tk, tm, ts⟩, nm⟩ st = .inl (⟨tk, tm, ts⟩ :: st)) := Lib.hid rfl
            have HOKG := Lib.hid HTO.out.2
            clear e1 e2
            go_upto_region 27 with fail
            obtain ⟨w8, hw⟩ : ∃ y, w7 = y := ⟨_, rfl⟩
            have HV8 := Lib.hid HV7.out
            have HO8 := Lib.hid HO7.out
            have HB8 := Lib.hid HB7.out
            rw [hw] at HV8 HO8 HB8 ⊢
            clear d0 d4 hw HV7 HO7 HB7
            obtain ⟨t0, t1, t2⟩ := HV8.out.cells
            simp only at t0 t1 t2
            have HRn := Lib.hid (HRUN2.out.trans (runG_inl HST.out))
            have HL8 := Lib.hid (show lo ≤ w8.heap.size by have := HB8.out.size; have := HLo.out; omega)
            have HLN := Lib.hid hsj
            have HFF := Lib.hid hfF
            go_wp2_with (at_builtin; refine append_val _ rfl _ _ rfl lo _ (st).reverse rfl (HO8.out.allocs _) w8.heap.size 1 ⟨tk, tm, ts⟩ rfl (heap_alloc_new w8 _) (by have h1 := HLN.out; have h2 := HTL.out; have h3 := HK.out; simp only [List.length_reverse, List.length_cons] at *; omega) (by have := HL8.out; simp; omega) ?_; intro v9 w9 ho9 hg9; have HB9 := Lib.hid ((HB8.out.alloc HL8.out (.cells #[.int .i64 tk, .int .i64 tm, .string ts] 27)).grown hg9 (by have := HL8.out; simp; omega) (fun k hk => (HO8.out.lt k hk).1)); have HO9 := Lib.hid (show OwnV w9 lo v9 (⟨tk, tm, ts⟩ :: st).reverse by rw [List.reverse_cons]; exact ho9); clear ho9 hg9)
            obtain ⟨A8, c8, hv9⟩ := HO9.out.form'
            rw [List.length_reverse] at hv9
            subst hv9
            go_roundg (gk - 1)
            case measure => have := HK.out; omega
            case rel => exact ⟨j + 1, ⟨tk, tm, ts⟩ :: st, m, by have := HK.out; omega, by go_num, rfl, ⟨A8, c8, rfl, HO9.out⟩, HB9.out, HRn.out, by have h := HCN.out; rw [HTK.out] at h; exact (by simpa using h), (fun v hv => by
                  rcases List.mem_cons.1 hv with rfl | hv
                  · exact HOKG.out
                  · exact HOK.out v hv), by have h1 := HLN.out; simp only [List.length_cons] at h1 ⊢; omega, by have := HFF.out; omega⟩
          have hop := own_op HOWN.out
          simp only at hop
          by_cases e6 : op < 6
          · have htk : takesT (TM.op ⟨op, ⟨tk, tm, ts⟩, nm⟩) = 1 := by show takesT op = 1; unfold takesT; rw [if_neg (by omega), if_pos e6]
            have e6' : decide (6 ≤ op) = false := by rw [decide_eq_false_iff_not]; omega
            have e3' : decide (3 ≤ op) = true := by rw [decide_eq_true_iff]; omega
            obtain ⟨L, hL⟩ : ∃ L, st.length = L := ⟨_, rfl⟩
            rw [hL]
            rw [hL] at HO7 HNO
            obtain ⟨a9, r9, rfl⟩ : ∃ a r, st = a :: r := by
              rw [show takesT op = 1 from htk] at h2
              match st, h2 with
              | a :: r, _ => exact ⟨a, r, rfl⟩
            obtain ⟨ak, an, asx⟩ := a9
            obtain ⟨g, rfl, hg, hcap, ⟨a0, a1, a2⟩⟩ := HO7.out.top1
            simp only at a0 a1 a2
            obtain rfl : L = r9.length + 1 := by rw [← hL]; rfl
            have hLb : r9.length ≤ 1000 := by have h1 := HTL.out; have h3 := HK.out; simp only [List.length_cons] at hsj; omega
            have qv2 : IntKind.i64.wrap ((r9.length : Int) + 1 - 1) = (r9.length : Int) := by rw [IntWalk.i64_in _ (by omega)]; omega
            have qv3 : IntKind.i64.wrap (r9.length : Int) = (r9.length : Int) := by rw [IntWalk.i64_in _ (by omega)]
            have n1 : 0 ≤ (r9.length : Int) := by omega
            have n2 : (r9.length : Int) < (r9.length : Int) + 1 := by omega
            have HO7r := Lib.hid HO7.out.less1
            obtain ⟨X, hX⟩ : ∃ X, oneV op ⟨ak, an, asx⟩ = X := ⟨_, rfl⟩
            obtain ⟨⟨xk, xn, xs⟩, xc⟩ := X
            have HTw : Hid (∀ W, Calls Tryz.prog 38 #[.int .i64 op, .agg #[.int .i64 ak, .int .i64 an, .string asx]] W fun r w' => r = .returned (.tuple #[.agg #[.int .i64 xk, .int .i64 xn, .string xs], .int .i64 xc]) ∧ Below W.heap.size W w') := Lib.hid (oneR6 (HOK.out _ (List.mem_cons_self ..)) hX)
            have HXE := Lib.hid hX
            clear hL hX
            go_upto_region 25 with fail
            go_region_with ((go_at_call 38; refine (HTw.out _).mono ?_; rintro r w7b ⟨rfl, hbt1⟩; have hbt : Below w7.heap.size w7 w7b := (Below.refl _ w7).drew.trans hbt1; have y0 : w7b.cell? ⟨sv + 1, 0, none⟩ = some (.int .i64 tk) := ((HV7.out.below hbt).cells).1; have y1 : w7b.cell? ⟨sv + 1, 1, none⟩ = some (.int .i64 tm) := ((HV7.out.below hbt).cells).2.1; have y2 : w7b.cell? ⟨sv + 1, 2, none⟩ = some (.string ts) := ((HV7.out.below hbt).cells).2.2; have f0 := (HV7.out.below hbt).frozen 0; have f1 := (HV7.out.below hbt).frozen 1; have f2 := (HV7.out.below hbt).frozen 2))
            all_goals
              have HV7b := Lib.hid (HV7.out.below hbt)
              have HO7b : Hid (OwnV w7b lo (.slice (some ⟨g, 0, none⟩) r9.length c9) r9.reverse) := Lib.hid (HO7r.out.keep (fun g _ hg => hbt.block g hg) (Nat.le_refl _))
              have HB7b := Lib.hid (HB7.out.trans (hbt.mono (by have := HB7.out.size; have := HLo.out; omega)))
              have hv8 := (HV7b.out).set3' xk xn xs
              have ho8 := HO7b.out.put3 (x := .int .i64 xk) (y := .int .i64 xn) (z := .string xs) (fun e => HNO.out e)
              have hb8 := ((HB7b.out.setCell (p := ⟨sv + 1, 0, none⟩) (by show lo ≤ sv + 1; have := HLsv.out; omega) (.int .i64 xk)).setCell (p := ⟨sv + 1, 1, none⟩) (by show lo ≤ sv + 1; have := HLsv.out; omega) (.int .i64 xn)).setCell (p := ⟨sv + 1, 2, none⟩) (by show lo ≤ sv + 1; have := HLsv.out; omega) (.string xs)
              obtain ⟨w8, hw⟩ : ∃ y, ((w7b.setCell ⟨sv + 1, 0, none⟩ (.int .i64 xk)).setCell ⟨sv + 1, 1, none⟩ (.int .i64 xn)).setCell ⟨sv + 1, 2, none⟩ (.string xs) = y := ⟨_, rfl⟩
              rw [hw] at hv8 ho8 hb8
              have HV8 := Lib.hid hv8
              have HO8 := Lib.hid ho8
              have HB8 := Lib.hid hb8
              have HW8 := Lib.hid hw
              clear hv8 ho8 hb8 hw
              clear hbt hbt1 y0 y1 y2 f0 f1 f2
              rw [HW8.out]
              clear HW8
              by_cases hxc : xc = 0
              · subst hxc
                have HST : Hid (stepG (getL vs) ⟨op, ⟨tk, tm, ts⟩, nm⟩ (⟨ak, an, asx⟩ :: r9) = .inl (⟨xk, xn, xs⟩ :: r9)) := Lib.hid (by
                  have := HXE.out
                  unfold stepG
                  rw [if_neg (show ¬ op = 0 from fun e => by omega), if_neg (show ¬ op = 1 from fun e => by omega), if_neg (show ¬ op = 2 from fun e => by omega), if_pos (show op < 6 by omega)]
                  show (if (oneV op ⟨ak, an, asx⟩).2 = 0 then _ else _) = _
                  rw [HXE.out]
                  rfl)
                have HOKG : Hid (okV ⟨xk, xn, xs⟩) := Lib.hid (by have h := okV_one op (HOK.out _ (List.mem_cons_self ..)); rw [HXE.out] at h; exact h)
                have HTK := Lib.hid htk
                obtain ⟨t0, t1, t2⟩ := HV8.out.cells
                simp only at t0 t1 t2
                have HRn := Lib.hid (HRUN2.out.trans (runG_inl HST.out))
                have HL8 := Lib.hid (show lo ≤ w8.heap.size by have := HB8.out.size; have := HLo.out; omega)
                have HLN := Lib.hid hsj
                have HFF := Lib.hid hfF
                go_wp2_with (at_builtin; refine append_val _ rfl _ _ rfl lo _ (r9).reverse rfl (HO8.out.allocs _) w8.heap.size 1 ⟨xk, xn, xs⟩ rfl (heap_alloc_new w8 _) (by have h1 := HLN.out; have h2 := HTL.out; have h3 := HK.out; simp only [List.length_reverse, List.length_cons] at *; omega) (by have := HL8.out; simp; omega) ?_; intro v9 w9 ho9 hg9; have HB9 := Lib.hid ((HB8.out.alloc HL8.out (.cells #[.int .i64 xk, .int .i64 xn, .string xs] 27)).grown hg9 (by have := HL8.out; simp; omega) (fun k hk => (HO8.out.lt k hk).1)); have HO9 := Lib.hid (show OwnV w9 lo v9 (⟨xk, xn, xs⟩ :: r9).reverse by rw [List.reverse_cons]; exact ho9); clear ho9 hg9)
                obtain ⟨A8, c8, hv9⟩ := HO9.out.form'
                rw [List.length_reverse] at hv9
                subst hv9
                go_roundg (gk - 1)
                case measure => have := HK.out; omega
                case rel => exact ⟨j + 1, ⟨xk, xn, xs⟩ :: r9, m, by have := HK.out; omega, by go_num, rfl, ⟨A8, c8, rfl, HO9.out⟩, HB9.out, HRn.out, by have h := HCN.out; rw [HTK.out] at h; exact h, (fun v hv => by
                      rcases List.mem_cons.1 hv with rfl | hv
                      · exact HOKG.out
                      · exact HOK.out v (List.mem_cons_of_mem _ hv)), by have h1 := HLN.out; simp only [List.length_cons] at h1 ⊢; omega, by have := HFF.out; omega⟩
              · have d : (xc == 0) = false := by rw [beq_eq_false_iff_ne]; exact hxc
                have d' : (xc != 0) = true := by rw [bne_iff_ne]; exact hxc
                have HX : Hid (ofG (getL vs) l F = (V0, m, xc, [])) := Lib.hid (by
                  have hst : stepG (getL vs) ⟨op, ⟨tk, tm, ts⟩, nm⟩ (⟨ak, an, asx⟩ :: r9) = .inr (xc, []) := by
                    unfold stepG
                    rw [if_neg (show ¬ op = 0 from fun e => by omega), if_neg (show ¬ op = 1 from fun e => by omega), if_neg (show ¬ op = 2 from fun e => by omega), if_pos (show op < 6 by omega)]
                    show (if (oneV op ⟨ak, an, asx⟩).2 = 0 then _ else _) = _
                    rw [HXE.out]
                    exact if_neg hxc
                  rw [HOF.out, HRUN2.out, runG_inr hst])
                have HCB : Hid (true = (!(xc == 0))) := Lib.hid (by rw [d]; rfl)
                have HOf := Lib.hid (refOf_num xc w8 hxc)
                go_wp2_with fail
                refine HOf.out.mono ?_
                rintro r w5z ⟨rfl, hb5⟩
                dsimp only
                have HBz := Lib.hid (HB8.out.trans (hb5.mono (by have := HB8.out.size; have := HLo.out; omega)))
                clear hb5
                obtain ⟨f0, f1, f2, f3, f4, f5, f6, f7, f8, y0, y1, y2, y3, y4, y5, y6, y7, y8⟩ := HFr.out _ HBz.out
                have p9 := HP9.out _ HBz.out 0 0 ⟨#[]⟩ (.bool true) (.slice none 0 0) (.int .i64 (xc)) (.bool false) (.string ⟨#[]⟩) (.string ⟨#[]⟩)
                unfold put9 at p9
                have HQ := Lib.hid p9
                clear p9
                go_wp2
                obtain ⟨z0, z1, z2, p0, p1, p2, p3, p4, p5, hbF⟩ := HQ.out
                refine bodyPost_ret (v := .tuple #[.agg #[.int .i64 0, .int .i64 0, .string ⟨#[]⟩], .int .i64 ((m : Int)), .agg #[.bool true, .slice none 0 0, .int .i64 (xc), .bool false, .string ⟨#[]⟩, .string ⟨#[]⟩]]) (by simp [results, Tryz.results12, go_sem, z0, z1, z2, p0, p1, p2, p3, p4, p5]) rfl ?_
                exact HEnd.out 0 0 ⟨#[]⟩ m xc [] none 0 true _ HX.out HCB.out (fun h => absurd h (by simp)) hbF
          · have htk : takesT (TM.op ⟨op, ⟨tk, tm, ts⟩, nm⟩) = 2 := by show takesT op = 2; unfold takesT; rw [if_neg (by omega), if_neg e6]
            have e6' : decide (6 ≤ op) = true := by rw [decide_eq_true_iff]; omega
            obtain ⟨L, hL⟩ : ∃ L, st.length = L := ⟨_, rfl⟩
            rw [hL]
            rw [hL] at HO7 HNO
            obtain ⟨b9, a9, r9, rfl⟩ : ∃ b a r, st = b :: a :: r := by
              rw [show takesT op = 2 from htk] at h2
              match st, h2 with
              | b :: a :: r, _ => exact ⟨b, a, r, rfl⟩
            obtain ⟨bk, bn, bs⟩ := b9
            obtain ⟨ak, an, asx⟩ := a9
            obtain ⟨g, rfl, hg, hcap, ⟨a0, a1, a2⟩, ⟨b0, b1, b2⟩⟩ := HO7.out.top2
            simp only at a0 a1 a2 b0 b1 b2
            obtain rfl : L = r9.length + 1 + 1 := by rw [← hL]; rfl
            have hLb : r9.length ≤ 1000 := by have h1 := HTL.out; have h3 := HK.out; simp only [List.length_cons] at hsj; omega
            have qv2 : IntKind.i64.wrap ((r9.length : Int) + 1 + 1 - 2) = (r9.length : Int) := by rw [IntWalk.i64_in _ (by omega)]; omega
            have qv3 : IntKind.i64.wrap ((r9.length : Int) + 1 + 1 - 1) = (r9.length : Int) + 1 := by rw [IntWalk.i64_in _ (by omega)]; omega
            have qv4 : IntKind.i64.wrap ((r9.length : Int) + 1) = (r9.length : Int) + 1 := by rw [IntWalk.i64_in _ (by omega)]
            have tn : ((r9.length : Int) + 1).toNat = r9.length + 1 := by omega
            have n1 : 0 ≤ (r9.length : Int) := by omega
            have n2 : (r9.length : Int) < (r9.length : Int) + 1 + 1 := by omega
            have n3 : 0 ≤ (r9.length : Int) + 1 := by omega
            have n4 : (r9.length : Int) + 1 < (r9.length : Int) + 1 + 1 := by omega
            have HO7r := Lib.hid HO7.out.less2
            obtain ⟨X, hX⟩ : ∃ X, twoV op ⟨ak, an, asx⟩ ⟨bk, bn, bs⟩ = X := ⟨_, rfl⟩
            obtain ⟨⟨xk, xn, xs⟩, xc⟩ := X
            have HTw : Hid (∀ W, Calls Tryz.prog 37 #[.int .i64 op, .agg #[.int .i64 ak, .int .i64 an, .string asx], .agg #[.int .i64 bk, .int .i64 bn, .string bs]] W fun r w' => r = .returned (.tuple #[.agg #[.int .i64 xk, .int .i64 xn, .string xs], .int .i64 xc]) ∧ Below W.heap.size W w') := Lib.hid (twoR6 (HOK.out _ (List.mem_cons_of_mem _ (List.mem_cons_self ..))) (HOK.out _ (List.mem_cons_self ..)) hX)
            have HXE := Lib.hid hX
            clear hL hX
            go_upto_region 22 with fail
            go_region_with ((go_at_call 37; refine (HTw.out _).mono ?_; rintro r w7b ⟨rfl, hbt1⟩; have hbt : Below w7.heap.size w7 w7b := (Below.refl _ w7).drew.trans hbt1; have y0 : w7b.cell? ⟨sv + 1, 0, none⟩ = some (.int .i64 tk) := ((HV7.out.below hbt).cells).1; have y1 : w7b.cell? ⟨sv + 1, 1, none⟩ = some (.int .i64 tm) := ((HV7.out.below hbt).cells).2.1; have y2 : w7b.cell? ⟨sv + 1, 2, none⟩ = some (.string ts) := ((HV7.out.below hbt).cells).2.2; have f0 := (HV7.out.below hbt).frozen 0; have f1 := (HV7.out.below hbt).frozen 1; have f2 := (HV7.out.below hbt).frozen 2))
            all_goals
              have HV7b := Lib.hid (HV7.out.below hbt)
              have HO7b : Hid (OwnV w7b lo (.slice (some ⟨g, 0, none⟩) r9.length c9) r9.reverse) := Lib.hid (HO7r.out.keep (fun g _ hg => hbt.block g hg) (Nat.le_refl _))
              have HB7b := Lib.hid (HB7.out.trans (hbt.mono (by have := HB7.out.size; have := HLo.out; omega)))
              have hv8 := (HV7b.out).set3' xk xn xs
              have ho8 := HO7b.out.put3 (x := .int .i64 xk) (y := .int .i64 xn) (z := .string xs) (fun e => HNO.out e)
              have hb8 := ((HB7b.out.setCell (p := ⟨sv + 1, 0, none⟩) (by show lo ≤ sv + 1; have := HLsv.out; omega) (.int .i64 xk)).setCell (p := ⟨sv + 1, 1, none⟩) (by show lo ≤ sv + 1; have := HLsv.out; omega) (.int .i64 xn)).setCell (p := ⟨sv + 1, 2, none⟩) (by show lo ≤ sv + 1; have := HLsv.out; omega) (.string xs)
              obtain ⟨w8, hw⟩ : ∃ y, ((w7b.setCell ⟨sv + 1, 0, none⟩ (.int .i64 xk)).setCell ⟨sv + 1, 1, none⟩ (.int .i64 xn)).setCell ⟨sv + 1, 2, none⟩ (.string xs) = y := ⟨_, rfl⟩
              rw [hw] at hv8 ho8 hb8
              have HV8 := Lib.hid hv8
              have HO8 := Lib.hid ho8
              have HB8 := Lib.hid hb8
              have HW8 := Lib.hid hw
              clear hv8 ho8 hb8 hw
              clear hbt hbt1 y0 y1 y2 f0 f1 f2
              rw [HW8.out]
              clear HW8
              by_cases hxc : xc = 0
              · subst hxc
                have HST : Hid (stepG (getL vs) ⟨op, ⟨tk, tm, ts⟩, nm⟩ (⟨bk, bn, bs⟩ :: ⟨ak, an, asx⟩ :: r9) = .inl (⟨xk, xn, xs⟩ :: r9)) := Lib.hid (by
                  have := HXE.out
                  unfold stepG
                  rw [if_neg (show ¬ op = 0 from fun e => by omega), if_neg (show ¬ op = 1 from fun e => by omega), if_neg (show ¬ op = 2 from fun e => by omega), if_neg (show ¬ op < 6 by omega)]
                  show (if (twoV op ⟨ak, an, asx⟩ ⟨bk, bn, bs⟩).2 = 0 then _ else _) = _
                  rw [HXE.out]
                  rfl)
                have HOKG : Hid (okV ⟨xk, xn, xs⟩) := Lib.hid (by have h := okV_two op (HOK.out _ (List.mem_cons_of_mem _ (List.mem_cons_self ..))) (HOK.out _ (List.mem_cons_self ..)); rw [HXE.out] at h; exact h)
                have HTK := Lib.hid htk
                obtain ⟨t0, t1, t2⟩ := HV8.out.cells
                simp only at t0 t1 t2
                have HRn := Lib.hid (HRUN2.out.trans (runG_inl HST.out))
                have HL8 := Lib.hid (show lo ≤ w8.heap.size by have := HB8.out.size; have := HLo.out; omega)
                have HLN := Lib.hid hsj
                have HFF := Lib.hid hfF
                go_wp2_with (at_builtin; refine append_val _ rfl _ _ rfl lo _ (r9).reverse rfl (HO8.out.allocs _) w8.heap.size 1 ⟨xk, xn, xs⟩ rfl (heap_alloc_new w8 _) (by have h1 := HLN.out; have h2 := HTL.out; have h3 := HK.out; simp only [List.length_reverse, List.length_cons] at *; omega) (by have := HL8.out; simp; omega) ?_; intro v9 w9 ho9 hg9; have HB9 := Lib.hid ((HB8.out.alloc HL8.out (.cells #[.int .i64 xk, .int .i64 xn, .string xs] 27)).grown hg9 (by have := HL8.out; simp; omega) (fun k hk => (HO8.out.lt k hk).1)); have HO9 := Lib.hid (show OwnV w9 lo v9 (⟨xk, xn, xs⟩ :: r9).reverse by rw [List.reverse_cons]; exact ho9); clear ho9 hg9)
                obtain ⟨A8, c8, hv9⟩ := HO9.out.form'
                rw [List.length_reverse] at hv9
                subst hv9
                go_roundg (gk - 1)
                case measure => have := HK.out; omega
                case rel => exact ⟨j + 1, ⟨xk, xn, xs⟩ :: r9, m, by have := HK.out; omega, by go_num, rfl, ⟨A8, c8, rfl, HO9.out⟩, HB9.out, HRn.out, by have h := HCN.out; rw [HTK.out] at h; exact h, (fun v hv => by
                      rcases List.mem_cons.1 hv with rfl | hv
                      · exact HOKG.out
                      · exact HOK.out v (List.mem_cons_of_mem _ (List.mem_cons_of_mem _ hv))), by have h1 := HLN.out; simp only [List.length_cons] at h1 ⊢; omega, by have := HFF.out; omega⟩
              · have d : (xc == 0) = false := by rw [beq_eq_false_iff_ne]; exact hxc
                have d' : (xc != 0) = true := by rw [bne_iff_ne]; exact hxc
                have HX : Hid (ofG (getL vs) l F = (V0, m, xc, [])) := Lib.hid (by
                  have hst : stepG (getL vs) ⟨op, ⟨tk, tm, ts⟩, nm⟩ (⟨bk, bn, bs⟩ :: ⟨ak, an, asx⟩ :: r9) = .inr (xc, []) := by
                    unfold stepG
                    rw [if_neg (show ¬ op = 0 from fun e => by omega), if_neg (show ¬ op = 1 from fun e => by omega), if_neg (show ¬ op = 2 from fun e => by omega), if_neg (show ¬ op < 6 by omega)]
                    show (if (twoV op ⟨ak, an, asx⟩ ⟨bk, bn, bs⟩).2 = 0 then _ else _) = _
                    rw [HXE.out]
                    exact if_neg hxc
                  rw [HOF.out, HRUN2.out, runG_inr hst])
                have HCB : Hid (true = (!(xc == 0))) := Lib.hid (by rw [d]; rfl)
                have HOf := Lib.hid (refOf_num xc w8 hxc)
                go_wp2_with fail
                refine HOf.out.mono ?_
                rintro r w5z ⟨rfl, hb5⟩
                dsimp only
                have HBz := Lib.hid (HB8.out.trans (hb5.mono (by have := HB8.out.size; have := HLo.out; omega)))
                clear hb5
                obtain ⟨f0, f1, f2, f3, f4, f5, f6, f7, f8, y0, y1, y2, y3, y4, y5, y6, y7, y8⟩ := HFr.out _ HBz.out
                have p9 := HP9.out _ HBz.out 0 0 ⟨#[]⟩ (.bool true) (.slice none 0 0) (.int .i64 (xc)) (.bool false) (.string ⟨#[]⟩) (.string ⟨#[]⟩)
                unfold put9 at p9
                have HQ := Lib.hid p9
                clear p9
                go_wp2
                obtain ⟨z0, z1, z2, p0, p1, p2, p3, p4, p5, hbF⟩ := HQ.out
                refine bodyPost_ret (v := .tuple #[.agg #[.int .i64 0, .int .i64 0, .string ⟨#[]⟩], .int .i64 ((m : Int)), .agg #[.bool true, .slice none 0 0, .int .i64 (xc), .bool false, .string ⟨#[]⟩, .string ⟨#[]⟩]]) (by simp [results, Tryz.results12, go_sem, z0, z1, z2, p0, p1, p2, p3, p4, p5]) rfl ?_
                exact HEnd.out 0 0 ⟨#[]⟩ m xc [] none 0 true _ HX.out HCB.out (fun h => absurd h (by simp)) hbF
      · have hj' : j = l.length := by have := HK.out; omega
        have hlt : decide ((j : Int) < (l.length : Int)) = false := by simpa using hj
        have hdr : l.drop j = [] := by rw [hj', List.drop_length]
        have h1 := hchk
        rw [hdr] at h1
        have hst1 : st.length = 1 := (Prod.mk.inj h1).2
        obtain ⟨v9, rfl⟩ : ∃ v, st = [v] := List.length_eq_one_iff.1 hst1
        obtain ⟨xk, xn, xs⟩ := v9
        have HX : Hid (ofG (getL vs) l F = (⟨xk, xn, xs⟩, f, 0, [])) := Lib.hid (by
          rw [HOF.out, HRUN.out, hdr]
          rfl)
        obtain ⟨g, rfl, hq1, hg, hq2, hcap, ⟨a0, a1, a2⟩⟩ := HO.out.at_ 0 (by simp)
        clear hq1 hq2
        have a0 : wr.cell? ⟨g, 0, none⟩ = some (.int .i64 xk) := a0
        have a1 : wr.cell? ⟨g, 1, none⟩ = some (.int .i64 xn) := a1
        have a2 : wr.cell? ⟨g, 2, none⟩ = some (.string xs) := a2
        obtain ⟨f0, f1, f2, f3, f4, f5, f6, f7, f8, y0, y1, y2, y3, y4, y5, y6, y7, y8⟩ := HFr.out _ HB.out
        have p9 := HP9.out _ HB.out xk xn xs (.bool false) (.slice none 0 0) (.int .i64 0) (.bool false) (.string ⟨#[]⟩) (.string ⟨#[]⟩)
        unfold put9 at p9
        have HQ := Lib.hid p9
        clear p9 h1 hdr hj' hchk hst1 hg hcap
        go_wp2
        obtain ⟨z0, z1, z2, p0, p1, p2, p3, p4, p5, hbF⟩ := HQ.out
        refine bodyPost_ret (v := .tuple #[.agg #[.int .i64 xk, .int .i64 xn, .string xs], .int .i64 (f : Int), .agg #[.bool false, .slice none 0 0, .int .i64 0, .bool false, .string ⟨#[]⟩, .string ⟨#[]⟩]]) (by simp [results, Tryz.results12, go_sem, z0, z1, z2, p0, p1, p2, p3, p4, p5]) rfl ?_
        exact HEnd.out xk xn xs f 0 [] none 0 false _ HX.out rfl (fun h => absurd h (by simp)) hbF
  · have HB3 := Lib.hid hb3
    have HB23 := Lib.hid (show Below w2.heap.size w2 w3 from hb3)
    have HX : Hid (ofG (getL vs) l F = (V0, F, checkL l, [])) := Lib.hid (by unfold ofG; rw [if_pos hck])
    have HOf := Lib.hid (refOf_num (checkL l) w3 hck)
    have hckb : (!(checkL l == 0)) = true := by simp [hck]
    have HCB := Lib.hid hckb.symm
    obtain ⟨ck, hckv⟩ : ∃ y, checkL l = y := ⟨_, rfl⟩
    rw [hckv] at HX HOf HCB hck ⊢
    have d : (ck == 0) = false := by rw [beq_eq_false_iff_ne]; exact hck
    have d' : (ck != 0) = true := by rw [bne_iff_ne]; exact hck
    clear hckb hckv hb3
    go_wp2_with fail
    refine HOf.out.mono ?_
    rintro r w5 ⟨rfl, hb5⟩
    dsimp only
    have HB5 := Lib.hid (HB23.out.trans (hb5.mono HB23.out.size))
    clear hb5
    obtain ⟨f0, f1, f2, f3, f4, f5, f6, f7, f8, y0, y1, y2, y3, y4, y5, y6, y7, y8⟩ := HFr.out _ HB5.out
    have p9 := HP9.out _ HB5.out (0) (0) (⟨#[]⟩) (.bool true) (.slice none 0 0) (.int .i64 (ck)) (.bool false) (.string ⟨#[]⟩) (.string ⟨#[]⟩)
    unfold put9 at p9
    have HQ := Lib.hid p9
    clear p9
    go_wp2
    obtain ⟨z0, z1, z2, p0, p1, p2, p3, p4, p5, hbF⟩ := HQ.out
    refine bodyPost_ret (v := .tuple #[.agg #[.int .i64 (0), .int .i64 (0), .string (⟨#[]⟩)], .int .i64 ((F : Int)), .agg #[.bool true, .slice none 0 0, .int .i64 (ck), .bool false, .string ⟨#[]⟩, .string ⟨#[]⟩]]) (by simp [results, Tryz.results12, go_sem, z0, z1, z2, p0, p1, p2, p3, p4, p5]) rfl ?_
    exact HEnd.out 0 0 ⟨#[]⟩ F ck [] none 0 true _ HX.out HCB.out (fun h => absurd h (by simp)) hbF
end Go.Proofs.YtidomoibhjgkjaaGreatDoor

/-
  The text of an error, or of none.
-/
namespace Go.Proofs.YtidomoibhjgkjaaGreatDoor
open Go.RowKit

def textO : Option Er → List UInt8
  | none => []
  | some (e, ps) => textE e ps
theorem textO_any (o : Option Er) (u : Value) (w : World) (h : ErrO w o u) (hp : (placesO o).length ≤ 1000000) (hG : Glob w) (h0 : -2147483648 ≤ codeO o) (h1 : codeO o ≤ 2147483647) (hl : (textO o).length ≤ 281474976710656) :
    Calls Tryz.prog 30 #[u] w fun r w' => r = .returned (.string ⟨(textO o).toArray⟩) ∧ Below w.heap.size w w' := by
  rcases o with _ | ⟨e, ps⟩
  · obtain rfl : u = .nilIface := h
    refine (text_none w).mono ?_
    rintro r w' ⟨rfl, rfl⟩
    exact ⟨rfl, Below.refl _ _⟩
  · exact textE_any ps u e _ w h.1 h.2 (Nat.le_refl _) hp hG h0 h1 hl
end Go.Proofs.YtidomoibhjgkjaaGreatDoor

/-
  How far the errors of expressions go: their numbers, their places, their texts.
-/
namespace Go.Proofs.YtidomoibhjgkjaaGreatDoor
open Go.RowKit

theorem right_bnd (v : V) : 0 ≤ rightV v ∧ rightV v ≤ 100 := by
  unfold rightV
  split
  · decide
  · split
    · decide
    · split <;> decide
theorem own_bnd (t : TM) : 0 ≤ ownT t ∧ ownT t ≤ 100 := by
  unfold ownT
  split
  · decide
  · split
    · split
      · exact right_bnd t.v
      · split <;> decide
    · split
      · split <;> decide
      · decide
theorem go_bnd : ∀ (l : List TM) (n : Nat), 0 ≤ (checkGo n l).1 ∧ (checkGo n l).1 ≤ 100
  | [], n => by simp [checkGo]
  | t :: l, n => by
    unfold checkGo
    split
    · exact own_bnd t
    · split
      · show 0 ≤ (6 : Int) ∧ (6 : Int) ≤ 100; decide
      · exact go_bnd l _
theorem check_bnd (l : List TM) : 0 ≤ checkL l ∧ checkL l ≤ 1000 := by
  unfold checkL
  have h := go_bnd l 0
  split
  · decide
  · split
    · omega
    · split
      · decide
      · split
        · decide
        · split
          · decide
          · first | decide | (split <;> decide)
theorem stepG_bnd {get : ByteArray → Option V} {t : TM} {st : List V} {e : Int} {p : List ByteArray} (h : stepG get t st = .inr (e, p)) : 0 ≤ e ∧ e ≤ 1000 ∧ (p = [] ∨ p = [t.nm]) := by
  unfold stepG at h
  split at h
  · cases h
  · split at h
    · split at h
      · cases h
      · injection h with h; injection h with h h2; subst h h2; exact ⟨by decide, by decide, .inr rfl⟩
    · split at h
      · cases h
      · split at h
        · split at h
          · split at h
            · cases h
            · next a r hne =>
              injection h with h; injection h with h h2
              subst h h2
              rcases oneV_err t.op a with g | ⟨g | g | g, _⟩
              · exact absurd g hne
              all_goals exact ⟨by omega, by omega, .inl rfl⟩
          · injection h with h; injection h with h h2; subst h h2; exact ⟨by decide, by decide, .inl rfl⟩
        · split at h
          · split at h
            · cases h
            · next b a r hne =>
              injection h with h; injection h with h h2
              subst h h2
              rcases twoV_err t.op a b with g | ⟨g | g | g | g | g, _⟩
              · exact absurd g hne
              all_goals exact ⟨by omega, by omega, .inl rfl⟩
          · injection h with h; injection h with h h2; subst h h2; exact ⟨by decide, by decide, .inl rfl⟩
theorem runG_bnd (get : ByteArray → Option V) : ∀ (l : List TM) (st : List V) (f : Nat) {e : Int} {p : List ByteArray} {m : Nat}, runG get l st f = (.inr (e, p), m) → 0 ≤ e ∧ e ≤ 1000 ∧ (p = [] ∨ ∃ t ∈ l, p = [t.nm])
  | [], _, _, _, _, _, h => by simp [runG] at h
  | _ :: _, _, 0, e, p, m, h => by
    simp only [runG, Prod.mk.injEq, Sum.inr.injEq] at h
    obtain ⟨⟨h1, h2⟩, _⟩ := h
    exact ⟨by omega, by omega, .inl h2.symm⟩
  | t :: l, st, f + 1, e, p, m, h => by
    simp only [runG] at h
    cases hs : stepG get t st with
    | inl s' =>
      rw [hs] at h
      obtain ⟨a, b, c⟩ := runG_bnd get l s' f h
      refine ⟨a, b, ?_⟩
      rcases c with c | ⟨x, hx, c⟩
      · exact .inl c
      · exact .inr ⟨x, List.mem_cons_of_mem _ hx, c⟩
    | inr ep =>
      rw [hs] at h
      simp only [Prod.mk.injEq, Sum.inr.injEq] at h
      rw [h.1] at hs
      obtain ⟨a, b, c⟩ := stepG_bnd hs
      refine ⟨a, b, ?_⟩
      rcases c with c | c
      · exact .inl c
      · exact .inr ⟨t, List.mem_cons_self .., c⟩
theorem ofG_bnd (get : ByteArray → Option V) (l : List TM) (f : Nat) : 0 ≤ (ofG get l f).2.2.1 ∧ (ofG get l f).2.2.1 ≤ 1000 ∧ ((ofG get l f).2.2.2 = [] ∨ ∃ t ∈ l, (ofG get l f).2.2.2 = [t.nm]) := by
  unfold ofG
  split
  · have h := check_bnd l
    exact ⟨h.1, h.2, .inl rfl⟩
  · cases hr : runG get l [] f with
    | mk x m =>
      cases x with
      | inl st => exact ⟨Int.le_refl _, by show (0 : Int) ≤ 1000; decide, .inl rfl⟩
      | inr ep =>
        obtain ⟨e, p⟩ := ep
        exact runG_bnd get l [] f hr
theorem places_er (c : Int) (p : List ByteArray) (h : p.length ≤ 1) : (placesO (erOf c p)).length ≤ 1 := by
  unfold erOf
  split
  · exact Nat.zero_le _
  · exact h
theorem text_er (c : Int) (p : List ByteArray) (h0 : 0 ≤ c) (h1 : c ≤ 1000) (h : p = [] ∨ ∃ nm : ByteArray, nm.size ≤ 100 ∧ p = [nm]) : (textO (erOf c p)).length ≤ 281474976710656 := by
  unfold erOf
  split
  · exact Nat.zero_le _
  · show (textE (End.num c) p).length ≤ _
    rw [text_pre, List.length_append]
    have hw : (whatOf (End.num c)).length ≤ 2147483656 := by
      have := itoa_le c (by omega) (by omega)
      show ([101, 114, 114, 111, 114, 32] ++ Lib.itoa c).length ≤ _
      rw [List.length_append]
      simp only [List.length_cons, List.length_nil]
      omega
    have hp : (pre p p.length).length ≤ 102 := by
      rcases h with rfl | ⟨nm, hs, rfl⟩
      · exact Nat.zero_le _
      · have e : pre [nm] [nm].length = nm.data.toList ++ [58, 32] := by simp [pre]
        rw [e, List.length_append]
        have hz : nm.data.toList.length = nm.size := Array.length_toList
        simp only [List.length_cons, List.length_nil]
        omega
    omega
/-- The text of an error of an expression. -/
theorem textE_from {c : Int} {p : List ByteArray} {u : Value} {w : World} (h : ErrO w (erOf c p) u) (hG : Glob w) (h0 : 0 ≤ c) (h1 : c ≤ 1000) (hp : p = [] ∨ ∃ nm : ByteArray, nm.size ≤ 100 ∧ p = [nm]) (W : World) (hb : Below w.heap.size w W) :
    Calls Tryz.prog 30 #[u] W fun r w' => r = .returned (.string ⟨(textO (erOf c p)).toArray⟩) ∧ Below w.heap.size w w' := by
  have hl : p.length ≤ 1 := by
    rcases hp with rfl | ⟨nm, _, rfl⟩
    · exact Nat.zero_le _
    · exact Nat.le_refl _
  refine (textO_any _ u W (h.below hb) (Nat.le_trans (places_er c p hl) (show 1 ≤ 1000000 by omega)) (hG.below hb hG.big) (by rw [codeO_er]; omega) (by rw [codeO_er]; omega) (text_er c p h0 h1 hp)).mono ?_
  rintro r w' ⟨rfl, h2⟩
  exact ⟨rfl, hb.trans (h2.mono hb.size)⟩
end Go.Proofs.YtidomoibhjgkjaaGreatDoor

/-
  EvalOf: what any terms come to with any variables and fuel, what fuel is left, or what is wrong, and of which variable.
-/
namespace Go.Proofs.YtidomoibhjgkjaaGreatDoor
open Go.RowKit

theorem trailE_from {c : Int} {p : List ByteArray} {u : Value} {w : World} (h : ErrO w (erOf c p) u) (hc : c = 0 → p = []) (hG : GlobW w) (hp : p.length ≤ 1000) (W : World) (hb : Below w.heap.size w W) :
    Calls Tryz.prog 15 #[u] W fun r w' => ∃ A d, r = .returned (.slice A p.length d) ∧ RowS w' 0 w'.heap.size A p ∧ Below w.heap.size w w' := by
  have hpl : placesO (erOf c p) = p := by
    unfold erOf
    split
    · next h0 => rw [hc h0]; rfl
    · rfl
  have ht := trailO_any _ u W (h.below hb) (by rw [hpl]; omega) (hG.below hb hG.big)
  rw [hpl] at ht
  refine ht.mono ?_
  rintro r w' ⟨sv, rfl, how, hb2⟩
  obtain ⟨A, d, rfl, _, _, _, hrow⟩ := RowS.own how
  exact ⟨A, d, rfl, hrow.wide (Nat.zero_le _) (Nat.le_refl _), hb.trans (hb2.mono hb.size)⟩
theorem runG_ok (get : ByteArray → Option V) (l : List TM) (f : Nat) : (ofG get l f).2.2.1 = 0 → (ofG get l f).2.2.2 = [] := by
  unfold ofG
  split
  · exact fun _ => rfl
  · cases hr : runG get l [] f with
    | mk x m =>
      cases x with
      | inl st => exact fun _ => rfl
      | inr ep =>
        obtain ⟨e, p⟩ := ep
        exact fun h => absurd h (run_nz get l [] f hr)

namespace evalOf
set_option maxRecDepth 100000 in
set_option maxHeartbeats 8000000 in
theorem walkG (l : List TM) (A : Option Addr) (c : Nat) (hl : l.length ≤ maxLen) (hn : ∀ x ∈ l, TermIn x) (vs : List VN) (A2 : Option Addr) (c2 : Nat) (hl2 : vs.length ≤ maxLen) (hn2 : ∀ x ∈ vs, VarIn x) (hc2 : vs.length ≤ c2) (hm2 : c2 ≤ maxLen) (hz2 : A2 = none → c2 = 0)
    (fuel : Int) (hf : -9223372036854775808 ≤ fuel ∧ fuel ≤ 9223372036854775807) (w : World) (hr : RowT w 0 w.heap.size A l) (hr2 : RowN w 0 w.heap.size A2 vs) (hG : GlobW w) :
    Calls Tryz.prog 3 #[.slice A l.length c, .slice A2 vs.length c2, .int .i64 fuel] w fun r w' => r = .returned (.bool true) ∧ Below w.heap.size w w' := by
  have hM : maxLen = 9223372036854775807 := by unfold maxLen; rfl
  have HLv := Lib.hid (fun W (hb : Below w.heap.size w W) => live6_any W (hG.below hb hG.big))
  have HF1 := Lib.hid (fun W (hb : Below w.heap.size w W) => few6_any l A c vs A2 c2 W (by rw [← hM]; exact hl) (fun x hx => by rw [← hM]; exact ⟨(hn x hx).2, (hn x hx).1.2.2⟩) ((hr.below hb (Nat.le_refl _)).wide (Nat.le_refl _) hb.size) (by rw [← hM]; exact hl2) (fun x hx => by rw [← hM]; exact ⟨(hn2 x hx).1, (hn2 x hx).2.2.2⟩) ((hr2.below hb (Nat.le_refl _)).wide (Nat.le_refl _) hb.size))
  have B0 := Lib.hid (Below.refl w.heap.size w)
  obtain ⟨f1, hf1⟩ : ∃ f, few6 l vs = f := ⟨_, rfl⟩
  rw [hf1] at HF1
  have HT := Lib.hid (fun (e1 : f1 = true) => (⟨few_terms (by rw [hf1]; exact e1) hn hr, few_vars (by rw [hf1]; exact e1) hn2 hc2 hm2 hz2 hr2⟩ : TermsOk w l A ∧ VarsOk w vs A2 c2))
  have HG := Lib.hid hG
  clear hl hn hl2 hn2 hc2 hm2 hz2 hr hr2 hG hf1 hM
  go_enter Tryz.func3, Tryz.ntmps3
  go_wp2_with fail
  refine (HLv.out _ B0.out).mono ?_
  rintro r w1 ⟨rfl, hb1⟩
  have HB1 := Lib.hid hb1
  clear hb1
  dsimp only
  go_wp2_with fail
  refine (HF1.out _ HB1.out).mono ?_
  rintro r w2 ⟨rfl, hb2⟩
  have HB2 := Lib.hid (HB1.out.trans (hb2.mono HB1.out.size))
  clear hb2 HB1
  dsimp only
  cases f1
  · go_wp2_with fail
    refine (HLv.out _ HB2.out).mono ?_
    rintro r w3 ⟨rfl, hb3⟩
    have HB3 := Lib.hid (HB2.out.trans (hb3.mono HB2.out.size))
    clear hb3
    dsimp only
    go_wp2
    go_ret
    exact ⟨rfl, HB3.out⟩
  have ht := HT.out (by simp)
  obtain ⟨X, hX⟩ : ∃ X, ofG (getL vs) l fuel.toNat = X := ⟨_, rfl⟩
  have hbnd := ofG_bnd (getL vs) l fuel.toNat
  have hok0 := runG_ok (getL vs) l fuel.toNat
  have hRf := fun W (hW : Below w.heap.size w W) => refOf_any l A c vs A2 c2 fuel W (ht.1.below hW) (ht.2.below hW) hf.2 hf.1
  rw [hX] at hbnd hok0
  simp only [hX] at hRf
  obtain ⟨⟨k, n, t⟩, xn, xc, xp⟩ := X
  simp only at hbnd hok0
  have HO := Lib.hid (fun W (hW : Below w.heap.size w W) => gOfG l A c vs A2 c2 fuel W (ht.1.below hW) (ht.2.below hW) hf.2 hf.1 (HG.out.below hW HG.out.big) rfl hX)
  have HRf : Hid (∀ W, Below w.heap.size w W → Calls Tryz.prog 12 #[.slice A l.length c, .slice A2 vs.length c2, .int .i64 fuel] W fun r w' => ∃ B d, r = .returned (.tuple #[.agg #[.int .i64 k, .int .i64 n, .string t], .int .i64 (xn : Int), .agg #[.bool (!(xc == 0)), .slice B xp.length d, .int .i64 xc, .bool false, .string ⟨#[]⟩, .string ⟨#[]⟩]]) ∧ RowS w' W.heap.size w'.heap.size B xp ∧ Below W.heap.size W w') := Lib.hid (fun W hW => by
    refine (hRf W hW).mono ?_
    rintro r w' ⟨k', n', t', B, d, rfl, hx, hrow, hb⟩
    injection hx with a1 a2 a3
    subst a1 a2 a3
    exact ⟨B, d, rfl, hrow, hb⟩)
  have hxp : xp.length ≤ 1 := by
    rcases hbnd.2.2 with h | ⟨t, _, h⟩ <;> rw [h] <;> simp
  have HXP := Lib.hid hxp
  have HZ := Lib.hid hok0
  have q : ∀ w, (Op.equalIn 10000 27 (.agg #[.int .i64 k, .int .i64 n, .string t]) (.agg #[.int .i64 k, .int .i64 n, .string t])).run Tryz.prog w = .ok true w := fun w => by rw [eq_in, eqV_self]
  clear ht HT hX hbnd hok0 hRf hxp HLv HF1 B0 hf
  go_wp2_with fail
  refine (HO.out _ HB2.out).mono ?_
  rintro r w3 ⟨u, rfl, hb3, hu⟩
  dsimp only
  have hb4 := box_below w3 #[.int .i64 k, .int .i64 n, .string t] 27
  have hx := Boxed.new w3 k n t
  have hbb := hb3.trans (hb4.mono hb3.size)
  have hB := HB2.out.trans (hbb.mono HB2.out.size)
  have hU := hu.below hb4
  obtain ⟨w4, hw⟩ : ∃ y, w3.alloc (.cells #[.int .i64 k, .int .i64 n, .string t] 27) = y := ⟨_, rfl⟩
  obtain ⟨s1, hs⟩ : ∃ y, w3.heap.size = y := ⟨_, rfl⟩
  rw [hw] at hx hB hU
  rw [hs] at hx
  have HX1 := Lib.hid hx
  have HB4 := Lib.hid hB
  have HU4 := Lib.hid hU
  have HW := Lib.hid hw
  have HS := Lib.hid hs
  clear hb3 hb4 hx hbb hB hU hw hs hu HB2 HO
  go_upto_region 4 with fail
  rw [HW.out, HS.out]
  clear HW HS
  go_wp2_with fail
  refine (HRf.out _ HB4.out).mono ?_
  rintro r w5 ⟨B, d, rfl, hrow, hb5⟩
  dsimp only
  have hU5 := HU4.out.below hb5
  have hb6 := box_below w5 #[.int .i64 k, .int .i64 n, .string t] 27
  have hb7 := box_below (w5.alloc (.cells #[.int .i64 k, .int .i64 n, .string t] 27)) #[.bool (!(xc == 0)), .slice B xp.length d, .int .i64 xc, .bool false, .string ⟨#[]⟩, .string ⟨#[]⟩] 37
  have hy : ErrB ((w5.alloc (.cells #[.int .i64 k, .int .i64 n, .string t] 27)).alloc (.cells #[.bool (!(xc == 0)), .slice B xp.length d, .int .i64 xc, .bool false, .string ⟨#[]⟩, .string ⟨#[]⟩] 37)) (w5.heap.size + 1) (.bool (!(xc == 0))) (.slice B xp.length d) (.int .i64 xc) (.bool false) (.string ⟨#[]⟩) (.string ⟨#[]⟩) := heap2 w5 _ _
  have hv : Boxed ((w5.alloc (.cells #[.int .i64 k, .int .i64 n, .string t] 27)).alloc (.cells #[.bool (!(xc == 0)), .slice B xp.length d, .int .i64 xc, .bool false, .string ⟨#[]⟩, .string ⟨#[]⟩] 37)) w5.heap.size ⟨k, n, t⟩ := heap1 w5 _ _
  have hb57 := hb6.trans (hb7.mono hb6.size)
  have hx6 := (HX1.out.below hb5).below hb57
  have hU6 := hU5.below hb57
  have hrow6 := hrow.below hb57 (Nat.le_refl _)
  have hB6 := HB4.out.trans ((hb5.trans (hb57.mono hb5.size)).mono HB4.out.size)
  have hsz : w5.heap.size + 1 < ((w5.alloc (.cells #[.int .i64 k, .int .i64 n, .string t] 27)).alloc (.cells #[.bool (!(xc == 0)), .slice B xp.length d, .int .i64 xc, .bool false, .string ⟨#[]⟩, .string ⟨#[]⟩] 37)).heap.size := by simp
  obtain ⟨w6, hw⟩ : ∃ y, (w5.alloc (.cells #[.int .i64 k, .int .i64 n, .string t] 27)).alloc (.cells #[.bool (!(xc == 0)), .slice B xp.length d, .int .i64 xc, .bool false, .string ⟨#[]⟩, .string ⟨#[]⟩] 37) = y := ⟨_, rfl⟩
  obtain ⟨s2, hs⟩ : ∃ y, w5.heap.size = y := ⟨_, rfl⟩
  rw [hw] at hy hv hx6 hU6 hrow6 hB6 hsz
  rw [hs] at hy hv hrow6 hsz
  have HCl : Hid (∀ W, Below w6.heap.size w6 W → W.cell? ⟨s1, 0, none⟩ = some (.int .i64 k) ∧ W.cell? ⟨s1, 1, none⟩ = some (.int .i64 n) ∧ W.cell? ⟨s1, 2, none⟩ = some (.string t) ∧ W.cell? ⟨s2, 0, none⟩ = some (.int .i64 k) ∧ W.cell? ⟨s2, 1, none⟩ = some (.int .i64 n) ∧ W.cell? ⟨s2, 2, none⟩ = some (.string t) ∧ W.cell? ⟨s2 + 1, 0, none⟩ = some (.bool (!(xc == 0))) ∧ W.cell? ⟨s2 + 1, 1, none⟩ = some (.slice B xp.length d) ∧ W.cell? ⟨s2 + 1, 2, none⟩ = some (.int .i64 xc)) := Lib.hid (fun W hW => by
    obtain ⟨a0, a1, a2⟩ := (hx6.below hW).cells
    obtain ⟨b0, b1, b2⟩ := (hv.below hW).cells
    have e := hy.below hW hsz
    exact ⟨a0, a1, a2, b0, b1, b2, e.cell 0, e.cell 1, e.cell 2⟩)
  have HRw := Lib.hid (fun W (hW : Below w6.heap.size w6 W) => hrow6.below hW (Nat.le_of_lt (Nat.lt_trans (Nat.lt_succ_self _) hsz)))
  have HG6 := Lib.hid (HG.out.below hB6 HG.out.big)
  have HC := Lib.hid (codeE_from hU6 HG6.out)
  have HTr := Lib.hid (trailE_from hU6 HZ.out HG6.out (Nat.le_trans HXP.out (by decide)))
  have hu6 : (xc = 0 ∧ u = .nilIface) ∨ (xc ≠ 0 ∧ ∃ T y, u = .iface T y) := by
    by_cases h0 : xc = 0
    · subst h0
      exact .inl ⟨rfl, hU6.zero⟩
    · exact .inr ⟨h0, hU6.some' h0⟩
  have HB6 := Lib.hid hB6
  have HW := Lib.hid hw
  have HS := Lib.hid hs
  clear hU5 hb6 hb7 hy hv hb57 hx6 hU6 hrow6 hB6 hsz hrow hb5 hw hs HU4 HB4 HX1
  go_upto_region 5 with fail
  rw [HW.out, HS.out]
  clear HW HS
  obtain ⟨a0, a1, a2, b0, b1, b2, g0, g1, g2⟩ := HCl.out w6 (Below.refl _ _)
  have HSm := Lib.hid (fun (A3 : Option Addr) (c3 : Nat) (W : World) (h1 : RowS W 0 W.heap.size A3 xp) (hW : Below w6.heap.size w6 W) => (same_sameF A3 B xp.length xp.length c3 d 0 W.heap.size _ _ xp W rfl rfl h1 (HRw.out W hW) (by have := HXP.out; omega)).mono fun _ _ h => (⟨h.1, hW.trans (h.2.mono hW.size)⟩ : _ ∧ Below w6.heap.size w6 _))
  rcases hu6 with ⟨rfl, rfl⟩ | ⟨h0, T, y, rfl⟩
  · simp only [beq_self_eq_true, Bool.not_true] at g0 HCl
    have KEEP : Hid (∀ w', Below w6.heap.size w6 w' → (fun w' => w'.cell? ⟨s1, 0, none⟩ = some (.int .i64 k) ∧ w'.cell? ⟨s1, 1, none⟩ = some (.int .i64 n) ∧ w'.cell? ⟨s1, 2, none⟩ = some (.string t) ∧ w'.cell? ⟨s2, 0, none⟩ = some (.int .i64 k) ∧ w'.cell? ⟨s2, 1, none⟩ = some (.int .i64 n) ∧ w'.cell? ⟨s2, 2, none⟩ = some (.string t) ∧ w'.cell? ⟨s2 + 1, 0, none⟩ = some (.bool false) ∧ w'.cell? ⟨s2 + 1, 1, none⟩ = some (.slice B xp.length d) ∧ w'.cell? ⟨s2 + 1, 2, none⟩ = some (.int .i64 0) ∧ Below w6.heap.size w6 w') w') := Lib.hid (fun w' h => by
      obtain ⟨a, b, c, d, e, f, g, i, j⟩ := HCl.out w' h
      exact ⟨a, b, c, d, e, f, g, i, j, h⟩)
    dsimp only at KEEP
    go_region_held3 (fun w' => w'.cell? ⟨s1, 0, none⟩ = some (.int .i64 k) ∧ w'.cell? ⟨s1, 1, none⟩ = some (.int .i64 n) ∧ w'.cell? ⟨s1, 2, none⟩ = some (.string t) ∧ w'.cell? ⟨s2, 0, none⟩ = some (.int .i64 k) ∧ w'.cell? ⟨s2, 1, none⟩ = some (.int .i64 n) ∧ w'.cell? ⟨s2, 2, none⟩ = some (.string t) ∧ w'.cell? ⟨s2 + 1, 0, none⟩ = some (.bool false) ∧ w'.cell? ⟨s2 + 1, 1, none⟩ = some (.slice B xp.length d) ∧ w'.cell? ⟨s2 + 1, 2, none⟩ = some (.int .i64 0) ∧ Below w6.heap.size w6 w')
      (first | with_reducible exact KEEP.out _ hb6 | with_reducible exact KEEP.out _ (Below.refl _ _).drew)
      (first
        | (go_at_call 13; refine (HC.out _ (by go_split_ands; assumption)).mono ?_; rintro r w' ⟨rfl, hb6⟩)
        | (go_at_call 15; refine (HTr.out _ (by go_split_ands; assumption)).mono ?_; rintro r w' ⟨A3, c3, rfl, hr3, hb6⟩)
        | (go_at_call 14; refine (HSm.out _ _ _ hr3 (by go_split_ands; assumption)).mono ?_; rintro r w' ⟨rfl, hb6⟩))
    go_wp2_with fail
    go_ret
    exact ⟨rfl, HB6.out.trans (hb6.mono HB6.out.size)⟩
  · have e0 : (xc == 0) = false := by rw [beq_eq_false_iff_ne]; exact h0
    rw [e0] at HCl g0
    simp only [Bool.not_false] at HCl g0
    have KEEP : Hid (∀ w', Below w6.heap.size w6 w' → (fun w' => w'.cell? ⟨s1, 0, none⟩ = some (.int .i64 k) ∧ w'.cell? ⟨s1, 1, none⟩ = some (.int .i64 n) ∧ w'.cell? ⟨s1, 2, none⟩ = some (.string t) ∧ w'.cell? ⟨s2, 0, none⟩ = some (.int .i64 k) ∧ w'.cell? ⟨s2, 1, none⟩ = some (.int .i64 n) ∧ w'.cell? ⟨s2, 2, none⟩ = some (.string t) ∧ w'.cell? ⟨s2 + 1, 0, none⟩ = some (.bool true) ∧ w'.cell? ⟨s2 + 1, 1, none⟩ = some (.slice B xp.length d) ∧ w'.cell? ⟨s2 + 1, 2, none⟩ = some (.int .i64 xc) ∧ Below w6.heap.size w6 w') w') := Lib.hid (fun w' h => by
      obtain ⟨a, b, c, d, e, f, g, i, j⟩ := HCl.out w' h
      exact ⟨a, b, c, d, e, f, g, i, j, h⟩)
    dsimp only at KEEP
    go_region_held3 (fun w' => w'.cell? ⟨s1, 0, none⟩ = some (.int .i64 k) ∧ w'.cell? ⟨s1, 1, none⟩ = some (.int .i64 n) ∧ w'.cell? ⟨s1, 2, none⟩ = some (.string t) ∧ w'.cell? ⟨s2, 0, none⟩ = some (.int .i64 k) ∧ w'.cell? ⟨s2, 1, none⟩ = some (.int .i64 n) ∧ w'.cell? ⟨s2, 2, none⟩ = some (.string t) ∧ w'.cell? ⟨s2 + 1, 0, none⟩ = some (.bool true) ∧ w'.cell? ⟨s2 + 1, 1, none⟩ = some (.slice B xp.length d) ∧ w'.cell? ⟨s2 + 1, 2, none⟩ = some (.int .i64 xc) ∧ Below w6.heap.size w6 w')
      (first | with_reducible exact KEEP.out _ hb6 | with_reducible exact KEEP.out _ (Below.refl _ _).drew)
      (first
        | (go_at_call 13; refine (HC.out _ (by go_split_ands; assumption)).mono ?_; rintro r w' ⟨rfl, hb6⟩)
        | (go_at_call 15; refine (HTr.out _ (by go_split_ands; assumption)).mono ?_; rintro r w' ⟨A3, c3, rfl, hr3, hb6⟩)
        | (go_at_call 14; refine (HSm.out _ _ _ hr3 (by go_split_ands; assumption)).mono ?_; rintro r w' ⟨rfl, hb6⟩))
    go_wp2_with fail
    go_ret
    exact ⟨rfl, HB6.out.trans (hb6.mono HB6.out.size)⟩
end evalOf
end Go.Proofs.YtidomoibhjgkjaaGreatDoor
