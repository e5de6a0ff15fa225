/-
  How an error is made in the statements on package fault, and what the document says it is then, told over a world that lies behind another one; what a store leaves of an error, and of a row of texts.
-/
import Derived.Test.YtdlmnhpmdidkeaaDoorFShould
import Derived.Test.YtdlmnhpmdidkeaaDoorFLive
namespace Go.Proofs.YtdlmnhpmdidkeaaDoor
open Go.RowKit

theorem endM_some {ak : Bool} {x y : ByteArray} {k : Int} (h : ak = true ∨ k ≠ 0) : endM ak x y k ≠ End.nil := by
  unfold endM
  cases ak
  · rcases h with h | h
    · cases h
    · rw [if_neg (by decide), if_neg h]
      intro h; cases h
  · rw [if_pos rfl]
    intro h; cases h
theorem placesM_some {ak : Bool} {k : Int} {l : List ByteArray} (h : ak = true ∨ k ≠ 0) : placesM ak k l = l := by
  unfold placesM
  cases ak
  · rcases h with h | h
    · cases h
    · simp [h]
  · simp
theorem endM_none {x y : ByteArray} : endM false x y 0 = End.nil := by simp [endM]
theorem placesM_none {l : List ByteArray} : placesM false 0 l = [] := by simp [placesM]
theorem codeM_le {ak : Bool} {x y : ByteArray} {k : Int} (h0 : -2147483648 ≤ k) (h1 : k ≤ 2147483647) : -2147483648 ≤ codeOf (endM ak x y k) ∧ codeOf (endM ak x y k) ≤ 2147483647 := by
  unfold endM
  cases ak
  · by_cases hk : k = 0
    · simp [hk, End.nil, codeOf]
    · simp [hk, End.num, codeOf]; omega
  · simp [End.need, codeOf]

theorem should_some (ak : Bool) (x y : ByteArray) (k : Int) (A : Option Addr) (n c : Nat) (ps : List ByteArray) (lo hi : Nat) (w : World) (h : ak = true ∨ k ≠ 0) (h0 : -2147483648 ≤ k) (h1 : k ≤ 2147483647) (hn : n = ps.length) (hps : n ≤ 1000000) (hr : RowS w lo hi A ps) (hhi : hi ≤ w.heap.size) :
    Calls Tryd.prog 11 #[.agg #[.bool ak, .string x, .string y, .int .i32 k, .slice A n c]] w (RetV true ps (codeOf (endM ak x y k)) (needOf (endM ak x y k)).2.2 (needOf (endM ak x y k)).1 (needOf (endM ak x y k)).2.1 w) := by
  by_cases hk : k = 0
  · subst hk
    obtain rfl : ak = true := by simpa using h
    exact should_need0 x y A n c ps lo hi w hn hps hr hhi
  · cases ak
    · have e1 : endM false x y k = .num k := by simp [endM, hk]
      rw [e1]
      exact should_num x y k A n c ps lo hi w hk h0 h1 hn hps hr hhi
    · exact should_need x y k A n c ps lo hi w hk h0 h1 hn hps hr hhi

/-- A store into a block that is none of an error's. -/
theorem Err.set {w : World} {hi b o : Nat} {e : End} {vs : Array Value} {t : TypeId} {x : Value} (hb : w.heap[b]? = some (.cells vs t (0, 0))) (ht : t ≠ 51) : ∀ {ps : List ByteArray} {v : Value}, Err w hi e ps v → Err (w.setCell ⟨b, o, none⟩ x) hi e ps v
  | [], _, h => h
  | _ :: _, _, ⟨g, u, hv, hg, hc, hr⟩ => by
    refine ⟨g, u, hv, hg, ?_, hr.set hb ht⟩
    have hne : g ≠ b := by
      intro e
      subst e
      rw [hc] at hb
      injection hb with hb
      injection hb with _ h2
      exact ht h2.symm
    rw [World.setCell]
    simp only [Array.getElem?_modify]
    rw [if_neg (by intro h; exact hne h.symm)]
    exact hc

/-- What an error leaves at six stores into a block that is none of its own. -/
theorem Err.set6 {w : World} {hi b : Nat} {e : End} {a0 a1 a2 a3 a4 a5 : Value} {t : TypeId} {ps : List ByteArray} {v : Value} (hb : w.heap[b]? = some (.cells #[a0, a1, a2, a3, a4, a5] t (0, 0))) (ht : t ≠ 51) (h : Err w hi e ps v) (v0 v1 v2 v3 v4 v5 : Value) :
    Err ((((((w.setCell ⟨b, 0, none⟩ v0).setCell ⟨b, 1, none⟩ v1).setCell ⟨b, 2, none⟩ v2).setCell ⟨b, 3, none⟩ v3).setCell ⟨b, 4, none⟩ v4).setCell ⟨b, 5, none⟩ v5) hi e ps v := by
  have s : ∀ {w : World} {vs : Array Value} (o : Nat) (x : Value), w.heap[b]? = some (.cells vs t (0, 0)) → (w.setCell ⟨b, o, none⟩ x).heap[b]? = some (.cells (vs.setIfInBounds o x) t (0, 0)) := by
    intro w vs o x h
    simp [World.setCell, Array.getElem?_modify, h]
  have h0 := s 0 v0 hb
  have h1 := s 1 v1 h0
  have h2 := s 2 v2 h1
  have h3 := s 3 v3 h2
  have h4 := s 4 v4 h3
  exact ((((((h.set hb ht).set h0 ht).set h1 ht).set h2 ht).set h3 ht).set h4 ht)

/-- A store outside the blocks of a row. -/
theorem rowS_set' {w : World} {lo hi b o : Nat} {A : Option Addr} {l : List ByteArray} (h : RowS w lo hi A l) (hb : b < lo ∨ hi ≤ b) (v : Value) : RowS (w.setCell ⟨b, o, none⟩ v) lo hi A l := fun hn => by
  obtain ⟨g, q, e, h1, h2, hc⟩ := h hn
  exact ⟨g, q, e, h1, h2, fun j hj => (World.cell?_setCell_other _ _ _ _ (by intro h; injection h; omega)).trans (hc j hj)⟩
theorem rowS_set6 {w : World} {lo hi b : Nat} {A : Option Addr} {l : List ByteArray} (h : RowS w lo hi A l) (hb : b < lo ∨ hi ≤ b) (v0 v1 v2 v3 v4 v5 : Value) :
    RowS ((((((w.setCell ⟨b, 0, none⟩ v0).setCell ⟨b, 1, none⟩ v1).setCell ⟨b, 2, none⟩ v2).setCell ⟨b, 3, none⟩ v3).setCell ⟨b, 4, none⟩ v4).setCell ⟨b, 5, none⟩ v5) lo hi A l :=
  rowS_set' (rowS_set' (rowS_set' (rowS_set' (rowS_set' (rowS_set' h hb _) hb _) hb _) hb _) hb _) hb _
theorem below_set6 {w W : World} {B b : Nat} (h : Below B W w) (hb : B ≤ b) (v0 v1 v2 v3 v4 v5 : Value) :
    Below B W ((((((w.setCell ⟨b, 0, none⟩ v0).setCell ⟨b, 1, none⟩ v1).setCell ⟨b, 2, none⟩ v2).setCell ⟨b, 3, none⟩ v3).setCell ⟨b, 4, none⟩ v4).setCell ⟨b, 5, none⟩ v5) :=
  (((((h.setCell hb _).setCell hb _).setCell hb _).setCell hb _).setCell hb _).setCell hb _

/-- The five cells in which it lies how an error is made. -/
def MadeAt (w : World) (b : Nat) (ak : Bool) (x y : ByteArray) (k : Int) (A : Option Addr) (n c : Nat) : Prop := w.heap[b]? = some (.cells #[.bool ak, .string x, .string y, .int .i32 k, .slice A n c] 24 (0, 0))
theorem MadeAt.c0 {w : World} {b : Nat} {ak : Bool} {x y : ByteArray} {k : Int} {A : Option Addr} {n c : Nat} (h : MadeAt w b ak x y k A n c) : w.cell? ⟨b, 0, none⟩ = some (.bool ak) := cell_at h rfl
theorem MadeAt.c1 {w : World} {b : Nat} {ak : Bool} {x y : ByteArray} {k : Int} {A : Option Addr} {n c : Nat} (h : MadeAt w b ak x y k A n c) : w.cell? ⟨b, 1, none⟩ = some (.string x) := cell_at h rfl
theorem MadeAt.c2 {w : World} {b : Nat} {ak : Bool} {x y : ByteArray} {k : Int} {A : Option Addr} {n c : Nat} (h : MadeAt w b ak x y k A n c) : w.cell? ⟨b, 2, none⟩ = some (.string y) := cell_at h rfl
theorem MadeAt.c3 {w : World} {b : Nat} {ak : Bool} {x y : ByteArray} {k : Int} {A : Option Addr} {n c : Nat} (h : MadeAt w b ak x y k A n c) : w.cell? ⟨b, 3, none⟩ = some (.int .i32 k) := cell_at h rfl
theorem MadeAt.c4 {w : World} {b : Nat} {ak : Bool} {x y : ByteArray} {k : Int} {A : Option Addr} {n c : Nat} (h : MadeAt w b ak x y k A n c) : w.cell? ⟨b, 4, none⟩ = some (.slice A n c) := cell_at h rfl
theorem MadeAt.below {w w' : World} {B b : Nat} {ak : Bool} {x y : ByteArray} {k : Int} {A : Option Addr} {n c : Nat} (h : MadeAt w b ak x y k A n c) (hb : Below B w w') (hB : b < B) : MadeAt w' b ak x y k A n c := (hb.block _ hB).trans h
theorem MadeAt.lt {w : World} {b : Nat} {ak : Bool} {x y : ByteArray} {k : Int} {A : Option Addr} {n c : Nat} (h : MadeAt w b ak x y k A n c) : b < w.heap.size := (Array.getElem?_eq_some_iff.1 h).1
theorem MadeAt.new (w : World) (ak : Bool) (x y : ByteArray) (k : Int) (A : Option Addr) (n c : Nat) : MadeAt (w.alloc (.cells #[.bool ak, .string x, .string y, .int .i32 k, .slice A n c] 24)) w.heap.size ak x y k A n c := heap_alloc_new w _

/-- The document's answer in six cells of a block. -/
def ShouldAt (w : World) (b : Nat) (is : Bool) (A : Option Addr) (n c : Nat) (k : Int) (q : Bool) (x y : ByteArray) : Prop := w.heap[b]? = some (.cells #[.bool is, .slice A n c, .int .i64 k, .bool q, .string x, .string y] 33 (0, 0))
theorem ShouldAt.cells {w : World} {b : Nat} {is : Bool} {A : Option Addr} {n c : Nat} {k : Int} {q : Bool} {x y : ByteArray} (h : ShouldAt w b is A n c k q x y) :
    w.cell? ⟨b, 0, none⟩ = some (.bool is) ∧ w.cell? ⟨b, 1, none⟩ = some (.slice A n c) ∧ w.cell? ⟨b, 2, none⟩ = some (.int .i64 k) ∧ w.cell? ⟨b, 3, none⟩ = some (.bool q) ∧ w.cell? ⟨b, 4, none⟩ = some (.string x) ∧ w.cell? ⟨b, 5, none⟩ = some (.string y) :=
  ⟨cell_at h rfl, cell_at h rfl, cell_at h rfl, cell_at h rfl, cell_at h rfl, cell_at h rfl⟩
theorem ShouldAt.below {w w' : World} {B b : Nat} {is : Bool} {A : Option Addr} {n c : Nat} {k : Int} {q : Bool} {x y : ByteArray} (h : ShouldAt w b is A n c k q x y) (hb : Below B w w') (hB : b < B) : ShouldAt w' b is A n c k q x y := (hb.block _ hB).trans h
theorem ShouldAt.lt {w : World} {b : Nat} {is : Bool} {A : Option Addr} {n c : Nat} {k : Int} {q : Bool} {x y : ByteArray} (h : ShouldAt w b is A n c k q x y) : b < w.heap.size := (Array.getElem?_eq_some_iff.1 h).1
theorem ShouldAt.new (w : World) (is : Bool) (A : Option Addr) (n c : Nat) (k : Int) (q : Bool) (x y : ByteArray) : ShouldAt (w.alloc (.cells #[.bool is, .slice A n c, .int .i64 k, .bool q, .string x, .string y] 33)) w.heap.size is A n c k q x y := heap_alloc_new w _
theorem ShouldAt.frozen {w : World} {b : Nat} {is : Bool} {A : Option Addr} {n c : Nat} {k : Int} {q : Bool} {x y : ByteArray} (h : ShouldAt w b is A n c k q x y) (o : Nat) : w.frozen? ⟨b, o, none⟩ = false := frozen_at h

/-- An error is made, in a world behind W. -/
def MakeW (e : End) (l : List ByteArray) (W wx : World) (r : Ending) (w' : World) : Prop := ∃ T y, r = .returned (.iface T y) ∧ Err w' w'.heap.size e l (.iface T y) ∧ Below wx.heap.size wx w' ∧ Below W.heap.size W w'
theorem make_from {W wx : World} (ak : Bool) (x y : ByteArray) (k : Int) (A : Option Addr) (c : Nat) (l : List ByteArray) (hk : ak = true ∨ k ≠ 0) (h0 : -2147483648 ≤ k) (h1 : k ≤ 2147483647) (hm : l.length ≤ maxLen) (hr : RowS W 0 W.heap.size A l) (hb : Below W.heap.size W wx) :
    Calls Tryd.prog 10 #[.agg #[.bool ak, .string x, .string y, .int .i32 k, .slice A l.length c]] wx (MakeW (endM ak x y k) l W wx) := by
  have h := make_any ak x y k A l.length c l 0 W.heap.size wx h0 h1 rfl hm (hr.below hb (Nat.le_refl _)) hb.size
  rw [placesM_some hk] at h
  refine h.mono ?_
  rintro r w' ⟨v, rfl, he, hb'⟩
  obtain ⟨T, y, rfl⟩ := he.iface (.inr (endM_some hk))
  exact ⟨T, y, rfl, he, hb', hb.trans (hb'.mono hb.size)⟩
/-- What the document says an error is, in a world behind W. -/
def ShouldW (e : End) (l : List ByteArray) (W wx : World) (r : Ending) (w' : World) : Prop :=
  ∃ A c, r = .returned (.agg #[.bool true, .slice A l.length c, .int .i64 (codeOf e), .bool (needOf e).2.2, .string (needOf e).1, .string (needOf e).2.1]) ∧ RowS w' wx.heap.size w'.heap.size A l ∧ Below wx.heap.size wx w' ∧ Below W.heap.size W w'
theorem should_from {W wx : World} (ak : Bool) (x y : ByteArray) (k : Int) (A : Option Addr) (c : Nat) (l : List ByteArray) (hk : ak = true ∨ k ≠ 0) (h0 : -2147483648 ≤ k) (h1 : k ≤ 2147483647) (hf : fewB l = true) (hr : RowS W 0 W.heap.size A l) (hb : Below W.heap.size W wx) :
    Calls Tryd.prog 11 #[.agg #[.bool ak, .string x, .string y, .int .i32 k, .slice A l.length c]] wx (ShouldW (endM ak x y k) l W wx) := by
  have hl := (fewB_yes hf).2
  refine (should_some ak x y k A l.length c l 0 W.heap.size wx hk h0 h1 rfl (by omega) (hr.below hb (Nat.le_refl _)) hb.size).mono ?_
  rintro r w' ⟨A', c', rfl, _, hr', hb'⟩
  exact ⟨A', c', rfl, hr', hb', hb.trans (hb'.mono hb.size)⟩

/-! ### the calls on an error that is one, in a world behind W -/
theorem from_of {P : Program} {f : FuncId} {args : Array Value} {W wx : World} {v : Value} (hb : Below W.heap.size W wx) (h : Calls P f args wx fun r w' => r = .returned v ∧ Below wx.heap.size wx w') : Calls P f args wx fun r w' => r = .returned v ∧ Below W.heap.size W w' :=
  h.mono fun _ _ ⟨a, b⟩ => ⟨a, hb.trans (b.mono hb.size)⟩
theorem code_from {W : World} {e : End} {l : List ByteArray} {v : Value} (hE : Err W W.heap.size e l v) (hs : some? e l) (hG : Glob W) (wx : World) (hb : Below W.heap.size W wx) :
    Calls Tryd.prog 13 #[v] wx fun r w' => r = .returned (.int .i64 (codeOf e)) ∧ Below W.heap.size W w' :=
  from_of hb (code_any l v e W.heap.size wx (hE.below hb (Nat.le_refl _)) hs hb.size (hG.under hb))
theorem is_from {W : World} {e : End} {l : List ByteArray} {v : Value} (c : Int) (hE : Err W W.heap.size e l v) (hs : some? e l) (hG : Glob W) (wx : World) (hb : Below W.heap.size W wx) :
    Calls Tryd.prog 18 #[v, .int .i64 c] wx fun r w' => r = .returned (.bool (codeOf e == c)) ∧ Below W.heap.size W w' :=
  from_of hb (is_any' l v e W.heap.size c wx (hE.below hb (Nat.le_refl _)) hs hb.size (hG.under hb))
theorem textOf_le {e : End} {l : List ByteArray} (hf : fewB l = true) (h0 : -2147483648 ≤ codeOf e) (h1 : codeOf e ≤ 2147483647) : (textOf e l).length ≤ 3000000000 := by
  rw [text_pre, List.length_append]
  have h := pre_few hf
  have hw : (whatOf e).length ≤ 2147483656 := by
    rcases e with _ | n | ⟨a, b⟩
    · have := itoa_le 20 (by omega) (by omega)
      simp only [whatOf, List.length_append, List.length_cons, List.length_nil]
      omega
    · have := itoa_le n h0 h1
      simp only [whatOf, List.length_append, List.length_cons, List.length_nil]
      omega
    · simp [whatOf]
  omega
theorem text_from {W : World} {e : End} {l : List ByteArray} {v : Value} (hE : Err W W.heap.size e l v) (hs : some? e l) (hG : Glob W) (hf : fewB l = true) (h0 : -2147483648 ≤ codeOf e) (h1 : codeOf e ≤ 2147483647) (wx : World) (hb : Below W.heap.size W wx) :
    Calls Tryd.prog 16 #[v] wx fun r w' => r = .returned (.string ⟨(textOf e l).toArray⟩) ∧ Below W.heap.size W w' :=
  from_of hb (text_any l v e W.heap.size wx (hE.below hb (Nat.le_refl _)) hs hb.size (by have := (fewB_yes hf).2; omega) (hG.under hb) h0 h1 (by have := textOf_le (e := e) hf h0 h1; omega))
theorem refText_from {W : World} {e : End} {l : List ByteArray} {A : Option Addr} (c : Nat) (x y : ByteArray) (hr : RowS W 0 W.heap.size A l) (hf : fewB l = true) (h0 : -2147483648 ≤ codeOf e) (h1 : codeOf e ≤ 2147483647) (wx : World) (hb : Below W.heap.size W wx) :
    Calls Tryd.prog 17 #[.agg #[.bool true, .slice A l.length c, .int .i64 (codeOf e), .bool (needOf e).2.2, .string x, .string y]] wx fun r w' => r = .returned (.string ⟨(textOf e l).toArray⟩) ∧ Below W.heap.size W w' :=
  from_of hb (refText_any e l A l.length c x y 0 W.heap.size wx rfl (hr.below hb (Nat.le_refl _)) hb.size (by have := (fewB_yes hf).2; omega) (pre_few hf) h0 h1)
/-- The places of an error, in a world behind W. -/
def TrailW (l : List ByteArray) (W : World) (r : Ending) (w' : World) : Prop := ∃ A c, r = .returned (.slice A l.length c) ∧ RowS w' 0 w'.heap.size A l ∧ Below W.heap.size W w'
theorem trail_from {W : World} {e : End} {l : List ByteArray} {v : Value} (hE : Err W W.heap.size e l v) (hG : Glob W) (hf : fewB l = true) (wx : World) (hb : Below W.heap.size W wx) :
    Calls Tryd.prog 15 #[v] wx (TrailW l W) := by
  refine (trail_any l v e W.heap.size wx (hE.below hb (Nat.le_refl _)) hb.size (by have := (fewB_yes hf).2; omega) (hG.under hb)).mono ?_
  rintro r w' ⟨sv, rfl, ho, hb'⟩
  obtain ⟨A, c, rfl, _, _, _, hr⟩ := RowS.own ho
  exact ⟨A, c, rfl, hr.wide (Nat.zero_le _) (Nat.le_refl _), hb.trans (hb'.mono hb.size)⟩
theorem same_from {W : World} {l : List ByteArray} {A1 A2 : Option Addr} (c1 c2 : Nat) (hr : RowS W 0 W.heap.size A2 l) (hf : fewB l = true) (wx : World) (h1 : RowS wx 0 wx.heap.size A1 l) (hb : Below W.heap.size W wx) :
    Calls Tryd.prog 14 #[.slice A1 l.length c1, .slice A2 l.length c2] wx fun r w' => r = .returned (.bool true) ∧ Below W.heap.size W w' :=
  from_of hb (same_same A1 A2 l.length l.length c1 c2 0 wx.heap.size 0 W.heap.size l wx rfl rfl h1 (hr.below hb (Nat.le_refl _)) (by have := (fewB_yes hf).2; omega))

/-! ### the calls on nothing, in a world behind W -/
def MakeN (W wx : World) (r : Ending) (w' : World) : Prop := r = .returned .nilIface ∧ Below wx.heap.size wx w' ∧ Below W.heap.size W w'
theorem make0_from {W wx : World} (x y : ByteArray) (A : Option Addr) (c : Nat) (l : List ByteArray) (hm : l.length ≤ maxLen) (hr : RowS W 0 W.heap.size A l) (hb : Below W.heap.size W wx) :
    Calls Tryd.prog 10 #[.agg #[.bool false, .string x, .string y, .int .i32 0, .slice A l.length c]] wx (MakeN W wx) := by
  refine (make_zero x y A l.length c l 0 W.heap.size wx rfl hm (hr.below hb (Nat.le_refl _)) hb.size).mono ?_
  rintro r w' ⟨v, rfl, he, hb'⟩
  obtain rfl : v = .nilIface := he
  exact ⟨rfl, hb', hb.trans (hb'.mono hb.size)⟩
def ShouldN (W wx : World) (r : Ending) (w' : World) : Prop :=
  ∃ A c, r = .returned (.agg #[.bool false, .slice A 0 c, .int .i64 0, .bool false, .string ⟨#[]⟩, .string ⟨#[]⟩]) ∧ Below wx.heap.size wx w' ∧ Below W.heap.size W w'
theorem should0_from {W wx : World} (x y : ByteArray) (A : Option Addr) (c : Nat) (l : List ByteArray) (hf : fewB l = true) (hr : RowS W 0 W.heap.size A l) (hb : Below W.heap.size W wx) :
    Calls Tryd.prog 11 #[.agg #[.bool false, .string x, .string y, .int .i32 0, .slice A l.length c]] wx (ShouldN W wx) := by
  have hl := (fewB_yes hf).2
  refine (should_zero x y A l.length c l 0 W.heap.size wx rfl (by omega) (hr.below hb (Nat.le_refl _)) hb.size).mono ?_
  rintro r w' ⟨A', c', rfl, _, _, hb'⟩
  exact ⟨A', c', rfl, hb', hb.trans (hb'.mono hb.size)⟩
theorem code0_from {W : World} (wx : World) (hb : Below W.heap.size W wx) : Calls Tryd.prog 13 #[.nilIface] wx fun r w' => r = .returned (.int .i64 0) ∧ Below W.heap.size W w' := from_of hb (code_none wx)
theorem is0_from {W : World} (c : Int) (wx : World) (hb : Below W.heap.size W wx) : Calls Tryd.prog 18 #[.nilIface, .int .i64 c] wx fun r w' => r = .returned (.bool (0 == c)) ∧ Below W.heap.size W w' := from_of hb (is_none c wx)
theorem text0_from {W : World} (wx : World) (hb : Below W.heap.size W wx) : Calls Tryd.prog 16 #[.nilIface] wx fun r w' => r = .returned (.string ⟨#[]⟩) ∧ Below W.heap.size W w' :=
  (text_none wx).mono fun _ _ ⟨a, b⟩ => ⟨a, b ▸ hb⟩
theorem refText0_from {W : World} (A : Option Addr) (n c : Nat) (k : Int) (q : Bool) (x y : ByteArray) (wx : World) (hb : Below W.heap.size W wx) :
    Calls Tryd.prog 17 #[.agg #[.bool false, .slice A n c, .int .i64 k, .bool q, .string x, .string y]] wx fun r w' => r = .returned (.string ⟨#[]⟩) ∧ Below W.heap.size W w' := from_of hb (refText_none A n c k q x y wx)
theorem trail0_from {W : World} (hG : Glob W) (wx : World) (hb : Below W.heap.size W wx) : Calls Tryd.prog 15 #[.nilIface] wx (TrailW [] W) :=
  trail_from (e := End.nil) (l := []) rfl hG (by decide) wx hb
theorem same0_from {W : World} {A1 A2 : Option Addr} (c1 c2 : Nat) (wx : World) (hb : Below W.heap.size W wx) :
    Calls Tryd.prog 14 #[.slice A1 0 c1, .slice A2 0 c2] wx fun r w' => r = .returned (.bool true) ∧ Below W.heap.size W w' :=
  from_of hb (same_same A1 A2 0 0 c1 c2 0 0 0 0 [] wx rfl rfl (fun h => absurd h (by simp)) (fun h => absurd h (by simp)) (by simp))
theorem needed_nil (w : World) (hG : Glob w) : Calls Tryd.prog 12 #[.nilIface] w fun r w' => r = .returned (.tuple #[.agg #[.string ⟨#[]⟩, .string ⟨#[]⟩], .bool false]) ∧ Below w.heap.size w w' :=
  needed_any [] .nilIface End.nil _ w rfl (Nat.le_refl _) hG
end Go.Proofs.YtdlmnhpmdidkeaaDoor
