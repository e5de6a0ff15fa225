/-
  The document's own answers on errors (their places, number and need, plainly): Of, Ask, Wrap, Same.
-/
import Derived.Test.YtdlmnhpmdidkeaaDoorFMake
import Derived.BigQuiet
import Derived.Deep.QuietTactic
namespace Go.Proofs.YtdlmnhpmdidkeaaDoor
open Go.RowKit

/-- An error as the document's answer tells it. -/
def rv (is : Bool) (A : Option Addr) (n c : Nat) (k : Int) (q : Bool) (x y : ByteArray) : Value := .agg #[.bool is, .slice A n c, .int .i64 k, .bool q, .string x, .string y]

theorem refOf_zero (w : World) : Calls Tryd.prog 25 #[.int .i64 0] w fun r w' => r = .returned (.agg #[.bool false, .slice none 0 0, .int .i64 0, .bool false, .string ⟨#[]⟩, .string ⟨#[]⟩]) ∧ Below w.heap.size w w' := by
  go_enter Tryd.func25, Tryd.ntmps25
  go_wp2
  exact bodyPost_ret (v := .agg #[.bool false, .slice none 0 0, .int .i64 0, .bool false, .string ⟨#[]⟩, .string ⟨#[]⟩]) (by simp [results, Tryd.results25, go_sem]) rfl ⟨rfl, (Below.refl _ w).alloc (Nat.le_refl _) _⟩
theorem refOf_num (n : Int) (w : World) (hn : n ≠ 0) : Calls Tryd.prog 25 #[.int .i64 n] w fun r w' => r = .returned (.agg #[.bool true, .slice none 0 0, .int .i64 n, .bool false, .string ⟨#[]⟩, .string ⟨#[]⟩]) ∧ Below w.heap.size w w' := by
  have h : (n != 0) = true := by simpa using hn
  clear hn
  go_enter Tryd.func25, Tryd.ntmps25
  go_wp2
  exact bodyPost_ret (v := .agg #[.bool true, .slice none 0 0, .int .i64 n, .bool false, .string ⟨#[]⟩, .string ⟨#[]⟩]) (by simp [results, Tryd.results25, go_sem]) rfl ⟨rfl, (Below.refl _ w).alloc (Nat.le_refl _) _⟩
theorem refAsk_any (a b : ByteArray) (w : World) : Calls Tryd.prog 26 #[.string a, .string b] w fun r w' => r = .returned (.agg #[.bool true, .slice none 0 0, .int .i64 20, .bool true, .string a, .string b]) ∧ Below w.heap.size w w' := by
  go_enter Tryd.func26, Tryd.ntmps26
  go_wp2
  exact bodyPost_ret (v := .agg #[.bool true, .slice none 0 0, .int .i64 20, .bool true, .string a, .string b]) (by simp [results, Tryd.results26, go_sem]) rfl ⟨rfl, (Below.refl _ w).alloc (Nat.le_refl _) _⟩

theorem refWrap_none (p : ByteArray) (A : Option Addr) (n c : Nat) (k : Int) (q : Bool) (x y : ByteArray) (w : World) :
    Calls Tryd.prog 27 #[.string p, .agg #[.bool false, .slice A n c, .int .i64 k, .bool q, .string x, .string y]] w fun r w' => r = .returned (.agg #[.bool false, .slice A n c, .int .i64 k, .bool q, .string x, .string y]) ∧ Below w.heap.size w w' := by
  go_enter Tryd.func27, Tryd.ntmps27
  go_wp2
  exact bodyPost_ret (v := .agg #[.bool false, .slice A n c, .int .i64 k, .bool q, .string x, .string y]) (by simp [results, Tryd.results27, go_sem]) rfl ⟨rfl, ((Below.refl _ w).alloc (Nat.le_refl _) _).alloc (by simp) _⟩

/-- What Wrap of the document's answers makes of one that is an error. -/
def RetR (l : List ByteArray) (k : Int) (q : Bool) (x y : ByteArray) (w : World) (r : Ending) (w' : World) : Prop :=
  ∃ A c, r = .returned (.agg #[.bool true, .slice A l.length c, .int .i64 k, .bool q, .string x, .string y]) ∧ l.length ≤ c ∧ (A = none → c = 0) ∧ RowS w' w.heap.size w'.heap.size A l ∧ Below w.heap.size w w'

set_option maxRecDepth 100000 in
set_option maxHeartbeats 1000000 in
theorem refWrap_any (p : ByteArray) (ps : List ByteArray) (A : Option Addr) (n c : Nat) (k : Int) (q : Bool) (x y : ByteArray) (lo hi : Nat) (w : World) (hn : n = ps.length) (hnil : A = none → c = 0) (hr : RowS w lo hi A ps) (hhi : hi ≤ w.heap.size) (hps : ps.length ≤ 1000000) :
    Calls Tryd.prog 27 #[.string p, .agg #[.bool true, .slice A n c, .int .i64 k, .bool q, .string x, .string y]] w (RetR (p :: ps) k q x y w) := by
  obtain ⟨i0, hi0, hz0, hz1, hz2⟩ := infoStr
  have I0 := Lib.hid hi0
  have I1 := Lib.hid hz0
  have I2 := Lib.hid hz1
  have I3 := Lib.hid hz2
  have HN := Lib.hid hn
  have HNIL := Lib.hid hnil
  have HR := Lib.hid (hr.below ((((Below.refl _ w).alloc (Nat.le_refl _) (.cells #[.bool true, .slice A n c, .int .i64 k, .bool q, .string x, .string y] 33)).alloc (by simp) (.cells #[.bool false, .slice none 0 0, .int .i64 0, .bool false, .string ⟨#[]⟩, .string ⟨#[]⟩] 33)).alloc (by simp; omega) (.cells #[.string p] 9)) hhi)
  have HO := Lib.hid (show (((w.alloc (.cells #[.bool true, .slice A n c, .int .i64 k, .bool q, .string x, .string y] 33)).alloc (.cells #[.bool false, .slice none 0 0, .int .i64 0, .bool false, .string ⟨#[]⟩, .string ⟨#[]⟩] 33)).alloc (.cells #[.string p] 9)).ownsRow (w.heap.size + 1 + 1) 9 1 (.slice (some ⟨w.heap.size + 1 + 1, 0, none⟩) 1 1) 1 ([p].map Value.string) from by simpa using own_one ((w.alloc (.cells #[.bool true, .slice A n c, .int .i64 k, .bool q, .string x, .string y] 33)).alloc (.cells #[.bool false, .slice none 0 0, .int .i64 0, .bool false, .string ⟨#[]⟩, .string ⟨#[]⟩] 33)) p)
  clear hi0 hz0 hz1 hz2 hn hnil hr
  go_enter Tryd.func27, Tryd.ntmps27
  go_wp2_with (at_builtin; refine append_strs _ rfl _ _ 22 rfl (w.heap.size + 1 + 1) 9 i0 _ Tryd.underlying22 I0.out I1.out I2.out I3.out rfl (.slice (some ⟨w.heap.size + 1 + 1, 0, none⟩) 1 1) 1 [p] rfl HO.out lo hi _ _ _ ps rfl HN.out HNIL.out HR.out (by simp; omega) (by simp) ?_; intro v' w5 ho5 hg5; obtain ⟨g, cap, rfl⟩ := Joins.ownsRow_form ho5 (by omega); have b5 : Below (w.heap.size + 1 + 1) ((w.alloc (.cells #[.bool true, .slice A n c, .int .i64 k, .bool q, .string x, .string y] 33)).alloc (.cells #[.bool false, .slice none 0 0, .int .i64 0, .bool false, .string ⟨#[]⟩, .string ⟨#[]⟩] 33)) w5 := ((Below.refl _ ((w.alloc (.cells #[.bool true, .slice A n c, .int .i64 k, .bool q, .string x, .string y] 33)).alloc (.cells #[.bool false, .slice none 0 0, .int .i64 0, .bool false, .string ⟨#[]⟩, .string ⟨#[]⟩] 33))).alloc (by simp) _).grown hg5 (by simp) (own_row HO.out); have k1 : ∀ o, w5.cell? ⟨w.heap.size, o, none⟩ = ((w.alloc (.cells #[.bool true, .slice A n c, .int .i64 k, .bool q, .string x, .string y] 33)).alloc (.cells #[.bool false, .slice none 0 0, .int .i64 0, .bool false, .string ⟨#[]⟩, .string ⟨#[]⟩] 33)).cell? ⟨w.heap.size, o, none⟩ := fun o => b5.cell (p := ⟨w.heap.size, o, none⟩) (by show w.heap.size < _; omega); have k2 : ∀ o, w5.cell? ⟨w.heap.size + 1, o, none⟩ = ((w.alloc (.cells #[.bool true, .slice A n c, .int .i64 k, .bool q, .string x, .string y] 33)).alloc (.cells #[.bool false, .slice none 0 0, .int .i64 0, .bool false, .string ⟨#[]⟩, .string ⟨#[]⟩] 33)).cell? ⟨w.heap.size + 1, o, none⟩ := fun o => b5.cell (p := ⟨w.heap.size + 1, o, none⟩) (by show w.heap.size + 1 < _; omega); have k3 : ∀ o, w5.frozen? ⟨w.heap.size, o, none⟩ = ((w.alloc (.cells #[.bool true, .slice A n c, .int .i64 k, .bool q, .string x, .string y] 33)).alloc (.cells #[.bool false, .slice none 0 0, .int .i64 0, .bool false, .string ⟨#[]⟩, .string ⟨#[]⟩] 33)).frozen? ⟨w.heap.size, o, none⟩ := fun o => b5.frozen (p := ⟨w.heap.size, o, none⟩) (by show w.heap.size < _; omega); have k4 : ∀ o, w5.frozen? ⟨w.heap.size + 1, o, none⟩ = ((w.alloc (.cells #[.bool true, .slice A n c, .int .i64 k, .bool q, .string x, .string y] 33)).alloc (.cells #[.bool false, .slice none 0 0, .int .i64 0, .bool false, .string ⟨#[]⟩, .string ⟨#[]⟩] 33)).frozen? ⟨w.heap.size + 1, o, none⟩ := fun o => b5.frozen (p := ⟨w.heap.size + 1, o, none⟩) (by show w.heap.size + 1 < _; omega); have HX := Lib.hid (And.intro ho5 b5); clear ho5 hg5 b5)
  refine bodyPost_ret (v := .agg #[.bool true, .slice (some ⟨g, 0, none⟩) (1 + n) cap, .int .i64 k, .bool q, .string x, .string y]) (by simp [results, Tryd.results27, go_sem, k2]) rfl ?_
  obtain ⟨ho, hb⟩ := HX.out
  have h1 := ownsRow_setCell_below ho (a := ⟨w.heap.size, 1, none⟩) (by show w.heap.size < _; omega) (.slice (some ⟨g, 0, none⟩) (1 + n) cap)
  have h2 := ownsRow_setCell_below h1 (a := ⟨w.heap.size + 1, 0, none⟩) (by show w.heap.size + 1 < _; omega) (.bool true)
  have h3 := ownsRow_setCell_below h2 (a := ⟨w.heap.size + 1, 1, none⟩) (by show w.heap.size + 1 < _; omega) (.slice (some ⟨g, 0, none⟩) (1 + n) cap)
  have h4 := ownsRow_setCell_below h3 (a := ⟨w.heap.size + 1, 2, none⟩) (by show w.heap.size + 1 < _; omega) (.int .i64 k)
  have h5 := ownsRow_setCell_below h4 (a := ⟨w.heap.size + 1, 3, none⟩) (by show w.heap.size + 1 < _; omega) (.bool q)
  have h6 := ownsRow_setCell_below h5 (a := ⟨w.heap.size + 1, 4, none⟩) (by show w.heap.size + 1 < _; omega) (.string x)
  have h7 := ownsRow_setCell_below h6 (a := ⟨w.heap.size + 1, 5, none⟩) (by show w.heap.size + 1 < _; omega) (.string y)
  have hn := HN.out
  obtain ⟨A', c', hv, hl, hc, hz, hr⟩ := RowS.own h7
  injection hv with e1 _ e3
  subst e1 e3
  have hn' : 1 + n = (p :: ps).length := by simpa using hl
  refine ⟨_, _, by rw [← hn'], by omega, hz, hr.wide (by omega) (Nat.le_refl _), ?_⟩
  have hb' : Below w.heap.size w w5 := (((Below.refl _ w).alloc (Nat.le_refl _) _).alloc (by simp) _).trans (hb.mono (by omega))
  exact ((((((hb'.setCell (by show w.heap.size ≤ w.heap.size; omega) _).setCell (by show w.heap.size ≤ w.heap.size + 1; omega) _).setCell (by show w.heap.size ≤ w.heap.size + 1; omega) _).setCell (by show w.heap.size ≤ w.heap.size + 1; omega) _).setCell (by show w.heap.size ≤ w.heap.size + 1; omega) _).setCell (by show w.heap.size ≤ w.heap.size + 1; omega) _).setCell (by show w.heap.size ≤ w.heap.size + 1; omega) _
end Go.Proofs.YtdlmnhpmdidkeaaDoor
