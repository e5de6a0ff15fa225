import Derived.Test.YtidomoibhjgkjaaGreatDoorZC46
import Derived.BigQuiet
import Derived.Deep.QuietTactic
import Derived.Test.YtidomoibhjgkjaaGreatDoorZC01
import Derived.Test.YtidomoibhjgkjaaGreatDoorZC43
import Derived.Test.YtidomoibhjgkjaaGreatDoorZC44
import Derived.IntWalk
/-
  The document's own answers on errors (their places, number and need, plainly): Of, Ask, Wrap, Same.
-/
namespace Go.Proofs.YtidomoibhjgkjaaGreatDoor
open Go.RowKit

/-- An error as the document's answer tells it. -/
def rv (is : Bool) (A : Option Addr) (n c : Nat) (k : Int) (q : Bool) (x y : ByteArray) : Value := .agg #[.bool is, .slice A n c, .int .i64 k, .bool q, .string x, .string y]

theorem refOf_zero (w : World) : Calls Tryz.prog 34 #[.int .i64 0] w fun r w' => r = .returned (.agg #[.bool false, .slice none 0 0, .int .i64 0, .bool false, .string ⟨#[]⟩, .string ⟨#[]⟩]) ∧ Below w.heap.size w w' := by
  go_enter Tryz.func34, Tryz.ntmps34
  go_wp2
  exact bodyPost_ret (v := .agg #[.bool false, .slice none 0 0, .int .i64 0, .bool false, .string ⟨#[]⟩, .string ⟨#[]⟩]) (by simp [results, Tryz.results34, go_sem]) rfl ⟨rfl, (Below.refl _ w).alloc (Nat.le_refl _) _⟩
theorem refOf_num (n : Int) (w : World) (hn : n ≠ 0) : Calls Tryz.prog 34 #[.int .i64 n] w fun r w' => r = .returned (.agg #[.bool true, .slice none 0 0, .int .i64 n, .bool false, .string ⟨#[]⟩, .string ⟨#[]⟩]) ∧ Below w.heap.size w w' := by
  have h : (n != 0) = true := by simpa using hn
  clear hn
  go_enter Tryz.func34, Tryz.ntmps34
  go_wp2
  exact bodyPost_ret (v := .agg #[.bool true, .slice none 0 0, .int .i64 n, .bool false, .string ⟨#[]⟩, .string ⟨#[]⟩]) (by simp [results, Tryz.results34, go_sem]) rfl ⟨rfl, (Below.refl _ w).alloc (Nat.le_refl _) _⟩
theorem refWrap_none (p : ByteArray) (A : Option Addr) (n c : Nat) (k : Int) (q : Bool) (x y : ByteArray) (w : World) :
    Calls Tryz.prog 35 #[.string p, .agg #[.bool false, .slice A n c, .int .i64 k, .bool q, .string x, .string y]] w fun r w' => r = .returned (.agg #[.bool false, .slice A n c, .int .i64 k, .bool q, .string x, .string y]) ∧ Below w.heap.size w w' := by
  go_enter Tryz.func35, Tryz.ntmps35
  go_wp2
  exact bodyPost_ret (v := .agg #[.bool false, .slice A n c, .int .i64 k, .bool q, .string x, .string y]) (by simp [results, Tryz.results35, go_sem]) rfl ⟨rfl, ((Below.refl _ w).alloc (Nat.le_refl _) _).alloc (by simp) _⟩

/-- What Wrap of the document's answers makes of one that is an error. -/
def RetR (l : List ByteArray) (k : Int) (q : Bool) (x y : ByteArray) (w : World) (r : Ending) (w' : World) : Prop :=
  ∃ A c, r = .returned (.agg #[.bool true, .slice A l.length c, .int .i64 k, .bool q, .string x, .string y]) ∧ l.length ≤ c ∧ (A = none → c = 0) ∧ RowS w' w.heap.size w'.heap.size A l ∧ Below w.heap.size w w'

set_option maxRecDepth 100000 in
set_option maxHeartbeats 1000000 in
theorem refWrap_any (p : ByteArray) (ps : List ByteArray) (A : Option Addr) (n c : Nat) (k : Int) (q : Bool) (x y : ByteArray) (lo hi : Nat) (w : World) (hn : n = ps.length) (hnil : A = none → c = 0) (hr : RowS w lo hi A ps) (hhi : hi ≤ w.heap.size) (hps : ps.length ≤ 1000000) :
    Calls Tryz.prog 35 #[.string p, .agg #[.bool true, .slice A n c, .int .i64 k, .bool q, .string x, .string y]] w (RetR (p :: ps) k q x y w) := by
  obtain ⟨i0, hi0, hz0, hz1, hz2⟩ := infoStr
  have I0 := Lib.hid hi0
  have I1 := Lib.hid hz0
  have I2 := Lib.hid hz1
  have I3 := Lib.hid hz2
  have HN := Lib.hid hn
  have HNIL := Lib.hid hnil
  have HR := Lib.hid (hr.below ((((Below.refl _ w).alloc (Nat.le_refl _) (.cells #[.bool true, .slice A n c, .int .i64 k, .bool q, .string x, .string y] 37)).alloc (by simp) (.cells #[.bool false, .slice none 0 0, .int .i64 0, .bool false, .string ⟨#[]⟩, .string ⟨#[]⟩] 37)).alloc (by simp; omega) (.cells #[.string p] 9)) hhi)
  have HO := Lib.hid (show (((w.alloc (.cells #[.bool true, .slice A n c, .int .i64 k, .bool q, .string x, .string y] 37)).alloc (.cells #[.bool false, .slice none 0 0, .int .i64 0, .bool false, .string ⟨#[]⟩, .string ⟨#[]⟩] 37)).alloc (.cells #[.string p] 9)).ownsRow (w.heap.size + 1 + 1) 9 1 (.slice (some ⟨w.heap.size + 1 + 1, 0, none⟩) 1 1) 1 ([p].map Value.string) from by simpa using own_one ((w.alloc (.cells #[.bool true, .slice A n c, .int .i64 k, .bool q, .string x, .string y] 37)).alloc (.cells #[.bool false, .slice none 0 0, .int .i64 0, .bool false, .string ⟨#[]⟩, .string ⟨#[]⟩] 37)) p)
  clear hi0 hz0 hz1 hz2 hn hnil hr
  go_enter Tryz.func35, Tryz.ntmps35
  go_wp2_with (at_builtin; refine append_strs _ rfl _ _ 32 rfl (w.heap.size + 1 + 1) 9 i0 _ Tryz.underlying32 I0.out I1.out I2.out I3.out rfl (.slice (some ⟨w.heap.size + 1 + 1, 0, none⟩) 1 1) 1 [p] rfl HO.out lo hi _ _ _ ps rfl HN.out HNIL.out HR.out (by simp; omega) (by simp) ?_; intro v' w5 ho5 hg5; obtain ⟨g, cap, rfl⟩ := Joins.ownsRow_form ho5 (by omega); have b5 : Below (w.heap.size + 1 + 1) ((w.alloc (.cells #[.bool true, .slice A n c, .int .i64 k, .bool q, .string x, .string y] 37)).alloc (.cells #[.bool false, .slice none 0 0, .int .i64 0, .bool false, .string ⟨#[]⟩, .string ⟨#[]⟩] 37)) w5 := ((Below.refl _ ((w.alloc (.cells #[.bool true, .slice A n c, .int .i64 k, .bool q, .string x, .string y] 37)).alloc (.cells #[.bool false, .slice none 0 0, .int .i64 0, .bool false, .string ⟨#[]⟩, .string ⟨#[]⟩] 37))).alloc (by simp) _).grown hg5 (by simp) (own_row HO.out); have k1 : ∀ o, w5.cell? ⟨w.heap.size, o, none⟩ = ((w.alloc (.cells #[.bool true, .slice A n c, .int .i64 k, .bool q, .string x, .string y] 37)).alloc (.cells #[.bool false, .slice none 0 0, .int .i64 0, .bool false, .string ⟨#[]⟩, .string ⟨#[]⟩] 37)).cell? ⟨w.heap.size, o, none⟩ := fun o => b5.cell (p := ⟨w.heap.size, o, none⟩) (by show w.heap.size < _; omega); have k2 : ∀ o, w5.cell? ⟨w.heap.size + 1, o, none⟩ = ((w.alloc (.cells #[.bool true, .slice A n c, .int .i64 k, .bool q, .string x, .string y] 37)).alloc (.cells #[.bool false, .slice none 0 0, .int .i64 0, .bool false, .string ⟨#[]⟩, .string ⟨#[]⟩] 37)).cell? ⟨w.heap.size + 1, o, none⟩ := fun o => b5.cell (p := ⟨w.heap.size + 1, o, none⟩) (by show w.heap.size + 1 < _; omega); have k3 : ∀ o, w5.frozen? ⟨w.heap.size, o, none⟩ = ((w.alloc (.cells #[.bool true, .slice A n c, .int .i64 k, .bool q, .string x, .string y] 37)).alloc (.cells #[.bool false, .slice none 0 0, .int .i64 0, .bool false, .string ⟨#[]⟩, .string ⟨#[]⟩] 37)).frozen? ⟨w.heap.size, o, none⟩ := fun o => b5.frozen (p := ⟨w.heap.size, o, none⟩) (by show w.heap.size < _; omega); have k4 : ∀ o, w5.frozen? ⟨w.heap.size + 1, o, none⟩ = ((w.alloc (.cells #[.bool true, .slice A n c, .int .i64 k, .bool q, .string x, .string y] 37)).alloc (.cells #[.bool false, .slice none 0 0, .int .i64 0, .bool false, .string ⟨#[]⟩, .string ⟨#[]⟩] 37)).frozen? ⟨w.heap.size + 1, o, none⟩ := fun o => b5.frozen (p := ⟨w.heap.size + 1, o, none⟩) (by show w.heap.size + 1 < _; omega); have HX := Lib.hid (And.intro ho5 b5); clear ho5 hg5 b5)
  refine bodyPost_ret (v := .agg #[.bool true, .slice (some ⟨g, 0, none⟩) (1 + n) cap, .int .i64 k, .bool q, .string x, .string y]) (by simp [results, Tryz.results35, go_sem, k2]) rfl ?_
  obtain ⟨ho, hb⟩ := HX.out
  have h1 := ownsRow_setCell_below ho (a := ⟨w.heap.size, 1, none⟩) (by show w.heap.size < _; omega) (.slice (some ⟨g, 0, none⟩) (1 + n) cap)
  have h2 := ownsRow_setCell_below h1 (a := ⟨w.heap.size + 1, 0, none⟩) (by show w.heap.size + 1 < _; omega) (.bool true)
  have h3 := ownsRow_setCell_below h2 (a := ⟨w.heap.size + 1, 1, none⟩) (by show w.heap.size + 1 < _; omega) (.slice (some ⟨g, 0, none⟩) (1 + n) cap)
  have h4 := ownsRow_setCell_below h3 (a := ⟨w.heap.size + 1, 2, none⟩) (by show w.heap.size + 1 < _; omega) (.int .i64 k)
  have h5 := ownsRow_setCell_below h4 (a := ⟨w.heap.size + 1, 3, none⟩) (by show w.heap.size + 1 < _; omega) (.bool q)
  have h6 := ownsRow_setCell_below h5 (a := ⟨w.heap.size + 1, 4, none⟩) (by show w.heap.size + 1 < _; omega) (.string x)
  have h7 := ownsRow_setCell_below h6 (a := ⟨w.heap.size + 1, 5, none⟩) (by show w.heap.size + 1 < _; omega) (.string y)
  have hn := HN.out
  obtain ⟨A', c', hv, hl, hc, hz, hr⟩ := RowS.own h7
  injection hv with e1 _ e3
  subst e1 e3
  have hn' : 1 + n = (p :: ps).length := by simpa using hl
  refine ⟨_, _, by rw [← hn'], by omega, hz, hr.wide (by omega) (Nat.le_refl _), ?_⟩
  have hb' : Below w.heap.size w w5 := (((Below.refl _ w).alloc (Nat.le_refl _) _).alloc (by simp) _).trans (hb.mono (by omega))
  exact ((((((hb'.setCell (by show w.heap.size ≤ w.heap.size; omega) _).setCell (by show w.heap.size ≤ w.heap.size + 1; omega) _).setCell (by show w.heap.size ≤ w.heap.size + 1; omega) _).setCell (by show w.heap.size ≤ w.heap.size + 1; omega) _).setCell (by show w.heap.size ≤ w.heap.size + 1; omega) _).setCell (by show w.heap.size ≤ w.heap.size + 1; omega) _).setCell (by show w.heap.size ≤ w.heap.size + 1; omega) _
end Go.Proofs.YtidomoibhjgkjaaGreatDoor

/-
  Same of the document's own answers, of two slices that read alike; the digits of a number; and the text of an error, plainly.
-/
namespace Go.Proofs.YtidomoibhjgkjaaGreatDoor
open Go.RowKit

theorem below_drewNF' (w : World) (n : Nat) : Below w.heap.size w (w.drewN n) := ⟨rfl, rfl, rfl, Nat.le_refl _, fun _ _ => rfl⟩

set_option maxHeartbeats 1000000 in
theorem same_sameF (A1 A2 : Option Addr) (n1 n2 c1 c2 lo1 hi1 lo2 hi2 : Nat) (l : List ByteArray) (w : World) (e1 : n1 = l.length) (e2 : n2 = l.length) (h1 : RowS w lo1 hi1 A1 l) (h2 : RowS w lo2 hi2 A2 l) (hl : l.length ≤ 2000000) :
    Calls Tryz.prog 14 #[.slice A1 n1 c1, .slice A2 n2 c2] w fun r w' => r = .returned (.bool true) ∧ Below w.heap.size w w' := by
  subst e1 e2
  have H1 := Lib.hid h1
  have H2 := Lib.hid h2
  clear h1 h2
  go_enter Tryz.func14, Tryz.ntmps14
  go_wp2
  go_loopg [13] l.length (fun k i wr => ∃ j m : Nat, j + k = l.length ∧ i = .int .i64 j ∧ wr = w.drewN m)
  case atStart => exact ⟨0, 0, by omega, rfl, rfl⟩
  case round =>
    obtain ⟨j, m, hk, rfl, rfl⟩ := hrel
    have HK := Lib.hid hk
    by_cases hj : j < l.length
    · have hlt : decide ((j : Int) < (l.length : Int)) = true := by simpa using hj
      obtain ⟨b, o, rfl, d1⟩ := H1.out.at_ hj
      obtain ⟨b', o', rfl, d2⟩ := H2.out.at_ hj
      clear hk
      go_wp2
      go_region
      all_goals
        go_wp2
        go_roundg (gk - 1)
        case measure => have := HK.out; omega
        case rel => exact ⟨j + 1, m + 1, by have := HK.out; omega, by go_num, rfl⟩
    · have hlt : decide ((j : Int) < (l.length : Int)) = false := by simpa using hj
      clear hk
      go_wp2
      go_ret
      exact ⟨rfl, below_drewNF' w m⟩

theorem ba_appendF (a b : List UInt8) : (⟨a.toArray⟩ : ByteArray) ++ ⟨b.toArray⟩ = ⟨(a ++ b).toArray⟩ := by
  apply ByteArray.ext
  simp

theorem conv_one (w : World) (b : UInt8) : (convert 143 9 (.slice (some ⟨w.heap.size, 0, none⟩) 1 1)).run Tryz.prog (w.alloc (.cells #[.int .u8 (b.toNat : Int)] 5)) = .ok (.string ⟨#[b]⟩) (w.alloc (.cells #[.int .u8 (b.toNat : Int)] 5)) :=
  conv_rd (m := [b]) 143 9 5 Tryz.underlying143 Tryz.underlying5 Tryz.underlying9 rfl (Rd.one w 5 _ b rfl)

theorem dig_byte (n : Nat) : ((UInt8.ofNat (48 + n % 10)).toNat : Int) = 48 + (n : Int) % 10 := by
  have : (UInt8.ofNat (48 + n % 10)).toNat = 48 + n % 10 := by
    rw [UInt8.toNat_ofNat']; omega
  rw [this]; omega

/-- The first k places, each with a colon and a blank. -/
def pre (ps : List ByteArray) (k : Nat) : List UInt8 := ((ps.take k).map fun p => p.data.toList ++ [58, 32]).flatten

theorem pre_succ (ps : List ByteArray) (k : Nat) (h : k < ps.length) : pre ps (k + 1) = pre ps k ++ (ps[k].data.toList ++ [58, 32]) := by
  unfold pre
  rw [List.take_succ_eq_append_getElem h, List.map_append, List.flatten_append]
  simp only [List.map_cons, List.map_nil, List.flatten_cons, List.flatten_nil, List.append_nil]
theorem pre_le (ps : List ByteArray) (k : Nat) : (pre ps k).length ≤ (pre ps ps.length).length := by
  unfold pre
  rw [List.take_length]
  have h : ps = ps.take k ++ ps.drop k := (List.take_append_drop k ps).symm
  have h2 : ((ps.map fun p => p.data.toList ++ [58, 32]).flatten).length = (((ps.take k).map fun p => p.data.toList ++ [58, 32]).flatten).length + (((ps.drop k).map fun p => p.data.toList ++ [58, 32]).flatten).length := by
    rw [← List.length_append, ← List.flatten_append, ← List.map_append, List.take_append_drop]
  omega

theorem join_snoc (l : List (List UInt8)) (x sep : List UInt8) : Lib.join (l ++ [x]) sep = (l.map (· ++ sep)).flatten ++ x := by
  induction l with
  | nil => simp [Lib.join_one]
  | cons a l ih =>
    unfold Lib.join at *
    rcases l with _ | ⟨b, l⟩
    · simp [List.intercalate]
    · simp only [List.cons_append, List.map_cons, List.flatten_cons] at ih ⊢
      rw [show List.intercalate sep (a :: b :: (l ++ [x])) = a ++ sep ++ List.intercalate sep (b :: (l ++ [x])) from by simp [List.intercalate], ih]
      simp

theorem text_pre (e : End) (ps : List ByteArray) : textE e ps = pre ps ps.length ++ whatOf e := by
  unfold textE pre
  rw [join_snoc, List.take_length, List.map_map]
  rfl

theorem text_cons (e : End) (p : ByteArray) (ps : List ByteArray) : textE e (p :: ps) = p.data.toList ++ [58, 32] ++ textE e ps := by
  rw [text_pre, text_pre]
  unfold pre
  simp

theorem ba_eq (s : ByteArray) : s = ⟨s.data.toList.toArray⟩ := by cases s; simp

end Go.Proofs.YtidomoibhjgkjaaGreatDoor

/-
  EvalAsks: an error of the function that is asked is the whole's, with the variable's name as its place.
-/
namespace Go.Proofs.YtidomoibhjgkjaaGreatDoor
open Go.RowKit

namespace evalAsks
/-- The variable of a name. -/
def varT (nm : ByteArray) : TM := ⟨1, V0, nm⟩
def asks (lo hi : ByteArray) : Asks := fun _ => .inr (End.need lo hi, [])
theorem ofH_ask (nm lo hi : ByteArray) (f : Nat) (h : checkL [varT nm] = 0) : ofH (asks lo hi) [varT nm] (f + 1) = (V0, f, some (End.need lo hi, [nm])) := by
  unfold ofH
  rw [if_neg (by simp [h])]
  rfl

set_option maxRecDepth 100000 in
set_option maxHeartbeats 4000000 in
theorem closure_any (lo hi : ByteArray) (s t : Nat) (w0 : World) (hs : w0.cell? ⟨s, 0, none⟩ = some (.string lo)) (ht : w0.cell? ⟨t, 0, none⟩ = some (.string hi)) (hsl : s < w0.heap.size) (htl : t < w0.heap.size) (nm : ByteArray) (W : World) (hW : Below w0.heap.size w0 W) :
    Calls Tryz.prog 22 #[.string nm, .pointer (some ⟨s, 0, none⟩), .pointer (some ⟨t, 0, none⟩)] W (RetAsk (asks lo hi nm) W) := by
  have hs1 := (hW.cell (p := ⟨s, 0, none⟩) hsl).trans hs
  have ht1 := (hW.cell (p := ⟨t, 0, none⟩) htl).trans ht
  have hsW := Nat.lt_of_lt_of_le hsl hW.size
  have htW := Nat.lt_of_lt_of_le htl hW.size
  have HX0 := Lib.hid (Boxed.new W 0 0 ⟨#[]⟩)
  have hB0 := box_below W #[.int .i64 0, .int .i64 0, .string ⟨#[]⟩] 27
  have hs2 := (hB0.cell (p := ⟨s, 0, none⟩) hsW).trans hs1
  have ht2 := (hB0.cell (p := ⟨t, 0, none⟩) htW).trans ht1
  have HB0 := Lib.hid hB0
  clear hW hs ht hsl htl hs1 ht1 hsW htW hB0
  go_enter Tryz.func22, Tryz.ntmps22
  go_wp2_with fail
  refine (ask_any lo hi _).mono ?_
  rintro r w1 ⟨rfl, rfl⟩
  obtain ⟨r0, r1, r2⟩ := HX0.out.cells
  have f0 := HX0.out.frozen 0
  have f1 := HX0.out.frozen 1
  have f2 := HX0.out.frozen 2
  have HR : Hid (∀ w', Below W.heap.size W w' → RetAsk (asks lo hi nm) W (.returned (.tuple #[.agg #[.int .i64 0, .int .i64 0, .string ⟨#[]⟩], .bool true, .iface 35 (.agg #[.string lo, .string hi])])) w') := Lib.hid (fun w' hb => ⟨_, _, _, _, _, rfl, hb, rfl, .inr (by intro e; cases e)⟩)
  generalize asks lo hi nm = X at *
  go_wp2
  exact bodyPost_ret (v := .tuple #[.agg #[.int .i64 0, .int .i64 0, .string ⟨#[]⟩], .bool true, .iface 35 (.agg #[.string lo, .string hi])]) (by simp [results, Tryz.results22, go_sem, r0, r1, r2]) rfl (HR.out _ HB0.out)

theorem closure_enters (args : Array Value) (w : World) : (callFunc 22 args).run Tryz.prog w = .ok (.enter 22 args) w := enters_of Tryz.func22 (by kernel_rfl) rfl _ _

theorem one_terms (nm : ByteArray) (h : nm.size ≤ 100) (W : World) : TermsOk (W.alloc (.cells #[.int .i64 1, .int .i64 0, .int .i64 0, .string ⟨#[]⟩, .string nm] 47)) [varT nm] (some ⟨W.heap.size, 0, none⟩) where
  len := by show 1 ≤ 1000; decide
  ok := fun t ht => by
    rw [List.mem_singleton.1 ht]
    exact ⟨h, okV_zero⟩
  row := (row1T W (varT nm)).wide (Nat.zero_le _) (lt_alloc W _)
theorem one_check (nm : ByteArray) (h : nm.size ≤ 100) (W : World) : Calls Tryz.prog 20 #[.slice (some ⟨W.heap.size, 0, none⟩) 1 1] (W.alloc (.cells #[.int .i64 1, .int .i64 0, .int .i64 0, .string ⟨#[]⟩, .string nm] 47)) fun r w' => r = .returned (.int .i64 (checkL [varT nm])) ∧ Below W.heap.size W w' := by
  have hb := box_below W #[.int .i64 1, .int .i64 0, .int .i64 0, .string ⟨#[]⟩, .string nm] 47
  have hc := check_few 1 (one_terms nm h W)
  have e : [varT nm].length = 1 := rfl
  rw [e] at hc
  refine hc.mono ?_
  rintro r w' ⟨rfl, h⟩
  exact ⟨rfl, hb.trans (h.mono hb.size)⟩
theorem eq_need (a b : ByteArray) (w : World) : (Op.equalIn 10000 35 (.agg #[.string a, .string b]) (.agg #[.string a, .string b])).run Tryz.prog w = .ok true w := by
  simp [go_sem, Tryz.underlying35, Tryz.underlying9]

set_option maxRecDepth 100000 in
set_option maxHeartbeats 4000000 in
theorem walkG (nm lo hi : ByteArray) (fuel : Int) (hf : -9223372036854775808 ≤ fuel ∧ fuel ≤ 9223372036854775807) (hnm : nm.size ≤ reachBytes) (hlo : lo.size ≤ reachBytes) (hhi : hi.size ≤ reachBytes) (w : World) (hG : GlobW w) :
    Calls Tryz.prog 5 #[.string nm, .string lo, .string hi, .int .i64 fuel] w fun r w' => r = .returned (.bool true) ∧ Below w.heap.size w w' := by
  have hmf : ∀ (fn : Fn) (first cap : Array Value) (w : World), (Instr.makeFunc fn first cap).run Tryz.prog w = .ok (.func fn first cap) w := fun _ _ _ _ => rfl
  have hR : reachBytes ≤ 1000000000000000 := by unfold reachBytes; decide
  -- the boxes of what the function holds
  have hb1 := box_below w #[.string lo] 9
  have hb2 := box_below (w.alloc (.cells #[.string lo] 9)) #[.string hi] 9
  have hc1 : (w.alloc (.cells #[.string lo] 9)).cell? ⟨w.heap.size, 0, none⟩ = some (.string lo) := by simp
  have hl1 := lt_alloc w (.cells #[.string lo] 9)
  have hc1' := (hb2.cell (p := ⟨w.heap.size, 0, none⟩) hl1).trans hc1
  have e1 : (w.alloc (.cells #[.string lo] 9)).heap.size = w.heap.size + 1 := by simp
  have hc2 : ((w.alloc (.cells #[.string lo] 9)).alloc (.cells #[.string hi] 9)).cell? ⟨w.heap.size + 1, 0, none⟩ = some (.string hi) := by
    have h : ((w.alloc (.cells #[.string lo] 9)).alloc (.cells #[.string hi] 9)).cell? ⟨(w.alloc (.cells #[.string lo] 9)).heap.size, 0, none⟩ = some (.string hi) := by simp
    rwa [e1] at h
  have hl2 := lt_alloc (w.alloc (.cells #[.string lo] 9)) (.cells #[.string hi] 9)
  rw [e1] at hl2
  have hl1' := Nat.lt_of_lt_of_le hl1 hb2.size
  have hB := hb1.trans (hb2.mono hb1.size)
  obtain ⟨w1, hw⟩ : ∃ y, (w.alloc (.cells #[.string lo] 9)).alloc (.cells #[.string hi] 9) = y := ⟨_, rfl⟩
  rw [hw] at hc1' hc2 hl2 hl1' hB
  obtain ⟨s, hs⟩ : ∃ y, w.heap.size = y := ⟨_, rfl⟩
  rw [hs] at hc1' hc2 hl2 hl1'
  have HW := Lib.hid hw
  have HS := Lib.hid hs
  have HB1 := Lib.hid hB
  have HC1 := Lib.hid hc1'
  have HC2 := Lib.hid hc2
  have HL1 := Lib.hid hl1'
  have HL2 := Lib.hid hl2
  have HLv := Lib.hid (fun W (hb : Below w1.heap.size w1 W) => live6_any W (hG.below (hB.trans (hb.mono hB.size)) hG.big))
  have HG := Lib.hid hG
  clear hb1 hb2 hc1 hl1 hc1' e1 hc2 hl2 hl1' hB hw hs hG
  go_enter Tryz.func5, Tryz.ntmps5
  go_upto_region 1 with fail
  rw [HW.out, HS.out]
  have hs1 : w.heap.size + 1 = s + 1 := by rw [HS.out]
  clear HW
  go_wp2_with fail
  refine (HLv.out _ (Below.refl _ _)).mono ?_
  rintro r w2 ⟨rfl, hb2⟩
  have HB2 := Lib.hid hb2
  clear hb2
  dsimp only
  by_cases h1 : fuel < 1
  · have d1 : decide (fuel < 1) = true := decide_eq_true h1
    go_wp2_with fail
    refine (HLv.out _ HB2.out).mono ?_
    rintro r w9 ⟨rfl, hb9⟩
    have HB9 := Lib.hid (HB1.out.trans ((HB2.out.trans (hb9.mono HB2.out.size)).mono HB1.out.size))
    clear hb9
    dsimp only
    go_wp2
    go_ret
    exact ⟨rfl, HB9.out⟩
  have d1 : decide (fuel < 1) = false := decide_eq_false h1
  by_cases h2 : 100 < nm.size
  · have d2 : decide (100 < (nm.size : Int)) = true := by rw [decide_eq_true_iff]; omega
    go_wp2_with fail
    refine (HLv.out _ HB2.out).mono ?_
    rintro r w9 ⟨rfl, hb9⟩
    have HB9 := Lib.hid (HB1.out.trans ((HB2.out.trans (hb9.mono HB2.out.size)).mono HB1.out.size))
    clear hb9
    dsimp only
    go_wp2
    go_ret
    exact ⟨rfl, HB9.out⟩
  have d2 : decide (100 < (nm.size : Int)) = false := by rw [decide_eq_false_iff_not]; omega
  have HTk : Hid (∀ W : World, TermsOk (W.alloc (.cells #[.int .i64 1, .int .i64 0, .int .i64 0, .string ⟨#[]⟩, .string nm] 47)) [varT nm] (some ⟨W.heap.size, 0, none⟩)) := Lib.hid (fun W => one_terms nm (by omega) W)
  have HCk : Hid (∀ W : World, Calls Tryz.prog 20 #[.slice (some ⟨W.heap.size, 0, none⟩) 1 1] (W.alloc (.cells #[.int .i64 1, .int .i64 0, .int .i64 0, .string ⟨#[]⟩, .string nm] 47)) fun r w' => r = .returned (.int .i64 (checkL [varT nm])) ∧ Below W.heap.size W w') := Lib.hid (fun W => one_check nm (by omega) W)
  have HNM := Lib.hid (show nm.size ≤ 100 by omega)
  obtain ⟨ck, hck⟩ : ∃ y, checkL [varT nm] = y := ⟨_, rfl⟩
  rw [hck] at HCk
  have HCKE := Lib.hid hck
  clear h2 hck hnm
  go_wp2_with fail
  refine (HCk.out _).mono ?_
  rintro r w3 ⟨rfl, hb3⟩
  have HB3 := Lib.hid (HB2.out.trans (hb3.mono HB2.out.size))
  clear hb3 HB2 HCk
  dsimp only
  by_cases h3 : ck = 0
  rotate_left
  · have d3 : (ck != 0) = true := by rw [bne_iff_ne]; exact h3
    have d3' : (ck == 0) = false := by rw [beq_eq_false_iff_ne]; exact h3
    go_wp2_with fail
    refine (HLv.out _ HB3.out).mono ?_
    rintro r w9 ⟨rfl, hb9⟩
    have HB9 := Lib.hid (HB1.out.trans ((HB3.out.trans (hb9.mono HB3.out.size)).mono HB1.out.size))
    clear hb9
    dsimp only
    go_wp2
    go_ret
    exact ⟨rfl, HB9.out⟩
  subst h3
  -- the call
  obtain ⟨f, hff⟩ : ∃ f : Nat, fuel = (f : Int) + 1 := ⟨(fuel - 1).toNat, by omega⟩
  have hw1 : wrap64 (fuel - 1) = (f : Int) := by rw [IntWalk.wrap64_in _ (by omega)]; omega
  have HE : Hid (∀ W, Below w1.heap.size w1 W → Calls Tryz.prog 21 #[.slice (some ⟨W.heap.size, 0, none⟩) 1 1, .func (.func 22) #[] #[.pointer (some ⟨s, 0, none⟩), .pointer (some ⟨s + 1, 0, none⟩)], .int .i64 fuel] (W.alloc (.cells #[.int .i64 1, .int .i64 0, .int .i64 0, .string ⟨#[]⟩, .string nm] 47)) fun r w' => ∃ u, r = .returned (.tuple #[.agg #[.int .i64 0, .int .i64 0, .string ⟨#[]⟩], .int .i64 (f : Int), u]) ∧ Below W.heap.size W w' ∧ ErrO w' (some (End.need lo hi, [nm])) u) := Lib.hid (fun W hW => by
    have hb := box_below W #[.int .i64 1, .int .i64 0, .int .i64 0, .string ⟨#[]⟩, .string nm] 47
    have hWb := hW.trans (hb.mono hW.size)
    have hA : AskC 22 #[.pointer (some ⟨s, 0, none⟩), .pointer (some ⟨s + 1, 0, none⟩)] (asks lo hi) (fun _ => True) (W.alloc (.cells #[.int .i64 1, .int .i64 0, .int .i64 0, .string ⟨#[]⟩, .string nm] 47)).heap.size (W.alloc (.cells #[.int .i64 1, .int .i64 0, .int .i64 0, .string ⟨#[]⟩, .string nm] 47)) :=
      ⟨closure_enters, fun W2 nm2 _ hW2 => closure_any lo hi s (s + 1) w1 HC1.out HC2.out HL1.out HL2.out nm2 W2 (hWb.trans (hW2.mono hWb.size)), fun _ v _ h => by cases h⟩
    have ht := HTk.out W
    have h := gEval_any [varT nm] (some ⟨W.heap.size, 0, none⟩) 1 22 _ (asks lo hi) (fun _ => True) fuel _ ht.len (fun t h => ⟨Nat.le_trans (ht.ok t h).1 (by decide), (ht.ok t h).2⟩) ht.row hA (fun _ _ _ => trivial) (by omega) (by omega) (HG.out.below (HB1.out.trans (hWb.mono HB1.out.size)) HG.out.big)
    rw [show fuel.toNat = f + 1 by omega, ofH_ask nm lo hi f HCKE.out] at h
    refine h.mono ?_
    rintro r w' ⟨k, n, x, u, rfl, hx, hb2, hu⟩
    injection hx with a1 a2 a3
    subst a1 a2 a3
    exact ⟨u, rfl, hb.trans (hb2.mono hb.size), hu⟩)
  have HF := Lib.hid hff
  clear h1 hff hf hlo hhi
  go_wp2_with fail
  refine (HE.out _ HB3.out).mono ?_
  rintro r w4 ⟨u, rfl, hb4, hu⟩
  dsimp only
  have hB4 := HB3.out.trans (hb4.mono HB3.out.size)
  have hbx := box_below w4 #[.int .i64 0, .int .i64 0, .string ⟨#[]⟩] 27
  have hG4 := HG.out.below (HB1.out.trans (hB4.mono HB1.out.size)) HG.out.big
  have HNd : Hid (∀ W, Below w4.heap.size w4 W → Calls Tryz.prog 24 #[u] W fun r w' => r = .returned (.tuple #[.agg #[.string lo, .string hi], .bool true]) ∧ Below W.heap.size W w') := Lib.hid (fun W hW => neededO_any (End.need lo hi) [nm] u W (hu.below hW) (hG4.below hW hG4.big))
  have HTr : Hid (∀ W, Below w4.heap.size w4 W → Calls Tryz.prog 15 #[u] W fun r w' => ∃ A c, r = .returned (.slice A 1 c) ∧ RowS w' W.heap.size w'.heap.size A [nm] ∧ Below W.heap.size W w') := Lib.hid (fun W hW => by
    refine (trailO_any _ u W (hu.below hW) (by show 1 ≤ 1000000; decide) (hG4.below hW hG4.big)).mono ?_
    rintro r w' ⟨sv, rfl, how, hb⟩
    obtain ⟨A, c, rfl, _, _, _, hrow⟩ := RowS.own how
    exact ⟨A, c, rfl, hrow, hb⟩)
  have HB4 := Lib.hid hB4
  have HBX := Lib.hid hbx
  clear hb4 hu hB4 hbx hG4 HE HTk HCKE HLv HB3
  go_wp2_with fail
  refine (HNd.out _ HBX.out).mono ?_
  rintro r w5 ⟨rfl, hb5⟩
  dsimp only
  have hB5 := HBX.out.trans (hb5.mono HBX.out.size)
  have hb6 := box_below w5 #[.string lo, .string hi] 35
  have h6 := heap_alloc_new w5 (.cells #[.string lo, .string hi] 35)
  have hB6 := hB5.trans (hb6.mono hB5.size)
  obtain ⟨w6, hw⟩ : ∃ y, w5.alloc (.cells #[.string lo, .string hi] 35) = y := ⟨_, rfl⟩
  obtain ⟨g, hg⟩ : ∃ y, w5.heap.size = y := ⟨_, rfl⟩
  rw [hw] at h6 hB6
  rw [hg] at h6
  have HW6 := Lib.hid hw
  have HS6 := Lib.hid hg
  have HB6 := Lib.hid hB6
  have H6 := Lib.hid h6
  clear hb5 hB5 hb6 h6 hB6 hw hg
  go_upto_region 5 with fail
  rw [HW6.out, HS6.out]
  have hB46 := HB6.out
  have hB16 := HB4.out.trans (hB46.mono HB4.out.size)
  have cs := (hB16.cell (p := ⟨s, 0, none⟩) HL1.out).trans HC1.out
  have ct := (hB16.cell (p := ⟨s + 1, 0, none⟩) HL2.out).trans HC2.out
  have cn0 : w6.cell? ⟨g, 0, none⟩ = some (.string lo) := cell_of_row w6 g 0 _ _ _ H6.out
  have cn1 : w6.cell? ⟨g, 1, none⟩ = some (.string hi) := cell_of_row w6 g 1 _ _ _ H6.out
  have q := fun w => eq_need lo hi w
  have HBW := Lib.hid (HB1.out.trans (hB16.mono HB1.out.size))
  clear HW6 HS6 hB46 hB16
  go_wp2_with fail
  refine (HTr.out _ HB6.out).mono ?_
  rintro r w7 ⟨A, c, rfl, hrow, hb7⟩
  dsimp only
  have hb8 := box_below w7 #[.string nm] 9
  have HSm : Hid (Calls Tryz.prog 14 #[.slice A 1 c, .slice (some ⟨w7.heap.size, 0, none⟩) 1 1] (w7.alloc (.cells #[.string nm] 9)) fun r w' => r = .returned (.bool true) ∧ Below (w7.alloc (.cells #[.string nm] 9)).heap.size (w7.alloc (.cells #[.string nm] 9)) w') := Lib.hid (same_sameF A (some ⟨w7.heap.size, 0, none⟩) 1 1 c 1 w6.heap.size w7.heap.size w7.heap.size (w7.heap.size + 1) [nm] _ rfl rfl (hrow.below hb8 (Nat.le_refl _)) (RowS.one w7 9 nm) (by show 1 ≤ 2000000; decide))
  have HB8 := Lib.hid (HBW.out.trans ((hb7.trans (hb8.mono hb7.size)).mono HBW.out.size))
  clear hrow hb7 hb8 cs ct cn0 cn1
  go_wp2_with fail
  refine HSm.out.mono ?_
  rintro r w9 ⟨rfl, hb9⟩
  have HB9 := Lib.hid (HB8.out.trans (hb9.mono HB8.out.size))
  clear hb9
  dsimp only
  go_wp2
  go_ret
  exact ⟨rfl, HB9.out⟩
end evalAsks
end Go.Proofs.YtidomoibhjgkjaaGreatDoor
