import Derived.Test.YtidomoibhjgkjaaGreatDoorZC35
import Derived.Test.YtidomoibhjgkjaaGreatDoorZC25
import Derived.Laws.Cover1
import Derived.IntWalk
import Derived.StillTailTactics
import Derived.Deep.LoopGhost
import Derived.Shelf.Abstract
import Derived.Lib.SliceRun
/-
  Where a variable is set, by its place.
-/
namespace Go.Proofs.YtidomoibhjgkjaaGreatDoor

theorem putL_at : ∀ (l : List VN) (x : VN) (j : Nat) (h : j < l.length), (∀ i (hi : i < l.length), i < j → (l[i]'hi).1 ≠ x.1) → (l[j]'h).1 = x.1 → putL l x = l.set j x
  | [], _, _, h, _, _ => absurd h (by simp)
  | y :: l, x, 0, _, _, he => by
    have : y.1 = x.1 := he
    simp [putL, this]
  | y :: l, x, j + 1, h, hn, he => by
    have h0 : y.1 ≠ x.1 := hn 0 (by simp) (by omega)
    simp only [putL, if_neg h0, List.set_cons_succ]
    rw [putL_at l x j (by simpa using h) (fun i hi hij => hn (i + 1) (by simpa using hi) (by omega)) he]
theorem hasL_yes {l : List VN} {x : ByteArray} {j : Nat} (h : j < l.length) (he : (l[j]'h).1 = x) : hasL l x = true := by
  unfold hasL
  rw [List.any_eq_true]
  exact ⟨_, List.getElem_mem h, by simpa using he⟩
theorem hasL_no {l : List VN} {x : ByteArray} (h : ∀ i (hi : i < l.length), (l[i]'hi).1 ≠ x) : hasL l x = false := by
  unfold hasL
  rw [List.any_eq_false]
  intro y hy
  obtain ⟨i, hi, rfl⟩ := List.getElem_of_mem hy
  simpa using h i hi
theorem setL_put {l : List VN} {x : VN} {j : Nat} (h : j < l.length) (hn : ∀ i (hi : i < l.length), i < j → (l[i]'hi).1 ≠ x.1) (he : (l[j]'h).1 = x.1) : setL l x = l.set j x := by
  unfold setL
  rw [if_pos (hasL_yes h he), putL_at l x j h hn he]
theorem insL_at : ∀ (l : List VN) (x : VN) (p : Nat), p ≤ l.length → (∀ i (hi : i < l.length), i < p → blt x.1.data.toList (l[i]'hi).1.data.toList = false) → (∀ h : p < l.length, blt x.1.data.toList (l[p]'h).1.data.toList = true) → insL l x = l.take p ++ x :: l.drop p
  | [], x, p, hp, _, _ => by
    have : p = 0 := by simpa using hp
    subst this
    rfl
  | y :: l, x, 0, _, _, hy => by
    have : blt x.1.data.toList y.1.data.toList = true := hy (by simp)
    simp [insL, this]
  | y :: l, x, p + 1, hp, hn, hy => by
    have h0 : blt x.1.data.toList y.1.data.toList = false := hn 0 (by simp) (by omega)
    simp only [insL, h0, Bool.false_eq_true, if_false, List.take_succ_cons, List.drop_succ_cons, List.cons_append]
    rw [insL_at l x p (by simpa using hp) (fun i hi hij => hn (i + 1) (by simpa using hi) (by omega)) (fun h => hy (by simpa using h))]
theorem setL_ins {l : List VN} {x : VN} {p : Nat} (hp : p ≤ l.length) (hne : ∀ i (hi : i < l.length), (l[i]'hi).1 ≠ x.1) (hn : ∀ i (hi : i < l.length), i < p → blt x.1.data.toList (l[i]'hi).1.data.toList = false) (hy : ∀ h : p < l.length, blt x.1.data.toList (l[p]'h).1.data.toList = true) :
    setL l x = l.take p ++ x :: l.drop p := by
  unfold setL
  rw [if_neg (by rw [hasL_no hne]; simp), insL_at l x p hp hn hy]
/-- Got, by its place. -/
theorem getL_at : ∀ (l : List VN) (x : ByteArray) (j : Nat) (h : j < l.length), (∀ i (hi : i < l.length), i < j → (l[i]'hi).1 ≠ x) → (l[j]'h).1 = x → getL l x = some (l[j]'h).2
  | [], _, _, h, _, _ => absurd h (by simp)
  | y :: l, x, 0, _, _, he => by
    have : y.1 = x := he
    simp [getL, this]
  | y :: l, x, j + 1, h, hn, he => by
    have h0 : y.1 ≠ x := hn 0 (by simp) (by omega)
    simp only [getL, if_neg h0, List.getElem_cons_succ]
    exact getL_at l x j (by simpa using h) (fun i hi hij => hn (i + 1) (by simpa using hi) (by omega)) he
theorem getL_none : ∀ (l : List VN) (x : ByteArray), (∀ i (hi : i < l.length), (l[i]'hi).1 ≠ x) → getL l x = none
  | [], _, _ => rfl
  | y :: l, x, h => by
    have h0 : y.1 ≠ x := h 0 (by simp)
    simp only [getL, if_neg h0]
    exact getL_none l x fun i hi => h (i + 1) (by simpa using hi)
end Go.Proofs.YtidomoibhjgkjaaGreatDoor

/-
  What package value has to answer of variables, as contracts; and the walk of ValueSets.
-/
namespace Go.Proofs.YtidomoibhjgkjaaGreatDoor
open Go.RowKit

/-- What Get answers. -/
def getO (l : List VN) (name : ByteArray) : V := (getL l name).getD V0
def RetVars (m : List VN) (w : World) (r : Ending) (w' : World) : Prop :=
  ∃ A c, r = .returned (.slice A m.length c) ∧ m.length ≤ c ∧ c ≤ maxLen ∧ (A = none → c = 0) ∧ RowN w' 0 w'.heap.size A m ∧ Below w.heap.size w w'
def shortV (l : List VN) : Prop := l.length ≤ 41 ∧ ∀ x ∈ l, x.1.size ≤ 100 ∧ x.2.s.size ≤ 200
def GetC : Prop := ∀ (l : List VN) (A : Option Addr) (c : Nat) (name : ByteArray) (w : World), shortV l → name.size ≤ 100 → l.length ≤ c → c ≤ maxLen → (A = none → c = 0) → RowN w 0 w.heap.size A l →
  Calls Tryz.prog 33 #[.slice A l.length c, .string name] w fun r w' => r = .returned (.tuple #[(getO l name).val, .bool (getL l name).isSome]) ∧ Below w.heap.size w w'
/-- A variable in a block of its own. -/
def BoxN (w : World) (b : Nat) (x : VN) : Prop := w.heap[b]? = some (.cells #[.string x.1, .int .i64 x.2.k, .int .i64 x.2.n, .string x.2.s] 67 (0, 0))
theorem BoxN.new (w : World) (nm : ByteArray) (k n : Int) (s : ByteArray) : BoxN (w.alloc (.cells #[.string nm, .int .i64 k, .int .i64 n, .string s] 67)) w.heap.size (nm, ⟨k, n, s⟩) := heap_alloc_new w _
theorem BoxN.lt {w : World} {b : Nat} {x : VN} (h : BoxN w b x) : b < w.heap.size := (Array.getElem?_eq_some_iff.1 h).1
theorem BoxN.below {w w' : World} {b : Nat} {x : VN} (h : BoxN w b x) (hb : Below w.heap.size w w') : BoxN w' b x := (hb.block b h.lt).trans h
theorem BoxN.grown {w w' : World} {b : Nat} {x : VN} {row : Option Nat} (h : BoxN w b x) (hg : w.grownBy w' row) (hne : row ≠ some b) : BoxN w' b x := (hg.block b h.lt (fun e => hne e.symm)).trans h
theorem BoxN.cells {w : World} {b : Nat} {x : VN} (h : BoxN w b x) : w.cell? ⟨b, 0, none⟩ = some (.string x.1) ∧ w.cell? ⟨b, 1, none⟩ = some (.int .i64 x.2.k) ∧ w.cell? ⟨b, 2, none⟩ = some (.int .i64 x.2.n) ∧ w.cell? ⟨b, 3, none⟩ = some (.string x.2.s) :=
  ⟨cell_of_row _ _ 0 _ _ _ h, cell_of_row _ _ 1 _ _ _ h, cell_of_row _ _ 2 _ _ _ h, cell_of_row _ _ 3 _ _ _ h⟩
theorem RowN.one (w : World) (nm : ByteArray) (k n : Int) (s : ByteArray) : RowN (w.alloc (.cells #[.string nm, .int .i64 k, .int .i64 n, .string s] 67)) 0 (w.heap.size + 1) (some ⟨w.heap.size, 0, none⟩) [(nm, ⟨k, n, s⟩)] := fun _ => by
  refine ⟨w.heap.size, 0, rfl, Nat.zero_le _, by omega, fun j hj => ?_⟩
  have h0 : j = 0 := by simpa using hj
  subst h0
  exact (BoxN.new w nm k n s).cells

namespace valueSets

theorem vars_one (ok : ByteArray → Bool) (l : List VN) (x : VN) : (varsL ok l = 0 ∧ varsL ok [x] = 0 ∧ varsL ok (setL l x) = 0) ∨ (varsL ok l = 0 ∧ varsL ok [x] = 0 ∧ varsL ok (setL l x) = 3 ∧ 8 < (setL l x).length) ∨ varsL ok l ≠ 0 ∨ (varsL ok l = 0 ∧ varsL ok [x] ≠ 0) := by
  by_cases h1 : varsL ok l = 0
  · by_cases h2 : varsL ok [x] = 0
    · rcases vars_set h1 h2 with h | ⟨h, h8⟩
      · exact .inl ⟨h1, h2, h⟩
      · exact .inr (.inl ⟨h1, h2, h, h8⟩)
    · exact .inr (.inr (.inr ⟨h1, h2⟩))
  · exact .inr (.inr (.inl h1))
theorem short_set {l : List VN} {x : VN} (hl : fewV l = true) (hx : fewV [x] = true) : shortV (setL l x) := by
  obtain ⟨a, b⟩ := fewV_yes hl
  obtain ⟨c, _⟩ := fewV_yes hx
  refine ⟨by have := set_len l x; omega, fun y hy => ?_⟩
  rcases mem_set hy with rfl | h
  · exact c _ (List.mem_cons_self ..)
  · exact a y h

end valueSets
end Go.Proofs.YtidomoibhjgkjaaGreatDoor

/-
  Package value: variables: Get, by slices.IndexFunc; and a clone of variables.
-/
namespace Go.Proofs.YtidomoibhjgkjaaGreatDoor
open Go.RowKit

/-- Where the first variable stands of which p holds. -/
def At (l : List VN) (p : VN → Bool) (z : Int) : Prop :=
  (∃ j, ∃ h : j < l.length, z = (j : Int) ∧ p (l[j]'h) = true ∧ ∀ i (hi : i < l.length), i < j → p (l[i]'hi) = false) ∨ (z = -1 ∧ ∀ i (hi : i < l.length), p (l[i]'hi) = false)
def PredV (g : Nat) (lb : Array Value) (p : VN → Bool) (w : World) : Prop :=
  ∀ (W : World) (x : VN), Below w.heap.size w W → Calls Tryz.prog g (#[varVal x] ++ lb) W fun e w' => e = .returned (.bool (p x)) ∧ Below w.heap.size w w'

set_option maxHeartbeats 2000000 in
theorem index_any (p : VN → Bool) (g : Nat) (lb : Array Value) (eg : ∀ args w, (callFunc g args).run Tryz.prog w = .ok (.enter g args) w) (l : List VN) (A : Option Addr) (c lo hi : Nat) (w : World)
    (hp : PredV g lb p w) (hl : l.length ≤ 9223372036854775807) (hr : RowN w lo hi A l) (hhi : hi ≤ w.heap.size) :
    Calls Tryz.prog 102 #[.slice A l.length c, .func (.func g) #[] lb] w fun e w' => (∃ z : Int, e = .returned (.int .i64 z) ∧ At l p z) ∧ Below w.heap.size w w' := by
  have HR := Lib.hid hr
  have HP := Lib.hid hp
  clear hr hp
  go_enter Tryz.func102, Tryz.ntmps102
  go_wp2
  go_loopg [5, 8] l.length (fun q _ i wr => ∃ j : Nat, j + q = l.length ∧ i = .int .i64 j ∧ (∀ i (hi : i < l.length), i < j → p (l[i]'hi) = false) ∧ Below w.heap.size w wr)
  case atStart => exact ⟨0, by omega, rfl, fun i _ h => absurd h (by omega), Below.refl _ _⟩
  case round =>
    obtain ⟨j, hk, rfl, hall, hb⟩ := hrel
    have HK := Lib.hid hk
    have HA := Lib.hid hall
    have HB := Lib.hid hb
    clear hall hb hk
    by_cases hj : j < l.length
    · have hlt : decide ((j : Int) < (l.length : Int)) = true := by simpa using hj
      have hlt2 : decide (j < l.length) = true := by simpa using hj
      obtain ⟨b, o, rfl, hv⟩ := (HR.out.below HB.out hhi).at_ hj
      obtain ⟨c0, c1, c2, c3⟩ := hv
      have hcall := HP.out wr (l[j]'hj) HB.out
      have HT := Lib.hid (fun (h : p (l[j]'hj) = true) => show At l p (j : Int) from .inl ⟨j, hj, rfl, h, HA.out⟩)
      have HF := Lib.hid (fun (h : p (l[j]'hj) = false) => show ∀ i (hi : i < l.length), i < j + 1 → p (l[i]'hi) = false from fun i hi hij => by
          by_cases e : i = j
          · subst e; exact h
          · exact HA.out i hi (by omega))
      generalize l[j]'hj = x at *
      obtain ⟨nm, k, n, s⟩ := x
      simp only at c0 c1 c2 c3
      unfold varVal at hcall
      simp only at hcall
      cases hq : p (nm, ⟨k, n, s⟩) with
      | true =>
        rw [hq] at hcall
        have HC := Lib.hid hcall
        have HQ := Lib.hid hq
        clear hcall hq
        go_wp2_with (go_at_fn g; refine HC.out.mono ?_; rintro e w' ⟨rfl, hb'⟩)
        go_ret
        exact ⟨⟨_, rfl, HT.out HQ.out⟩, hb'⟩
      | false =>
        rw [hq] at hcall
        have HC := Lib.hid hcall
        have HQ := Lib.hid hq
        clear hcall hq
        go_wp2_with (go_at_fn g; refine HC.out.mono ?_; rintro e w' ⟨rfl, hb'⟩)
        go_roundg (gk - 1)
        case measure => have := HK.out; omega
        case rel => exact ⟨j + 1, by have := HK.out; omega, by go_num, HF.out HQ.out, hb'⟩
    · have hlt : decide ((j : Int) < (l.length : Int)) = false := by simpa using hj
      have HN := Lib.hid (show At l p (-1) from .inr ⟨rfl, fun i hi => HA.out i hi (by omega)⟩)
      go_wp2
      go_ret
      exact ⟨⟨_, rfl, HN.out⟩, HB.out⟩

/-- Where the first variable of a name stands. -/
def Found (l : List VN) (name : ByteArray) (z : Int) : Prop :=
  (∃ j, ∃ h : j < l.length, z = (j : Int) ∧ (l[j]'h).1 = name ∧ ∀ i (hi : i < l.length), i < j → (l[i]'hi).1 ≠ name) ∨ (z = -1 ∧ ∀ i (hi : i < l.length), (l[i]'hi).1 ≠ name)
theorem same_name (a b : ByteArray) : (a.toList == b.toList) = true ↔ a = b := by
  rw [beq_iff_eq, ByteArray.toList_eq, ByteArray.toList_eq]
  exact ⟨ba_list, fun h => by rw [h]⟩
theorem At.name {l : List VN} {name : ByteArray} {z : Int} (h : At l (fun y => y.1.toList == name.toList) z) : Found l name z := by
  have no : ∀ a : ByteArray, (a.toList == name.toList) = false → a ≠ name := fun a h e => by
    rw [(same_name a name).2 e] at h; cases h
  rcases h with ⟨j, hj, e, h1, h2⟩ | ⟨e, h⟩
  · exact .inl ⟨j, hj, e, (same_name _ _).1 h1, fun i hi hij => no _ (h2 i hi hij)⟩
  · exact .inr ⟨e, fun i hi => no _ (h i hi)⟩

theorem find_pred (name : ByteArray) (B : Nat) (w : World) (hB : B < w.heap.size) (hc : w.cell? ⟨B, 0, none⟩ = some (.string name)) :
    PredV 103 #[.pointer (some ⟨B, 0, none⟩)] (fun y => y.1.toList == name.toList) w := fun W x hb => by
  have hc' : W.cell? ⟨B, 0, none⟩ = some (.string name) := (hb.cell (p := ⟨B, 0, none⟩) hB).trans hc
  have hBW : B < W.heap.size := Nat.lt_of_lt_of_le hB hb.size
  have hne : B ≠ W.heap.size := by omega
  obtain ⟨nm, k, n, s⟩ := x
  show Calls Tryz.prog 103 #[.agg #[.string nm, .int .i64 k, .int .i64 n, .string s], .pointer (some ⟨B, 0, none⟩)] W _
  go_enter Tryz.func103, Tryz.ntmps103
  go_wp2
  go_ret
  exact ⟨rfl, hb.alloc hb.size _⟩
theorem find_any (l : List VN) (A : Option Addr) (c lo hi : Nat) (name : ByteArray) (w : World) (hl : l.length ≤ 9223372036854775807) (hr : RowN w lo hi A l) (hhi : hi ≤ w.heap.size) :
    Calls Tryz.prog 63 #[.slice A l.length c, .string name] w fun e w' => (∃ z : Int, e = .returned (.int .i64 z) ∧ Found l name z) ∧ Below w.heap.size w w' := by
  have eg : ∀ args w, (callFunc 103 args).run Tryz.prog w = .ok (.enter 103 args) w := enters_of Tryz.func103 (by kernel_rfl) rfl
  have hb : Below w.heap.size w (w.alloc (.cells #[.string name] 9)) := box_below _ _ _
  have HC := Lib.hid (index_any (fun y => y.1.toList == name.toList) 103 #[.pointer (some ⟨w.heap.size, 0, none⟩)] eg l A c lo hi (w.alloc (.cells #[.string name] 9)) (find_pred name w.heap.size _ (by simp) (by simp)) hl (hr.below hb hhi) (by simp; omega))
  have HB := Lib.hid hb
  clear eg hb hr
  go_enter Tryz.func63, Tryz.ntmps63
  go_wp2_with (go_at_call 102; refine HC.out.mono ?_; rintro e w' ⟨⟨z, rfl, hz⟩, hb'⟩)
  go_ret
  exact ⟨⟨_, rfl, hz.name⟩, HB.out.trans (hb'.mono HB.out.size)⟩

set_option maxRecDepth 100000 in
set_option maxHeartbeats 2000000 in
theorem vGet_any : GetC := by
  intro l A c name w hsh hname hc _ hz hr
  have hl := hsh.1
  have hb0 := box_below w #[.int .i64 0, .int .i64 0, .string ⟨#[]⟩] 27
  have HF := Lib.hid (find_any l A c 0 w.heap.size name _ (by omega) (hr.below hb0 (Nat.le_refl _)) hb0.size)
  have HR := Lib.hid hr
  have HB0 := Lib.hid hb0
  have HX0 := Lib.hid (Boxed.new w 0 0 ⟨#[]⟩)
  clear hr hsh hb0
  go_enter Tryz.func33, Tryz.ntmps33
  go_wp2_with fail
  refine HF.out.mono ?_
  rintro e w1 ⟨⟨z, rfl, hz⟩, hb⟩
  have HX := Lib.hid (HX0.out.below hb)
  have HB := Lib.hid (HB0.out.trans (hb.mono HB0.out.size))
  clear hb HF HX0 HB0
  obtain ⟨r0, r1, r2⟩ := HX.out.cells
  have f0 := HX.out.frozen 0
  have f1 := HX.out.frozen 1
  have f2 := HX.out.frozen 2
  have hlx := HX.out.lt
  rcases hz with ⟨j, hj, rfl, he, hbef⟩ | ⟨rfl, hno⟩
  · have HG := Lib.hid (getL_at l name j hj hbef he)
    have hlt : decide ((0 : Int) ≤ (j : Int)) = true := by simp
    have hlt2 : decide (j < l.length) = true := by simpa using hj
    have hlt3 : decide ((j : Int) < (l.length : Int)) = true := by simpa using hj
    obtain ⟨b, o, rfl, hv⟩ := (HR.out.below HB.out (Nat.le_refl _)).at_ hj
    obtain ⟨c0, c1, c2, c3⟩ := hv
    clear he hbef
    generalize l[j] = x at *
    obtain ⟨nm, k, n, s⟩ := x
    simp only at c0 c1 c2 c3 HG
    go_wp2
    obtain ⟨t0, t1, t2⟩ := (HX.out.set3' k n s).cells
    have HP := Lib.hid (Below.set3' HB.out (Nat.le_refl _) (.int .i64 k) (.int .i64 n) (.string s))
    refine bodyPost_ret (v := .tuple #[.agg #[.int .i64 k, .int .i64 n, .string s], .bool true]) (by simp [results, Tryz.results33, go_sem, t0, t1, t2]) rfl ⟨?_, HP.out⟩
    rw [getO, HG.out]
    rfl
  · have HG := Lib.hid (getL_none l name hno)
    clear hno
    go_wp2
    obtain ⟨t0, t1, t2⟩ := (HX.out.set3' 0 0 ⟨#[]⟩).cells
    have HP := Lib.hid (Below.set3' HB.out (Nat.le_refl _) (.int .i64 0) (.int .i64 0) (.string ⟨#[]⟩))
    refine bodyPost_ret (v := .tuple #[.agg #[.int .i64 0, .int .i64 0, .string ⟨#[]⟩], .bool false]) (by simp [results, Tryz.results33, go_sem, t0, t1, t2]) rfl ⟨?_, HP.out⟩
    rw [getO, HG.out]
    rfl

/-- A block that begins with variables. -/
def RowC (w : World) (g : Nat) (l : List VN) : Prop := ∃ rest, w.heap[g]? = some (.cells (flatV l ++ rest).toArray 67 (0, 0))
theorem RowC.lt {w : World} {g : Nat} {l : List VN} (h : RowC w g l) : g < w.heap.size := by
  obtain ⟨_, h⟩ := h
  exact (Array.getElem?_eq_some_iff.1 h).1
theorem RowC.frozen {w : World} {g : Nat} {l : List VN} (h : RowC w g l) (o : Nat) : w.frozen? ⟨g, o, none⟩ = false := by
  obtain ⟨_, h⟩ := h
  simp [World.frozen?, h]
theorem RowC.at_ {w : World} {g j : Nat} {l : List VN} (h : RowC w g l) (hj : j < l.length) : VarAt w g (j * 4) (l[j]'hj) := by
  obtain ⟨rest, h⟩ := h
  obtain ⟨h0, h1, h2, h3⟩ := flatV_at l j hj
  have hl := flatV_len l
  unfold VarAt
  rw [cell_of_row _ g _ _ _ _ h, cell_of_row _ g _ _ _ _ h, cell_of_row _ g _ _ _ _ h, cell_of_row _ g _ _ _ _ h]
  simp only [List.getElem?_toArray]
  rw [List.getElem?_append_left (by omega), List.getElem?_append_left (by omega), List.getElem?_append_left (by omega), List.getElem?_append_left (by omega)]
  exact ⟨h0, h1, h2, h3⟩
theorem RowC.reads {w : World} {g : Nat} {l : List VN} (h : RowC w g l) : RowN w g (g + 1) (some ⟨g, 0, none⟩) l := fun _ =>
  ⟨g, 0, rfl, Nat.le_refl _, by omega, fun j hj => by rw [Nat.zero_add]; exact h.at_ hj⟩
theorem flatV_setV : ∀ (l : List VN) (j : Nat) (h : j < l.length) (v : V), (((flatV l).set (j * 4 + 1) (.int .i64 v.k)).set (j * 4 + 2) (.int .i64 v.n)).set (j * 4 + 3) (.string v.s) = flatV (l.set j ((l[j]'h).1, v))
  | x :: l, 0, _, v => by simp [flatV_cons, varCells]
  | x :: l, j + 1, h, v => by
    have e : ∀ i (y : Value) (m : List Value), (varCells x ++ m).set ((j + 1) * 4 + i) y = varCells x ++ m.set (j * 4 + i) y := fun i y m => by
      have hx : (varCells x).length = 4 := rfl
      rw [List.set_append_right _ _ (by omega), hx]
      congr 2
      omega
    rw [flatV_cons, e, e, e, flatV_setV l j (by simpa using h) v, List.set_cons_succ, flatV_cons]
    rfl
theorem RowC.store {w : World} {g : Nat} {l : List VN} (h : RowC w g l) (j : Nat) (v : V) (hj : j < l.length) :
    RowC (((w.setCell ⟨g, j * 4 + 1, none⟩ (.int .i64 v.k)).setCell ⟨g, j * 4 + 2, none⟩ (.int .i64 v.n)).setCell ⟨g, j * 4 + 3, none⟩ (.string v.s)) g (l.set j ((l[j]'hj).1, v)) := by
  have hl := flatV_len l
  obtain ⟨rest, h⟩ := h
  refine ⟨rest, ?_⟩
  simp only [World.setCell, Array.getElem?_modify, h, if_true, Option.map_some]
  congr 2
  apply Array.toList_inj.1
  simp only [Option.isSome_none, Bool.false_eq_true, if_false, Array.toList_setIfInBounds]
  rw [List.set_append_left _ _ (by omega), List.set_append_left _ _ (by rw [List.length_set]; omega), List.set_append_left _ _ (by rw [List.length_set, List.length_set]; omega), flatV_setV l j hj v]

end Go.Proofs.YtidomoibhjgkjaaGreatDoor
