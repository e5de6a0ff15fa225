import Derived.Test.YtooegjdppeiccaaZC13
import Derived.Test.YtooegjdppeiccaaZC02
import Derived.Deep.LoopGhost
import Derived.RegionTactic
/-
  The chapter's examples on stores.
-/
namespace Go.Proofs.Ytooegjdppeiccaa
open Go.RowKit

def st1 : PS := ⟨1, [([97], [⟨1, false, [120]⟩])]⟩
def st2 : PS := ⟨2, [([97], [⟨1, false, [120]⟩, ⟨2, true, []⟩])]⟩
theorem live_1 : commitS BigL ⟨0, []⟩ [⟨[97], false, [120]⟩] 0 = (st1, 1, 0) := by rfl
theorem live_2 : commitS BigL st1 [⟨[97], true, []⟩] 0 = (st2, 2, 0) := by rfl
theorem live_3 : readS st2.K [97] 1 = some [120] := by decide
theorem live_4 : readS st2.K [97] 2 = none := by decide
theorem live_5 : collectS st2.K 2 = [] := by rfl
theorem live_6 : versS st2.K - versS (collectS st2.K 2) = 2 := by rfl
theorem okW_one (k d : List UInt8) (g : Bool) (h1 : k.length ≤ 1048576) (h2 : d.length ≤ 1048576) : okW [⟨k, g, d⟩] := ⟨by simp, fun w hw => by
  rw [List.mem_singleton] at hw
  subst hw
  exact ⟨h1, h2⟩⟩
theorem write_one (w : World) (k : KeyS) (g : Bool) (hk : k.length ≤ maxLen) : ChW (w.alloc (.cells #[.string (bs k), .bool g, .slice none 0 0] 84)) w.heap.size (w.heap.size + 1) (some ⟨w.heap.size, 0, none⟩) 1 [⟨k, g, []⟩] :=
  ⟨Nat.le_refl _, by unfold maxLen; simp, (fun e => by cases e), [⟨⟨k, g, []⟩, none, 0⟩], rfl, RowG.one (cs := mwCells) (x := ⟨⟨k, g, []⟩, none, 0⟩) (heap_alloc_new w _), fun x hx => by
    rw [List.mem_singleton] at hx
    subst hx
    exact ⟨hk, SlI.none_ _ _ _⟩⟩

set_option maxRecDepth 100000 in
set_option maxHeartbeats 8000000 in
theorem liveJ_any {St : InStore} (K : StoreC St) (w : World) : Calls Try.prog 11 #[] w fun r w' => r = .returned (.bool true) ∧ Below w.heap.size w w' := by
  have HBig := Lib.hid (big_any w)
  have HNew : Hid (∀ W, Calls Try.prog 13 #[limVal BigL 1000 1000 16] W fun r w' => Below W.heap.size W w' ∧ ∃ p F, r = .returned (.tuple #[ptrS p, .int .i64 0]) ∧ St w' p F BigL ⟨0, []⟩ ∧ ∀ k, F k → W.heap.size ≤ k) := Lib.hid fun W =>
    (K.new BigL 1000 1000 16 W (by unfold I64; decide) (by unfold I64; decide) (by unfold I64; decide) (by decide)).mono fun _ _ q => by
      rw [if_pos big_may] at q
      exact q
  have HPut := Lib.hid put_ax
  have HC1 : Hid (∀ p F W A lo hi, St W p F BigL ⟨0, []⟩ → ChW W lo hi A 1 [⟨[97], false, [120]⟩] → hi ≤ W.heap.size → (∀ k, F k → k < lo ∨ hi ≤ k) → Calls Try.prog 54 #[ptrS p, .slice A 1 1, .int .u64 0] W (Turns St W p F BigL st1 (.tuple #[.int .u64 1, .int .i64 0]))) := Lib.hid fun p F W A lo hi h1 h2 h3 h4 => by
    have h := K.commit p F BigL ⟨0, []⟩ [⟨[97], false, [120]⟩] lo hi A 1 0 W h1 (okW_one _ _ _ (by simp) (by simp)) h2 h3 h4 (by omega)
    rw [live_1] at h
    exact h
  have HC2 : Hid (∀ p F W A lo hi, St W p F BigL st1 → ChW W lo hi A 1 [⟨[97], true, []⟩] → hi ≤ W.heap.size → (∀ k, F k → k < lo ∨ hi ≤ k) → Calls Try.prog 54 #[ptrS p, .slice A 1 1, .int .u64 0] W (Turns St W p F BigL st2 (.tuple #[.int .u64 2, .int .i64 0]))) := Lib.hid fun p F W A lo hi h1 h2 h3 h4 => by
    have h := K.commit p F BigL st1 [⟨[97], true, []⟩] lo hi A 1 0 W h1 (okW_one _ _ _ (by simp) (by simp)) h2 h3 h4 (by omega)
    rw [live_2] at h
    exact h
  have HR1 : Hid (∀ p F W, St W p F BigL st2 → Calls Try.prog 56 #[ptrS p, .string ⟨#[97]⟩, .int .u64 1] W fun r w' => ∃ A c, r = .returned (.tuple #[.slice A 1 c, .bool true]) ∧ SlI w' W.heap.size w'.heap.size A c [120] ∧ Below W.heap.size W w') := Lib.hid fun p F W h => by
    have h := K.read p F BigL st2 [97] 1 W h (by simp) (by omega)
    rw [live_3] at h
    exact h
  have HR2 : Hid (∀ p F W, St W p F BigL st2 → Calls Try.prog 56 #[ptrS p, .string ⟨#[97]⟩, .int .u64 2] W fun r w' => ∃ A c, r = .returned (.tuple #[.slice A 0 c, .bool false]) ∧ Below W.heap.size W w') := Lib.hid fun p F W h => by
    have h := K.read p F BigL st2 [97] 2 W h (by simp) (by omega)
    rw [live_4] at h
    exact h.mono fun _ _ ⟨A, c, e, _, hb⟩ => ⟨A, c, e, hb⟩
  have HCo : Hid (∀ p F W, St W p F BigL st2 → Calls Try.prog 57 #[ptrS p, .int .u64 2] W (Turns St W p F BigL ⟨2, []⟩ (.int .i64 2))) := Lib.hid fun p F W h => by
    have h := K.collect p F BigL st2 2 W h (by omega)
    rw [live_6, live_5] at h
    exact h
  have HKe : Hid (∀ p F W, St W p F BigL ⟨2, []⟩ → Calls Try.prog 24 #[ptrS p] W fun r w' => ∃ A c, r = .returned (.slice A 0 c) ∧ Below W.heap.size W w') := Lib.hid fun p F W h =>
    (K.keys p F BigL ⟨2, []⟩ W h).mono fun _ _ ⟨A, c, e, _, _, _, _, hb⟩ => ⟨A, c, e, hb⟩
  have HKeep : Hid (∀ (W W' : World) (p : Nat) (F : Nat → Prop) (st : PS), St W p F BigL st → (∀ k, F k → W'.heap[k]? = W.heap[k]?) → St W' p F BigL st) := Lib.hid fun W W' p F st h => K.keep h
  have HUp : Hid (∀ (W : World) (p : Nat) (F : Nat → Prop) (st : PS), St W p F BigL st → ∀ k, F k → k < W.heap.size) := Lib.hid fun W p F st h => K.upto h
  clear K
  go_enter Try.func11, Try.ntmps11
  go_wp2_with fail
  refine HBig.out.mono ?_
  rintro r w1 ⟨rfl, hb1⟩
  have HB1 := Lib.hid hb1
  have H1 := Lib.hid (HNew.out w1)
  clear hb1 HNew
  go_wp2_with fail
  refine H1.out.mono ?_
  rintro r w2 ⟨hb2, p, F, rfl, hst2, hF2⟩
  have HB2 := Lib.hid (HB1.out.trans (hb2.mono HB1.out.size))
  have HF2 : Hid (∀ k, F k → w.heap.size ≤ k) := Lib.hid fun k hk => Nat.le_trans HB1.out.size (hF2 k hk)
  have HS2 := Lib.hid hst2
  have H2 := Lib.hid (HPut.out w2)
  clear hb2 hst2 hF2 HBig H1 HPut
  unfold ptrS
  go_wp2_with fail
  refine H2.out.mono ?_
  rintro r w3 ⟨A3, rfl, hc3, hb3⟩
  have HB3 := Lib.hid (HB2.out.trans (hb3.mono HB2.out.size))
  have hst3 := HKeep.out _ w3 _ _ _ HS2.out fun k hk => hb3.block k (HUp.out _ _ _ _ HS2.out k hk)
  have H3 := Lib.hid (HC1.out p F w3 A3 _ _ hst3 hc3 (Nat.le_refl _) fun k hk => .inl (Nat.lt_of_lt_of_le (HUp.out _ _ _ _ HS2.out k hk) (Nat.le_refl _)))
  clear hc3 hb3 hst3 H2
  unfold ptrS at H3
  go_wp2_with fail
  refine H3.out.mono ?_
  rintro r w4 ⟨rfl, F4, hst4, hm4, hF4⟩
  have HB4 := Lib.hid (HB3.out.trans (hm4.below HB3.out.size HF2.out))
  have HF4 : Hid (∀ k, F4 k → w.heap.size ≤ k) := Lib.hid fun k hk => (hF4 k hk).elim (HF2.out k) (Nat.le_trans HB3.out.size)
  have HS4 := Lib.hid hst4
  clear hst4 hm4 hF4 H3
  have hc5 := write_one w4 [97] true (by unfold maxLen; simp)
  have hst5 := HKeep.out _ (w4.alloc (.cells #[.string (bs [97]), .bool true, .slice none 0 0] 84)) _ _ _ HS4.out fun k hk => ((Below.refl _ w4).alloc (Nat.le_refl _) _).block k (HUp.out _ _ _ _ HS4.out k hk)
  have H5 : Hid (Calls Try.prog 54 #[.pointer (some ⟨p, 0, none⟩), .slice (some ⟨w4.heap.size, 0, none⟩) 1 1, .int .u64 0] (w4.alloc (.cells #[.string ⟨#[97]⟩, .bool true, .slice none 0 0] 84)) (Turns St (w4.alloc (.cells #[.string (bs [97]), .bool true, .slice none 0 0] 84)) p F4 BigL st2 (.tuple #[.int .u64 2, .int .i64 0]))) := Lib.hid (HC2.out p F4 _ _ _ _ hst5 hc5 (by simp) fun k hk => .inl (HUp.out _ _ _ _ HS4.out k hk))
  have HB5 := Lib.hid (HB4.out.alloc HB4.out.size (.cells #[.string (bs [97]), .bool true, .slice none 0 0] 84))
  clear hc5 hst5
  go_wp2_with fail
  refine H5.out.mono ?_
  rintro r w6 ⟨rfl, F6, hst6, hm6, hF6⟩
  have HB6 := Lib.hid (HB5.out.trans (hm6.below HB5.out.size HF4.out))
  have HF6 : Hid (∀ k, F6 k → w.heap.size ≤ k) := Lib.hid fun k hk => (hF6 k hk).elim (HF4.out k) (Nat.le_trans HB5.out.size)
  have HS6 := Lib.hid hst6
  have H6 := Lib.hid (HR1.out p F6 w6 hst6)
  clear hst6 hm6 hF6 H5
  unfold ptrS at H6
  go_wp2_with fail
  refine H6.out.mono ?_
  rintro r w7 ⟨A7, c7, rfl, hs7, hb7⟩
  have HB7 := Lib.hid (HB6.out.trans (hb7.mono HB6.out.size))
  have hst7 := HKeep.out _ w7 _ _ _ HS6.out fun k hk => hb7.block k (HUp.out _ _ _ _ HS6.out k hk)
  have HS7 := Lib.hid hst7
  have HD7 := Lib.hid hs7
  have H7 := Lib.hid (HR2.out p F6 w7 hst7)
  clear hst7 hb7 hs7 H6
  unfold ptrS at H7
  go_wp2_with fail
  refine H7.out.mono ?_
  rintro r w8 ⟨A8, c8, rfl, hb8⟩
  have HB8 := Lib.hid (HB7.out.trans (hb8.mono HB7.out.size))
  have hst8 := HKeep.out _ w8 _ _ _ HS7.out fun k hk => hb8.block k (HUp.out _ _ _ _ HS7.out k hk)
  have hcv : (convert 41 9 (.slice A7 1 c7)).run Try.prog w8 = .ok (.string ⟨#[120]⟩) w8 := conv_ret (m := [120]) rfl (HD7.out.2.2.2.keep fun q _ h2 => World.cell?_of_block (hb8.block q.block h2))
  have H8 := Lib.hid (HCo.out p F6 w8 hst8)
  clear hst8 hb8 H7
  unfold ptrS at H8
  go_wp2_with fail
  refine H8.out.mono ?_
  rintro r w9 ⟨rfl, F9, hst9, hm9, hF9⟩
  have HB9 := Lib.hid (HB8.out.trans (hm9.below HB8.out.size HF6.out))
  have H9 := Lib.hid (HKe.out p F9 w9 hst9)
  clear hst9 hm9 hF9 H8 hcv
  unfold ptrS at H9
  go_wp2_with fail
  refine H9.out.mono ?_
  rintro r w10 ⟨A10, c10, rfl, hb10⟩
  have HB10 := Lib.hid (HB9.out.trans (hb10.mono HB9.out.size))
  clear hb10 H9
  go_wp2_with fail
  go_ret
  exact ⟨rfl, HB10.out⟩
end Go.Proofs.Ytooegjdppeiccaa

/-
  What the laws on stores call, in any world behind a first one.
-/
namespace Go.Proofs.Ytooegjdppeiccaa
open Go.RowKit

theorem string_leqJ (t : TypeId) (a b : ByteArray) : binOp .leq t (.string a) (.string b) = pure (.bool (Op.bytesLess a.toList b.toList || a.toList == b.toList)) := by simp [binOp, Op.stringOp]
theorem string_geqJ (t : TypeId) (a b : ByteArray) : binOp .geq t (.string a) (.string b) = pure (.bool !(Op.bytesLess a.toList b.toList)) := by simp [binOp, Op.stringOp]
theorem box_farJ {w : World} {b g : Nat} (hg : g ≠ b) (o : Nat) (v : Value) : (w.setCell ⟨b, o, none⟩ v).heap[g]? = w.heap[g]? := by
  have hg' : b ≠ g := fun e => hg e.symm
  simp [World.setCell, Array.getElem?_modify, hg']
/-- A store in a world behind w, in memory that is newer than w. -/
structure NewS (St : InStore) (w W : World) (p : Nat) (F : Nat → Prop) (L : LimS) (st : PS) : Prop where
  below : Below w.heap.size w W
  st : St W p F L st
  new : ∀ k, F k → w.heap.size ≤ k
section
variable {St : InStore} {w : World}
theorem NewS.next (K : StoreC St) {W W' : World} {p : Nat} {F : Nat → Prop} {L : LimS} {st : PS} (h : NewS St w W p F L st) (hb : Below W.heap.size W W') : NewS St w W' p F L st :=
  ⟨h.below.trans (hb.mono h.below.size), K.keep h.st fun k hk => hb.block k (K.upto h.st k hk), h.new⟩
theorem NewS.turn {W W' : World} {p : Nat} {F F' : Nat → Prop} {L : LimS} {st st' : PS} (h : NewS St w W p F L st) (hst : St W' p F' L st') (hm : Mut F W W') (hF : ∀ k, F' k → F k ∨ W.heap.size ≤ k) : NewS St w W' p F' L st' :=
  ⟨h.below.trans (hm.below h.below.size h.new), hst, fun k hk => (hF k hk).elim (h.new k) (Nat.le_trans h.below.size)⟩
theorem live_from (K : StoreC St) (w : World) : ∀ wx, Below w.heap.size w wx → Calls Try.prog 11 #[] wx fun r w' => r = .returned (.bool true) ∧ Below w.heap.size w w' := fun wx hb =>
  (liveJ_any K wx).mono fun _ _ q => ⟨q.1, hb.trans (q.2.mono hb.size)⟩
theorem few_from {l : List OpS} {A : Option Addr} {c : Nat} (h : ChO w w.heap.size A c l) : ∀ wx, Below w.heap.size w wx → Calls Try.prog 12 #[.slice A l.length c] wx fun r w' => r = .returned (.bool (fewO l)) ∧ Below w.heap.size w w' := fun wx hb =>
  (fewO_any l A c w.heap.size wx (by have := h.1; have := h.2.1; unfold maxLen at *; omega) (h.2.2.2.below hb (Nat.le_refl _) (Nat.le_refl _)) hb.size).mono fun _ _ q => ⟨q.1, hb.trans (q.2.mono hb.size)⟩
theorem big_from (w : World) : ∀ wx, Below w.heap.size w wx → Calls Try.prog 53 #[] wx fun r w' => r = .returned (limVal BigL 1000 1000 16) ∧ Below w.heap.size w w' := fun wx hb =>
  (big_any wx).mono fun _ _ q => ⟨q.1, hb.trans (q.2.mono hb.size)⟩
/-- What made tells of far limits. -/
def MadeQ (St : InStore) (w : World) (r : Ending) (w' : World) : Prop := ∃ p F, r = .returned (ptrS p) ∧ NewS St w w' p F BigL ⟨0, []⟩
/-- What an operation tells, of a store that is newer than w. -/
def DidQ (St : InStore) (w : World) (W : World) (p : Nat) (F : Nat → Prop) (L : LimS) (st : PS) (o : OpS) (r : Ending) (w' : World) : Prop :=
  ∃ (A B : Option Addr) (c d lo hi : Nat) (F' : Nat → Prop), r = .returned (toldVal (doesS L st o).2 A c B d) ∧ ToldIn w' lo hi (doesS L st o).2 A c B d ∧ W.heap.size ≤ lo ∧ hi ≤ w'.heap.size ∧ (∀ k, F' k → k < lo ∨ hi ≤ k) ∧
    NewS St w w' p F' L (doesS L st o).1 ∧ Mut F W w' ∧ ∀ k, F' k → F k ∨ W.heap.size ≤ k
theorem does_from (K : StoreC St) {W : World} {p : Nat} {F : Nat → Prop} {L : LimS} {st : PS} (h : NewS St w W p F L st) (o : OpS) (A : Option Addr) (c : Nat) (hw : okW o.l) (hlo : o.lo.length ≤ 300) (hhi : o.hi.length ≤ 300) (harg : OkMO W w.heap.size ⟨o, A, c⟩) :
    Calls Try.prog 16 #[ptrS p, opVal o A c] W (DidQ St w W p F L st o) :=
  (does_any K o A c p F L st w.heap.size W h.st hw hlo hhi harg h.below.size h.new).mono fun _ _ ⟨A9, B9, c9, d9, lo, hi, F', e, h1, h2, h3, h4, h5, h6, h7⟩ =>
    ⟨A9, B9, c9, d9, lo, hi, F', e, h1, h2, h3, h4, h.turn h5 h6 h7, h6, h7⟩
theorem runS_ok (K : StoreC St) {W : World} {p : Nat} {F : Nat → Prop} {L : LimS} {st : PS} (h : NewS St w W p F L st) : OkS st := (K.okay h.st).1
end
end Go.Proofs.Ytooegjdppeiccaa

/-
  Chains, the document's own answers and the statements' own helpers: few, Right, Size.
-/
namespace Go.Proofs.Ytooegjdppeiccaa
open Go.RowKit

/-- Few versions, with little in each. -/
def fewVer (v : Ver) : Bool := decide (v.dat.length ≤ 1000)
def fewH (l : List Ver) : Bool := l.all fewVer && decide (l.length ≤ 100)
theorem fewH_yes {l : List Ver} (h : fewH l = true) : (∀ x ∈ l, x.dat.length ≤ 1000) ∧ l.length ≤ 100 := by
  unfold fewH at h
  rw [Bool.and_eq_true, List.all_eq_true] at h
  exact ⟨fun x hx => by simpa [fewVer] using h.1 x hx, by simpa using h.2⟩


theorem rightH_cons (t : Nat) (v : Ver) (l : List Ver) : rightH t (v :: l) = (decide (t < v.tm) && okVer v && rightH v.tm l) := rfl
set_option maxRecDepth 100000 in
set_option maxHeartbeats 2000000 in
theorem refRight_any (l : List Ver) (A : Option Addr) (c : Nat) (hi : Nat) (w : World) (hl : l.length ≤ 9223372036854775807) (hr : RowH w hi A l) (hhi : hi ≤ w.heap.size) :
    Calls Try.prog 125 #[.slice A l.length c] w fun r w' => r = .returned (.bool (rightC l)) ∧ Below w.heap.size w w' := by
  have HR := Lib.hid hr
  clear hr
  go_enter Try.func125, Try.ntmps125
  go_wp2
  go_loopg [3, 8] l.length (fun q v i wr => ∃ j t : Nat, j + q = l.length ∧ v = .int .u64 t ∧ i = .int .i64 j ∧ rightC l = rightH t (l.drop j) ∧ t < 18446744073709551616 ∧ Below w.heap.size w wr)
  case atStart => exact ⟨0, 0, by omega, rfl, rfl, rfl, by omega, Below.refl _ _⟩
  case round =>
    obtain ⟨j, t, hk, rfl, rfl, hall, ht, hb⟩ := hrel
    have HK := Lib.hid hk
    have HA := Lib.hid hall
    have HB := Lib.hid hb
    clear hall hb hk
    by_cases hj : j < l.length
    · have hlt : decide ((j : Int) < (l.length : Int)) = true := by simpa using hj
      have hlt2 : decide (j < l.length) = true := by simpa using hj
      obtain ⟨b, o, A', c', rfl, _, c0, c1, c2, hs, htm⟩ := (HR.out.below HB.out hhi (Nat.le_refl _)).at_ hj
      have HDR := Lib.hid (HA.out.trans (by rw [List.drop_eq_getElem_cons hj, rightH_cons]))
      have hdl : l[j].dat.length ≤ maxLen := Nat.le_trans hs.1 hs.2.1
      clear hs
      generalize l[j] = x at *
      obtain ⟨tm, gone, dat⟩ := x
      simp only at c0 c1 c2 hdl HDR htm
      have hbn := HB.out.alloc HB.out.size (.cells #[.int .u64 tm, .bool gone, .slice A' dat.length c'] 103)
      have HBN := Lib.hid hbn
      have HT := Lib.hid htm
      unfold maxLen at hdl
      clear hbn htm
      by_cases h1 : tm ≤ t
      · have d1 : decide ((tm : Int) ≤ (t : Int)) = true := by rw [decide_eq_true_iff]; omega
        have d2 : decide (tm ≤ t) = true := by rw [decide_eq_true_iff]; omega
        have HF := Lib.hid (HDR.out.trans (by rw [decide_eq_false (by omega : ¬ t < tm), Bool.false_and, Bool.false_and]))
        clear h1
        go_wp2
        go_ret
        rw [HF.out]
        exact ⟨rfl, HBN.out⟩
      · have d1 : decide ((tm : Int) ≤ (t : Int)) = false := by rw [decide_eq_false_iff_not]; omega
        have d2 : decide (tm ≤ t) = false := by rw [decide_eq_false_iff_not]; omega
        have HF := Lib.hid (HDR.out.trans (by rw [decide_eq_true (by omega : t < tm), Bool.true_and]))
        clear h1
        cases gone
        · have HF2 := Lib.hid (HF.out.trans (by rw [show okVer ⟨tm, false, dat⟩ = true from rfl, Bool.true_and]))
          go_wp2
          go_roundg (gk - 1)
          case measure => have := HK.out; omega
          case rel => exact ⟨j + 1, tm, by have := HK.out; omega, rfl, by go_num, HF2.out, HT.out, HBN.out⟩
        · by_cases h0 : 0 < dat.length
          · have d3 : decide (0 < (dat.length : Int)) = true := by rw [decide_eq_true_iff]; omega
            have d4 : decide (0 < dat.length) = true := by rw [decide_eq_true_iff]; omega
            have HF2 := Lib.hid (HF.out.trans (by rw [show okVer ⟨tm, true, dat⟩ = false by show (!(true && decide (0 < dat.length))) = false; rw [d4]; rfl, Bool.false_and]))
            clear h0
            go_wp2
            go_ret
            rw [HF2.out]
            exact ⟨rfl, HBN.out⟩
          · have d3 : decide (0 < (dat.length : Int)) = false := by rw [decide_eq_false_iff_not]; omega
            have d4 : decide (0 < dat.length) = false := by rw [decide_eq_false_iff_not]; omega
            have HF2 := Lib.hid (HF.out.trans (by rw [show okVer ⟨tm, true, dat⟩ = true by show (!(true && decide (0 < dat.length))) = true; rw [d4]; rfl, Bool.true_and]))
            clear h0
            go_wp2
            go_roundg (gk - 1)
            case measure => have := HK.out; omega
            case rel => exact ⟨j + 1, tm, by have := HK.out; omega, rfl, by go_num, HF2.out, HT.out, HBN.out⟩
    · have hj' : j = l.length := by have := HK.out; omega
      have hlt : decide ((j : Int) < (l.length : Int)) = false := by simpa using hj
      have HF := Lib.hid (show rightC l = true by rw [HA.out, hj', List.drop_length]; rfl)
      clear hj'
      go_wp2
      go_ret
      rw [HF.out]
      exact ⟨rfl, HB.out⟩

theorem sizeH_app (a b : List Ver) : sizeH (a ++ b) = sizeH a + sizeH b := by
  induction a with
  | nil => simp [sizeH]
  | cons x a ih =>
    have e : ∀ l : List Ver, sizeH (x :: l) = x.dat.length + sizeH l := fun l => by simp [sizeH]
    rw [List.cons_append, e, e, ih]
    omega
theorem sizeH_take {l : List Ver} {j : Nat} (hj : j < l.length) : sizeH (l.take (j + 1)) = sizeH (l.take j) + (l[j]'hj).dat.length := by
  rw [List.take_succ_eq_append_getElem hj, sizeH_app]
  rfl
theorem sizeH_take_le (l : List Ver) (j : Nat) : sizeH (l.take j) ≤ sizeH l := by
  have h : sizeH l = sizeH (l.take j) + sizeH (l.drop j) := by
    rw [← sizeH_app, List.take_append_drop]
  omega
set_option maxRecDepth 100000 in
set_option maxHeartbeats 2000000 in
theorem refSize_any (l : List Ver) (A : Option Addr) (c : Nat) (hi : Nat) (w : World) (hl : l.length ≤ 9223372036854775807) (hsz : sizeH l ≤ 9223372036854775807) (hr : RowH w hi A l) (hhi : hi ≤ w.heap.size) :
    Calls Try.prog 71 #[.slice A l.length c] w fun r w' => r = .returned (.int .i64 (sizeH l : Nat)) ∧ Below w.heap.size w w' := by
  have HR := Lib.hid hr
  have HS := Lib.hid hsz
  clear hr hsz
  go_enter Try.func71, Try.ntmps71
  go_wp2
  go_loopg [3, 8] l.length (fun q v i wr => ∃ j n : Nat, j + q = l.length ∧ v = .int .i64 n ∧ i = .int .i64 j ∧ n = sizeH (l.take j) ∧ Below w.heap.size w wr)
  case atStart => exact ⟨0, 0, by omega, rfl, rfl, rfl, Below.refl _ _⟩
  case round =>
    obtain ⟨j, n, hk, rfl, rfl, hall, hb⟩ := hrel
    have HK := Lib.hid hk
    have HA := Lib.hid hall
    have HB := Lib.hid hb
    clear hall hb hk
    by_cases hj : j < l.length
    · have hlt : decide ((j : Int) < (l.length : Int)) = true := by simpa using hj
      have hlt2 : decide (j < l.length) = true := by simpa using hj
      obtain ⟨b, o, A', c', rfl, _, c0, c1, c2, hs, htm⟩ := (HR.out.below HB.out hhi (Nat.le_refl _)).at_ hj
      have HN := Lib.hid (show n + l[j].dat.length = sizeH (l.take (j + 1)) by rw [sizeH_take hj, HA.out])
      have hle : n + l[j].dat.length ≤ 9223372036854775807 := by rw [HN.out]; exact Nat.le_trans (sizeH_take_le _ _) HS.out
      clear hs htm
      generalize l[j] = x at *
      obtain ⟨tm, gone, dat⟩ := x
      simp only at c0 c1 c2 hle HN
      have hbn := HB.out.alloc HB.out.size (.cells #[.int .u64 tm, .bool gone, .slice A' dat.length c'] 103)
      have HBN := Lib.hid hbn
      clear hbn
      go_wp2
      go_roundg (gk - 1)
      case measure => have := HK.out; omega
      case rel => exact ⟨j + 1, n + dat.length, by have := HK.out; omega, by go_num, by go_num, HN.out, HBN.out⟩
    · have hj' : j = l.length := by have := HK.out; omega
      have hlt : decide ((j : Int) < (l.length : Int)) = false := by simpa using hj
      have HF := Lib.hid (show n = sizeH l by rw [HA.out, hj', List.take_length])
      clear hj'
      go_wp2
      go_ret
      rw [← HF.out]
      exact ⟨rfl, HB.out⟩
end Go.Proofs.Ytooegjdppeiccaa
