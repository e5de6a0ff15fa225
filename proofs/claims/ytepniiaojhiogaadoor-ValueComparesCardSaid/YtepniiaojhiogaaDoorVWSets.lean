/-
  What package value has to answer of variables, as contracts; and the walk of ValueSets.
-/
import Derived.Test.YtepniiaojhiogaaDoorVSets
namespace Go.Proofs.YtepniiaojhiogaaDoor
open Go.RowKit

/-- What Get answers. -/
def getO (l : List VN) (name : ByteArray) : V := (getL l name).getD V0
def RetVars (m : List VN) (w : World) (r : Ending) (w' : World) : Prop :=
  ∃ A c, r = .returned (.slice A m.length c) ∧ m.length ≤ c ∧ c ≤ maxLen ∧ (A = none → c = 0) ∧ RowN w' 0 w'.heap.size A m ∧ Below w.heap.size w w'
def shortV (l : List VN) : Prop := l.length ≤ 41 ∧ ∀ x ∈ l, x.1.size ≤ 100 ∧ x.2.s.size ≤ 200
def GetC : Prop := ∀ (l : List VN) (A : Option Addr) (c : Nat) (name : ByteArray) (w : World), shortV l → name.size ≤ 100 → l.length ≤ c → c ≤ maxLen → (A = none → c = 0) → RowN w 0 w.heap.size A l →
  Calls Tryd.prog 28 #[.slice A l.length c, .string name] w fun r w' => r = .returned (.tuple #[(getO l name).val, .bool (getL l name).isSome]) ∧ Below w.heap.size w w'
def SetC : Prop := ∀ (l : List VN) (A : Option Addr) (c : Nat) (x : VN) (w : World), shortV l → l.length ≤ 40 → x.1.size ≤ 100 → x.2.s.size ≤ 200 → l.length ≤ c → c ≤ maxLen → (A = none → c = 0) → RowN w 0 w.heap.size A l →
  Calls Tryd.prog 27 #[.slice A l.length c, varVal x] w (RetVars (setL l x) w)
def VarsC (ok : ByteArray → Bool) : Prop := ∀ (l : List VN) (A : Option Addr) (c : Nat) (w : World), shortV l → l.length ≤ c → c ≤ maxLen → (A = none → c = 0) → RowN w 0 w.heap.size A l →
  Calls Tryd.prog 29 #[.slice A l.length c] w fun r w' => r = .returned (.int .i64 (varsL ok l)) ∧ Below w.heap.size w w'
structure SetsC (ok : ByteArray → Bool) : Prop where
  get : GetC
  set : SetC
  vars : VarsC ok

/-- A variable in a block of its own. -/
def BoxN (w : World) (b : Nat) (x : VN) : Prop := w.heap[b]? = some (.cells #[.string x.1, .int .i64 x.2.k, .int .i64 x.2.n, .string x.2.s] 47 (0, 0))
theorem BoxN.new (w : World) (nm : ByteArray) (k n : Int) (s : ByteArray) : BoxN (w.alloc (.cells #[.string nm, .int .i64 k, .int .i64 n, .string s] 47)) w.heap.size (nm, ⟨k, n, s⟩) := heap_alloc_new w _
theorem BoxN.lt {w : World} {b : Nat} {x : VN} (h : BoxN w b x) : b < w.heap.size := (Array.getElem?_eq_some_iff.1 h).1
theorem BoxN.below {w w' : World} {b : Nat} {x : VN} (h : BoxN w b x) (hb : Below w.heap.size w w') : BoxN w' b x := (hb.block b h.lt).trans h
theorem BoxN.grown {w w' : World} {b : Nat} {x : VN} {row : Option Nat} (h : BoxN w b x) (hg : w.grownBy w' row) (hne : row ≠ some b) : BoxN w' b x := (hg.block b h.lt (fun e => hne e.symm)).trans h
theorem BoxN.cells {w : World} {b : Nat} {x : VN} (h : BoxN w b x) : w.cell? ⟨b, 0, none⟩ = some (.string x.1) ∧ w.cell? ⟨b, 1, none⟩ = some (.int .i64 x.2.k) ∧ w.cell? ⟨b, 2, none⟩ = some (.int .i64 x.2.n) ∧ w.cell? ⟨b, 3, none⟩ = some (.string x.2.s) :=
  ⟨cell_of_row _ _ 0 _ _ _ h, cell_of_row _ _ 1 _ _ _ h, cell_of_row _ _ 2 _ _ _ h, cell_of_row _ _ 3 _ _ _ h⟩
theorem RowN.one (w : World) (nm : ByteArray) (k n : Int) (s : ByteArray) : RowN (w.alloc (.cells #[.string nm, .int .i64 k, .int .i64 n, .string s] 47)) 0 (w.heap.size + 1) (some ⟨w.heap.size, 0, none⟩) [(nm, ⟨k, n, s⟩)] := fun _ => by
  refine ⟨w.heap.size, 0, rfl, Nat.zero_le _, by omega, fun j hj => ?_⟩
  have h0 : j = 0 := by simpa using hj
  subst h0
  exact (BoxN.new w nm k n s).cells

namespace valueSets

/-- Too much is handed in. -/
theorem live_twice {W : World} (K : ValueC) {wx : World} (hb : Below W.heap.size W wx) : Calls Tryd.prog 10 #[] wx fun r w' => r = .returned (.bool true) ∧ Below W.heap.size W w' := call_from hb (liveV_any K wx)

set_option maxRecDepth 100000 in
set_option maxHeartbeats 4000000 in
theorem walk_long (K : ValueC) (l : List VN) (A : Option Addr) (c : Nat) (nm : ByteArray) (k n : Int) (s name : ByteArray) (w : World) (hl : l.length ≤ 9223372036854775807) (hls : ∀ x ∈ l, x.1.size ≤ 9223372036854775807 ∧ x.2.s.size ≤ 9223372036854775807) (hnm : nm.size ≤ 9223372036854775807) (hs : s.size ≤ 9223372036854775807)
    (hr : RowN w 0 w.heap.size A l) (hlong : fewV l = false ∨ (fewV l = true ∧ fewV [(nm, ⟨k, n, s⟩)] = false) ∨ (fewV l = true ∧ fewV [(nm, ⟨k, n, s⟩)] = true ∧ decide ((100 : Int) < (name.size : Int)) = true)) :
    Calls Tryd.prog 9 #[.slice A l.length c, .agg #[.string nm, .int .i64 k, .int .i64 n, .string s], .string name] w fun r w' => r = .returned (.bool true) ∧ Below w.heap.size w w' := by
  have HL := Lib.hid (fun (W wx : World) (hb : Below W.heap.size W wx) => call_from hb (liveV_any K wx))
  have hb0 : Below w.heap.size w (w.alloc (.cells #[.string nm, .int .i64 k, .int .i64 n, .string s] 47)) := box_below _ _ _
  have hx0 := BoxN.new w nm k n s
  generalize hw0 : w.alloc (.cells #[.string nm, .int .i64 k, .int .i64 n, .string s] 47) = w0 at hb0 hx0
  have HB0 := Lib.hid hb0
  have HX0 := Lib.hid hx0
  have HW0 := Lib.hid hw0
  have HFl := Lib.hid (fun (wx : World) (hb : Below w0.heap.size w0 wx) => call_from hb (fewV_any l A c 0 w.heap.size wx hl hls (hr.below (hb0.trans (hb.mono hb0.size)) (Nat.le_refl _)) (Nat.le_trans hb0.size hb.size)))
  have HFx : Hid (∀ wx : World, Below w0.heap.size w0 wx → Calls Tryd.prog 26 #[.slice (some ⟨wx.heap.size, 0, none⟩) 1 1] (wx.alloc (.cells #[.string nm, .int .i64 k, .int .i64 n, .string s] 47)) fun r w' => r = .returned (.bool (fewV [(nm, ⟨k, n, s⟩)])) ∧ Below w0.heap.size w0 w') := Lib.hid fun wx hb =>
    call_from (hb.alloc hb.size _) (fewV_any [(nm, ⟨k, n, s⟩)] (some ⟨wx.heap.size, 0, none⟩) 1 0 (wx.heap.size + 1) (wx.alloc (.cells #[.string nm, .int .i64 k, .int .i64 n, .string s] 47)) (by simp) (by intro x hx; simp at hx; subst hx; exact ⟨hnm, hs⟩) (RowN.one wx nm k n s) (by simp))
  clear hb0 hx0 hw0 hls hr K
  rcases hlong with h1 | ⟨h1, h2⟩ | ⟨h1, h2, h3⟩
  all_goals
    have HQ1 := Lib.hid h1
    clear h1
    (try (have HQ2 := Lib.hid h2; clear h2))
    rw [HQ1.out] at HFl
    (try rw [HQ2.out] at HFx)
    go_enter Tryd.func9, Tryd.ntmps9
    go_wp2_with fail
    rw [HW0.out]
    refine (HL.out w0 _ (Below.refl _ _)).mono ?_
    rintro r w1 ⟨rfl, hb⟩
    have HB1 := Lib.hid hb
    clear hb
    go_wp2_with fail
    refine (HFl.out _ HB1.out).mono ?_
    rintro r w2 ⟨rfl, hb⟩
    have HB2 := Lib.hid hb
    obtain ⟨e0, e1, e2, e3⟩ := (HX0.out.below hb).cells
    clear hb
    go_wp2_with ((go_at_call 26; (with_reducible refine (HFx.out _ HB2.out).mono ?_); rintro r w3 ⟨rfl, hb⟩; have HB2 := Lib.hid hb; clear hb))
    refine (HL.out w0 _ HB2.out).mono ?_
    rintro r w4 ⟨rfl, hb⟩
    have HB4 := Lib.hid hb
    clear hb
    go_wp2_with fail
    go_ret
    exact ⟨rfl, HB0.out.trans (HB4.out.mono HB0.out.size)⟩
theorem vars_one (ok : ByteArray → Bool) (l : List VN) (x : VN) : (varsL ok l = 0 ∧ varsL ok [x] = 0 ∧ varsL ok (setL l x) = 0) ∨ (varsL ok l = 0 ∧ varsL ok [x] = 0 ∧ varsL ok (setL l x) = 3 ∧ 8 < (setL l x).length) ∨ varsL ok l ≠ 0 ∨ (varsL ok l = 0 ∧ varsL ok [x] ≠ 0) := by
  by_cases h1 : varsL ok l = 0
  · by_cases h2 : varsL ok [x] = 0
    · rcases vars_set h1 h2 with h | ⟨h, h8⟩
      · exact .inl ⟨h1, h2, h⟩
      · exact .inr (.inl ⟨h1, h2, h, h8⟩)
    · exact .inr (.inr (.inr ⟨h1, h2⟩))
  · exact .inr (.inr (.inl h1))
theorem short_set {l : List VN} {x : VN} (hl : fewV l = true) (hx : fewV [x] = true) : shortV (setL l x) := by
  obtain ⟨a, b⟩ := fewV_yes hl
  obtain ⟨c, _⟩ := fewV_yes hx
  refine ⟨by have := set_len l x; omega, fun y hy => ?_⟩
  rcases mem_set hy with rfl | h
  · exact c _ (List.mem_cons_self ..)
  · exact a y h

set_option maxRecDepth 100000 in
set_option maxHeartbeats 8000000 in
theorem walk_short (K : ValueC) {ok : ByteArray → Bool} (KS : SetsC ok) (l : List VN) (A : Option Addr) (c : Nat) (nm : ByteArray) (k n : Int) (s name : ByteArray) (w : World) (hf1 : fewV l = true) (hf2 : fewV [(nm, ⟨k, n, s⟩)] = true) (hname : name.size ≤ 100)
    (hr : RowN w 0 w.heap.size A l) (hc : l.length ≤ c) (hcm : c ≤ maxLen) (hz : A = none → c = 0) :
    Calls Tryd.prog 9 #[.slice A l.length c, .agg #[.string nm, .int .i64 k, .int .i64 n, .string s], .string name] w fun r w' => r = .returned (.bool true) ∧ Below w.heap.size w w' := by
  have HL := Lib.hid (fun (W wx : World) (hb : Below W.heap.size W wx) => call_from hb (liveV_any K wx))
  have hb0 : Below w.heap.size w (w.alloc (.cells #[.string nm, .int .i64 k, .int .i64 n, .string s] 47)) := box_below _ _ _
  have hx0 := BoxN.new w nm k n s
  generalize hw0 : w.alloc (.cells #[.string nm, .int .i64 k, .int .i64 n, .string s] 47) = w0 at hb0 hx0
  have HB0 := Lib.hid hb0
  have HX0 := Lib.hid hx0
  have HW0 := Lib.hid hw0
  obtain ⟨hl1, hl2⟩ := fewV_yes hf1
  have hx1 := (fewV_yes hf2).1 _ (List.mem_cons_self ..)
  simp only at hx1
  have hshort : shortV l := ⟨by omega, hl1⟩
  have hshortx : shortV [(nm, ⟨k, n, s⟩)] := ⟨by simp, by intro x hx; simp at hx; subst hx; exact hx1⟩
  have hshortm := short_set hf1 hf2
  have hrow : ∀ wx, Below w0.heap.size w0 wx → RowN wx 0 wx.heap.size A l := fun wx hb => (hr.below (hb0.trans (hb.mono hb0.size)) (Nat.le_refl _)).wide (Nat.le_refl _) (Nat.le_trans hb0.size hb.size)
  have hfl := fun (wx : World) (hb : Below w0.heap.size w0 wx) => call_from hb (fewV_any l A c 0 wx.heap.size wx (by omega) (fun x hx => by have := hl1 x hx; omega) (hrow wx hb) (Nat.le_refl _))
  rw [hf1] at hfl
  have HFl := Lib.hid hfl
  have hfx : ∀ wx : World, Below w0.heap.size w0 wx → Calls Tryd.prog 26 #[.slice (some ⟨wx.heap.size, 0, none⟩) 1 1] (wx.alloc (.cells #[.string nm, .int .i64 k, .int .i64 n, .string s] 47)) fun r w' => r = .returned (.bool (fewV [(nm, ⟨k, n, s⟩)])) ∧ Below w0.heap.size w0 w' := fun wx hb =>
    call_from (hb.alloc hb.size _) (fewV_any [(nm, ⟨k, n, s⟩)] (some ⟨wx.heap.size, 0, none⟩) 1 0 (wx.heap.size + 1) (wx.alloc (.cells #[.string nm, .int .i64 k, .int .i64 n, .string s] 47)) (by simp) (by intro x hx; simp at hx; subst hx; exact ⟨by show nm.size ≤ _; omega, by show s.size ≤ _; omega⟩) (RowN.one wx nm k n s) (by simp))
  rw [hf2] at hfx
  have HFx := Lib.hid hfx
  have HSet : Hid (∀ wx, Below w0.heap.size w0 wx → Calls Tryd.prog 27 #[.slice A l.length c, .agg #[.string nm, .int .i64 k, .int .i64 n, .string s]] wx (RetVars (setL l (nm, ⟨k, n, s⟩)) wx)) := Lib.hid fun wx hb => KS.set l A c (nm, ⟨k, n, s⟩) wx hshort hl2 hx1.1 hx1.2 hc hcm hz (hrow wx hb)
  obtain ⟨ka, na, sa, hga⟩ : ∃ ka na sa, getO l name = ⟨ka, na, sa⟩ := ⟨_, _, _, rfl⟩
  have hgetl : ∀ wx, Below w0.heap.size w0 wx → Calls Tryd.prog 28 #[.slice A l.length c, .string name] wx fun r w' => r = .returned (.tuple #[.agg #[.int .i64 ka, .int .i64 na, .string sa], .bool (getL l name).isSome]) ∧ Below wx.heap.size wx w' := fun wx hb => by
    have h := KS.get l A c name wx hshort hname hc hcm hz (hrow wx hb)
    rw [hga] at h
    exact h
  have HGetL := Lib.hid hgetl
  have HVl := Lib.hid (fun (wx : World) (hb : Below w0.heap.size w0 wx) => KS.vars l A c wx hshort hc hcm hz (hrow wx hb))
  have HVx : Hid (∀ wx : World, Below w0.heap.size w0 wx → Calls Tryd.prog 29 #[.slice (some ⟨wx.heap.size, 0, none⟩) 1 1] (wx.alloc (.cells #[.string nm, .int .i64 k, .int .i64 n, .string s] 47)) fun r w' => r = .returned (.int .i64 (varsL ok [(nm, ⟨k, n, s⟩)])) ∧ Below wx.heap.size wx w') := Lib.hid fun wx hb =>
    call_from ((Below.refl _ wx).alloc (Nat.le_refl _) _) (KS.vars [(nm, ⟨k, n, s⟩)] (some ⟨wx.heap.size, 0, none⟩) 1 (wx.alloc (.cells #[.string nm, .int .i64 k, .int .i64 n, .string s] 47)) hshortx (by simp) (by decide) (by intro h; cases h) ((RowN.one wx nm k n s).wide (Nat.le_refl _) (by simp)))
  have hsame := get_set_same l (nm, ⟨k, n, s⟩)
  have hother := fun (h : name ≠ nm) => get_set_other l (nm, ⟨k, n, s⟩) (name := name) h
  have hone := vars_one ok l (nm, ⟨k, n, s⟩)
  simp only at hsame
  have hmg : ∀ (m : List VN) (nme : ByteArray) (kk nn : Int) (ss : ByteArray), shortV m → nme.size ≤ 100 → getO m nme = ⟨kk, nn, ss⟩ → ∀ (A : Option Addr) (c : Nat) (wx : World), m.length ≤ c → c ≤ maxLen → (A = none → c = 0) → RowN wx 0 wx.heap.size A m →
      Calls Tryd.prog 28 #[.slice A m.length c, .string nme] wx fun r w' => r = .returned (.tuple #[.agg #[.int .i64 kk, .int .i64 nn, .string ss], .bool (getL m nme).isSome]) ∧ Below wx.heap.size wx w' := fun m nme kk nn ss h1 h2 h3 A c wx h4 h45 h5 h6 => by
    have h := KS.get m A c nme wx h1 h2 h4 h45 h5 h6
    rw [h3] at h
    exact h
  generalize hm : setL l (nm, ⟨k, n, s⟩) = m at *
  have hgm : getO m nm = ⟨k, n, s⟩ := by rw [getO, hsame]; rfl
  obtain ⟨kb, nb, sb, hgb⟩ : ∃ kb nb sb, getO m name = ⟨kb, nb, sb⟩ := ⟨_, _, _, rfl⟩
  have hg1 := hmg m nm k n s hshortm hx1.1 hgm
  rw [hsame] at hg1
  have HG1 := Lib.hid hg1
  have HG2 := Lib.hid (hmg m name kb nb sb hshortm hname hgb)
  have HVm := Lib.hid (fun A c (wx : World) h1 h12 h2 h3 => KS.vars m A c wx hshortm h1 h12 h2 h3)
  have hml : m.length ≤ 41 := hshortm.1
  have hd : decide ((100 : Int) < (name.size : Int)) = false := by rw [decide_eq_false_iff_not]; omega
  have heq : ∀ w, (Op.equalIn 10000 23 (.agg #[.int .i64 k, .int .i64 n, .string s]) (.agg #[.int .i64 k, .int .i64 n, .string s])).run Tryd.prog w = .ok true w := fun w => by rw [eq_in, eqV_self]
  have HEQ := Lib.hid heq
  have HEN : Hid ((∀ w, (Op.equalIn 10000 23 (.agg #[.int .i64 ka, .int .i64 na, .string sa]) (.agg #[.int .i64 kb, .int .i64 nb, .string sb])).run Tryd.prog w = .ok true w) ∧ (getL l name).isSome = (getL m name).isSome ∨ name = nm) := Lib.hid (by
    by_cases he : name = nm
    · exact .inr he
    · left
      have h := hother he
      refine ⟨fun w => ?_, by rw [h]⟩
      have h2 : (⟨ka, na, sa⟩ : V) = ⟨kb, nb, sb⟩ := by rw [← hga, ← hgb, getO, getO, h]
      injection h2 with e1 e2 e3
      subst e1 e2 e3
      rw [eq_in, eqV_self])
  have HONE := Lib.hid hone
  clear hb0 hx0 hw0 hr hrow hfl hfx hgetl hsame hother hone hmg hm hgm hg1 heq hga hgb hf1 hf2 hl1 hshort hshortx hshortm
  generalize (getL l name).isSome = ba at *
  generalize (getL m name).isSome = bb at *
  go_enter Tryd.func9, Tryd.ntmps9
  go_wp2_with fail
  rw [HW0.out]
  refine (HL.out w0 _ (Below.refl _ _)).mono ?_
  rintro r w1 ⟨rfl, hb⟩
  have HB1 := Lib.hid hb
  clear hb
  go_wp2_with fail
  refine (HFl.out _ HB1.out).mono ?_
  rintro r w2 ⟨rfl, hb⟩
  have HB2 := Lib.hid hb
  obtain ⟨e0, e1, e2, e3⟩ := (HX0.out.below hb).cells
  clear hb
  go_wp2_with fail
  refine (HFx.out _ HB2.out).mono ?_
  rintro r w3 ⟨rfl, hb⟩
  have HB3 := Lib.hid hb
  clear e0 e1 e2 e3
  obtain ⟨e0, e1, e2, e3⟩ := (HX0.out.below hb).cells
  clear hb
  go_wp2_with fail
  refine (HSet.out _ HB3.out).mono ?_
  rintro r w4 ⟨A4, c4, rfl, hc4, hm4, hz4, hr4, hb⟩
  have HB4 := Lib.hid (HB3.out.trans (hb.mono HB3.out.size))
  have HR4 := Lib.hid hr4
  clear e0 e1 e2 e3 hb hr4
  obtain ⟨e0, e1, e2, e3⟩ := (HX0.out.below HB4.out).cells
  go_wp2_with fail
  refine (HG1.out A4 c4 _ hc4 hm4 hz4 HR4.out).mono ?_
  rintro r w5 ⟨rfl, hb⟩
  have HM5 := Lib.hid hb
  clear hb e0 e1 e2 e3
  go_upto_region 5 with fail
  have hv := Boxed.new w5 k n s
  have hb6 := HM5.out.alloc HM5.out.size (.cells #[.int .i64 k, .int .i64 n, .string s] 23)
  generalize hg1 : w5.heap.size = g1 at *
  generalize hw6 : w5.alloc (.cells #[.int .i64 k, .int .i64 n, .string s] 23) = w6 at *
  have HM6 := Lib.hid hb6
  have HB6 := Lib.hid (HB4.out.trans (hb6.mono HB4.out.size))
  obtain ⟨b0, b1, b2⟩ := hv.cells
  obtain ⟨e0, e1, e2, e3⟩ := (HX0.out.below HB6.out).cells
  clear hv hb6 hg1 hw6 HM5
  have hq := HEQ.out
  go_wp2_with fail
  refine (HGetL.out _ HB6.out).mono ?_
  rintro r w7 ⟨rfl, hb⟩
  have HM7 := Lib.hid (HM6.out.trans (hb.mono HM6.out.size))
  clear hb b0 b1 b2 e0 e1 e2 e3 hq
  go_upto_region 8 with fail
  have hv := Boxed.new w7 ka na sa
  have hb8 := HM7.out.alloc HM7.out.size (.cells #[.int .i64 ka, .int .i64 na, .string sa] 23)
  generalize hg2 : w7.heap.size = g2 at *
  generalize hw8 : w7.alloc (.cells #[.int .i64 ka, .int .i64 na, .string sa] 23) = w8 at *
  have HA8 := Lib.hid hv
  have HM8 := Lib.hid hb8
  clear hv hb8 hg2 hw8 HM7
  go_wp2_with fail
  refine (HG2.out A4 c4 _ hc4 hm4 hz4 ((HR4.out.below HM8.out (Nat.le_refl _)).wide (Nat.le_refl _) HM8.out.size)).mono ?_
  rintro r w9 ⟨rfl, hb⟩
  have HM9 := Lib.hid (HM8.out.trans (hb.mono HM8.out.size))
  have HA9 := Lib.hid (HA8.out.below hb)
  clear hb
  go_upto_region 9 with fail
  have hv := Boxed.new w9 kb nb sb
  have hb10 := HM9.out.alloc HM9.out.size (.cells #[.int .i64 kb, .int .i64 nb, .string sb] 23)
  have ha := HA9.out.below ((Below.refl _ w9).alloc (Nat.le_refl _) (.cells #[.int .i64 kb, .int .i64 nb, .string sb] 23))
  generalize hg3 : w9.heap.size = g3 at *
  generalize hw10 : w9.alloc (.cells #[.int .i64 kb, .int .i64 nb, .string sb] 23) = w10 at *
  have HM10 := Lib.hid hb10
  have HB10 := Lib.hid (HB4.out.trans (hb10.mono HB4.out.size))
  obtain ⟨b0, b1, b2⟩ := hv.cells
  obtain ⟨a0, a1, a2⟩ := ha.cells
  obtain ⟨e0, e1, e2, e3⟩ := (HX0.out.below HB10.out).cells
  clear hv ha hb10 hg3 hw10 HM9 HA9 HA8
  have key : ((name.toList == nm.toList) = true ∧ True) ∨ ((name.toList == nm.toList) = false ∧ (∀ w, (Op.equalIn 10000 23 (.agg #[.int .i64 ka, .int .i64 na, .string sa]) (.agg #[.int .i64 kb, .int .i64 nb, .string sb])).run Tryd.prog w = .ok true w) ∧ ba = bb) := by
    by_cases he : name = nm
    · left; subst he; simp
    · right
      refine ⟨?_, ?_⟩
      · rw [beq_eq_false_iff_ne, ByteArray.toList_eq, ByteArray.toList_eq]
        exact fun h => he (ba_list h)
      · rcases HEN.out with h | h
        · exact h
        · exact absurd h he
  rcases key with ⟨k1, _⟩ | ⟨k1, hq, rfl⟩
  all_goals
    rcases HONE.out with ⟨v1, v2, v3⟩ | ⟨v1, v2, v3, v4⟩ | v1 | ⟨v1, v2⟩
    · have V1 := Lib.hid v1
      have V2 := Lib.hid v2
      have V3 := Lib.hid v3
      rw [V1.out] at HVl
      rw [V2.out] at HVx
      rw [V3.out] at HVm
      clear v1 v2 v3
      go_wp2_with fail
      refine (HVl.out _ HB10.out).mono ?_
      rintro r w11 ⟨rfl, hb⟩
      have HM11 := Lib.hid (HM10.out.trans (hb.mono HM10.out.size))
      have HB11 := Lib.hid (HB10.out.trans (hb.mono HB10.out.size))
      clear hb b0 b1 b2 a0 a1 a2 e0 e1 e2 e3
      obtain ⟨e0, e1, e2, e3⟩ := (HX0.out.below HB11.out).cells
      go_wp2_with fail
      refine (HVx.out _ HB11.out).mono ?_
      rintro r w12 ⟨rfl, hb⟩
      have HM12 := Lib.hid (HM11.out.trans (hb.mono HM11.out.size))
      have HB12 := Lib.hid (HB11.out.trans (hb.mono HB11.out.size))
      clear hb e0 e1 e2 e3
      go_wp2_with fail
      refine (HVm.out A4 c4 _ hc4 hm4 hz4 ((HR4.out.below HM12.out (Nat.le_refl _)).wide (Nat.le_refl _) HM12.out.size)).mono ?_
      rintro r w13 ⟨rfl, hb⟩
      have HB13 := Lib.hid (HB12.out.trans (hb.mono HB12.out.size))
      clear hb
      go_wp2_with fail
      go_ret
      exact ⟨rfl, HB0.out.trans (HB13.out.mono HB0.out.size)⟩
    · have V1 := Lib.hid v1
      have V2 := Lib.hid v2
      have V3 := Lib.hid v3
      have d8 : decide ((8 : Int) < (m.length : Int)) = true := by rw [decide_eq_true_iff]; omega
      rw [V1.out] at HVl
      rw [V2.out] at HVx
      rw [V3.out] at HVm
      clear v1 v2 v3 v4
      go_wp2_with fail
      refine (HVl.out _ HB10.out).mono ?_
      rintro r w11 ⟨rfl, hb⟩
      have HM11 := Lib.hid (HM10.out.trans (hb.mono HM10.out.size))
      have HB11 := Lib.hid (HB10.out.trans (hb.mono HB10.out.size))
      clear hb b0 b1 b2 a0 a1 a2 e0 e1 e2 e3
      obtain ⟨e0, e1, e2, e3⟩ := (HX0.out.below HB11.out).cells
      go_wp2_with fail
      refine (HVx.out _ HB11.out).mono ?_
      rintro r w12 ⟨rfl, hb⟩
      have HM12 := Lib.hid (HM11.out.trans (hb.mono HM11.out.size))
      have HB12 := Lib.hid (HB11.out.trans (hb.mono HB11.out.size))
      clear hb e0 e1 e2 e3
      go_wp2_with fail
      refine (HVm.out A4 c4 _ hc4 hm4 hz4 ((HR4.out.below HM12.out (Nat.le_refl _)).wide (Nat.le_refl _) HM12.out.size)).mono ?_
      rintro r w13 ⟨rfl, hb⟩
      have HB13 := Lib.hid (HB12.out.trans (hb.mono HB12.out.size))
      clear hb
      go_wp2_with fail
      go_ret
      exact ⟨rfl, HB0.out.trans (HB13.out.mono HB0.out.size)⟩
    · have q1 : (varsL ok l == 0) = false := by simpa using v1
      generalize varsL ok l = er at *
      clear v1
      go_wp2_with fail
      refine (HVl.out _ HB10.out).mono ?_
      rintro r w11 ⟨rfl, hb⟩
      have HM11 := Lib.hid (HM10.out.trans (hb.mono HM10.out.size))
      have HB11 := Lib.hid (HB10.out.trans (hb.mono HB10.out.size))
      clear hb b0 b1 b2 a0 a1 a2 e0 e1 e2 e3
      obtain ⟨e0, e1, e2, e3⟩ := (HX0.out.below HB11.out).cells
      go_wp2_with fail
      go_ret
      exact ⟨rfl, HB0.out.trans (HB11.out.mono HB0.out.size)⟩
    · have V1 := Lib.hid v1
      have q1 : (varsL ok [(nm, ⟨k, n, s⟩)] == 0) = false := by simpa using v2
      rw [V1.out] at HVl
      generalize varsL ok [(nm, ⟨k, n, s⟩)] = er at *
      clear v1 v2
      go_wp2_with fail
      refine (HVl.out _ HB10.out).mono ?_
      rintro r w11 ⟨rfl, hb⟩
      have HM11 := Lib.hid (HM10.out.trans (hb.mono HM10.out.size))
      have HB11 := Lib.hid (HB10.out.trans (hb.mono HB10.out.size))
      clear hb b0 b1 b2 a0 a1 a2 e0 e1 e2 e3
      obtain ⟨e0, e1, e2, e3⟩ := (HX0.out.below HB11.out).cells
      go_wp2_with fail
      refine (HVx.out _ HB11.out).mono ?_
      rintro r w12 ⟨rfl, hb⟩
      have HM12 := Lib.hid (HM11.out.trans (hb.mono HM11.out.size))
      have HB12 := Lib.hid (HB11.out.trans (hb.mono HB11.out.size))
      clear hb e0 e1 e2 e3
      go_wp2_with fail
      go_ret
      exact ⟨rfl, HB0.out.trans (HB12.out.mono HB0.out.size)⟩

theorem walk (K : ValueC) {ok : ByteArray → Bool} (KS : SetsC ok) (l : List VN) (A : Option Addr) (c : Nat) (x : VN) (name : ByteArray) (w : World) (hl : l.length ≤ maxLen) (hls : ∀ x ∈ l, x.1.size ≤ maxLen ∧ x.2.s.size ≤ maxLen) (hx : x.1.size ≤ maxLen ∧ x.2.s.size ≤ maxLen)
    (hc : l.length ≤ c) (hcm : c ≤ maxLen) (hz : A = none → c = 0) (hr : RowN w 0 w.heap.size A l) :
    Calls Tryd.prog 9 #[.slice A l.length c, varVal x, .string name] w fun r w' => r = .returned (.bool true) ∧ Below w.heap.size w w' := by
  obtain ⟨nm, k, n, s⟩ := x
  unfold maxLen at hl hls hx
  by_cases h1 : fewV l = true
  · by_cases h2 : fewV [(nm, ⟨k, n, s⟩)] = true
    · by_cases h3 : name.size ≤ 100
      · exact walk_short K KS l A c nm k n s name w h1 h2 h3 hr hc hcm hz
      · exact walk_long K l A c nm k n s name w (by omega) (fun y hy => by have := hls y hy; omega) (by have := hx.1; simp only at this; omega) (by have := hx.2; simp only at this; omega) hr (.inr (.inr ⟨h1, h2, by rw [decide_eq_true_iff]; omega⟩))
    · exact walk_long K l A c nm k n s name w (by omega) (fun y hy => by have := hls y hy; omega) (by have := hx.1; simp only at this; omega) (by have := hx.2; simp only at this; omega) hr (.inr (.inl ⟨h1, by simpa using h2⟩))
  · exact walk_long K l A c nm k n s name w (by omega) (fun y hy => by have := hls y hy; omega) (by have := hx.1; simp only at this; omega) (by have := hx.2; simp only at this; omega) hr (.inl (by simpa using h1))
end valueSets
end Go.Proofs.YtepniiaojhiogaaDoor
