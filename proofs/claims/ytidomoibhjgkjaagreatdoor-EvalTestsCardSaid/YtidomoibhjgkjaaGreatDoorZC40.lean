import Derived.Test.YtidomoibhjgkjaaGreatDoorZC39
import Derived.Test.YtidomoibhjgkjaaGreatDoorZC38
import Derived.Test.YtidomoibhjgkjaaGreatDoorZC15
import Derived.BigQuiet
import Derived.Deep.QuietTactic
import Derived.Deep.LoopGhost
import Derived.RegionTactic
import Derived.Test.YtidomoibhjgkjaaGreatDoorZC00
import Derived.Laws.NewBlocks
import Derived.IntWalk
/-
  Expressions, the document's own answers: the text of any tree's terms, wherever they stand.
-/
namespace Go.Proofs.YtidomoibhjgkjaaGreatDoor
open Go.RowKit

/-- What a tree's places hold: values that are right, with short texts; short names; operations that take so many. -/
def SmallT : Ex → Prop
  | .val v => rightV v = 0 ∧ (-9223372036854775808 ≤ v.n ∧ v.n ≤ 9223372036854775807) ∧ (printV v).length ≤ 1000
  | .var m => m.size ≤ 100
  | .has m => m.size ≤ 100
  | .one op a => (3 ≤ op ∧ op ≤ 5) ∧ SmallT a
  | .two op a b => (6 ≤ op ∧ op ≤ 18) ∧ SmallT a ∧ SmallT b
theorem SmallT.shape : ∀ {t : Ex}, SmallT t → ShapeT t
  | .val _, _ => trivial
  | .var _, _ => trivial
  | .has _, _ => trivial
  | .one _ _, h => ⟨h.1, h.2.shape⟩
  | .two _ _ _, h => ⟨h.1, h.2.1.shape, h.2.2.shape⟩
theorem wrapL_len (b : Bool) (l : List UInt8) : (wrapL b l).length ≤ l.length + 2 := by cases b <;> simp [wrapL]
theorem wrapN_le (b : Bool) (n : Nat) : wrapN b n ≤ n + 1 := by cases b <;> simp [wrapN]
theorem signL_one {op : Int} (h : 3 ≤ op ∧ op ≤ 5) : (signL op).length ≤ 2 := by
  have hs : op = 3 ∨ op = 4 ∨ op = 5 := by omega
  rcases hs with rfl | rfl | rfl <;> decide
theorem SmallT.len : ∀ {t : Ex}, SmallT t → (txtE t).length ≤ 1100 * (postE t).length ∧ deepE t ≤ 2 * (postE t).length
  | .val v, h => by
    have := h.2.2
    have e : txtE (.val v) = printV v := rfl
    exact ⟨by rw [e]; simp [postE]; omega, Nat.zero_le _⟩
  | .var m, h => by
    have h' : m.data.toList.length ≤ 100 := h
    have e : txtE (.var m) = m.data.toList := rfl
    exact ⟨by rw [e]; simp only [postE, List.length_singleton]; omega, Nat.zero_le _⟩
  | .has m, h => by
    have h' : m.data.toList.length ≤ 100 := h
    have e : txtE (.has m) = [104, 97, 115, 40] ++ m.data.toList ++ [41] := rfl
    refine ⟨?_, by simp [deepE, postE]⟩
    rw [e, List.length_append, List.length_append]
    simp only [postE, List.length_cons, List.length_nil]
    omega
  | .one op a, h => by
    obtain ⟨i1, i2⟩ := h.2.len
    have hw := wrapL_len (inB op (topE a) true) (txtE a)
    have hn := wrapN_le (inB op (topE a) true) (deepE a)
    have hs := signL_one h.1
    have hp : (postE (.one op a)).length = (postE a).length + 1 := by simp [postE]
    rw [hp]
    constructor
    · show (if op = 5 then _ else _ : List UInt8).length ≤ _
      split
      · simp; omega
      · rw [List.length_append]; omega
    · show (if op = 5 then _ else _ : Nat) ≤ _
      split <;> omega
  | .two op a b, h => by
    obtain ⟨i1, i2⟩ := h.2.1.len
    obtain ⟨j1, j2⟩ := h.2.2.len
    have hw := wrapL_len (inB op (topE a) false) (txtE a)
    have hn := wrapN_le (inB op (topE a) false) (deepE a)
    have hw2 := wrapL_len (inB op (topE b) true) (txtE b)
    have hn2 := wrapN_le (inB op (topE b) true) (deepE b)
    have hs := signL_two h.1
    have hp : (postE (.two op a b)).length = (postE a).length + (postE b).length + 1 := by simp [postE]; omega
    rw [hp]
    constructor
    · show (wrapL _ _ ++ [32] ++ signL op ++ [32] ++ wrapL _ _).length ≤ _
      simp only [List.length_append, List.length_singleton]
      omega
    · show max _ _ ≤ _
      omega

theorem partE_any (hP : RefPrintC) (l : List TM) (A : Option Addr) (c : Nat) (hl : l.length ≤ 100) : ∀ (t : Ex), SmallT t → ∀ (pre suf : List TM), l = pre ++ postE t ++ suf → TextAt l A c ((pre.length + (postE t).length - 1 : Nat) : Int) t := by
  intro t
  have hat : ∀ (t : Ex) (pre suf : List TM), l = pre ++ postE t ++ suf → ∃ h : pre.length + (postE t).length - 1 < l.length, (l[pre.length + (postE t).length - 1]'h).op = topE t := fun t pre suf e => by
    have hp := post_pos t
    have h : pre.length + (postE t).length - 1 < l.length := by rw [e]; simp; omega
    subst e
    exact ⟨h, post_top pre suf t h⟩
  have hsz : ∀ (t : Ex) (pre suf : List TM), l = pre ++ postE t ++ suf → SmallT t → (txtE t).length ≤ 110000 ∧ deepE t ≤ 200 := fun t pre suf e h => by
    have := h.len
    have hp : (postE t).length ≤ l.length := by rw [e]; simp; omega
    omega
  induction t with
  | val v =>
    intro hs pre suf hpre
    have h : pre.length < l.length := by rw [hpre]; simp [postE]
    have e : l[pre.length]'h = ⟨0, v, mtS⟩ := by subst hpre; simp [postE]
    exact part_val hP l A c pre.length v h e hs.1 hs.2.1
  | var v =>
    intro hs pre suf hpre
    have h : pre.length < l.length := by rw [hpre]; simp [postE]
    have e : l[pre.length]'h = ⟨1, V0, v⟩ := by subst hpre; simp [postE]
    exact part_var l A c pre.length v h e
  | has v =>
    intro hs pre suf hpre
    have h : pre.length < l.length := by rw [hpre]; simp [postE]
    have e : l[pre.length]'h = ⟨2, V0, v⟩ := by subst hpre; simp [postE]
    have hm : v.size ≤ 100 := hs
    exact part_has l A c pre.length v (by omega) h e
  | one op a ih =>
    intro hs pre suf hpre
    have hpa := post_pos a
    have hpre2 : l = pre ++ postE a ++ ([opT op] ++ suf) := by rw [hpre]; simp [postE]
    obtain ⟨ha, ea⟩ := hat a pre ([opT op] ++ suf) hpre2
    obtain ⟨z1, z2⟩ := hsz a pre ([opT op] ++ suf) hpre2 hs.2
    have hl1 : (postE (.one op a)).length = (postE a).length + 1 := by simp [postE]
    have hK : pre.length + (postE (.one op a)).length - 1 < l.length := (hat _ pre suf hpre).1
    have he : l[pre.length + (postE (.one op a)).length - 1]'hK = opT op := by
      subst hpre
      have e : pre.length + (postE (.one op a)).length - 1 = (pre ++ postE a).length := by rw [hl1, List.length_append]; omega
      simp only [e]
      simp [postE]
    have e2 : (((pre.length + (postE (.one op a)).length - 1 : Nat) : Int) - 1) = ((pre.length + (postE a).length - 1 : Nat) : Int) := by rw [hl1]; omega
    have hheld : HeldAt l A c (opT op) (((pre.length + (postE (.one op a)).length - 1 : Nat) : Int) - 1) true (wrapL (inB op (topE a) true) (txtE a)) (wrapN (inB op (topE a) true) (deepE a)) := by
      intro w hr
      rw [e2]
      exact held_any l A c _ (opT op) true a ha ea (ih hs.2 pre _ hpre2) (by omega) (by omega) w hr
    have hw := wrapL_len (inB op (topE a) true) (txtE a)
    have hn := wrapN_le (inB op (topE a) true) (deepE a)
    intro w hr
    have := part_one l A c _ op _ _ (by have := hs.1; omega) hK (by omega) he (by omega) (by omega) hheld w hr
    refine this.mono ?_
    rintro r w' ⟨rfl, hb⟩
    refine ⟨?_, hb⟩
    by_cases h5 : op = 5
    · subst h5
      have hi : inB 5 (topE a) true = false := by unfold inB; rw [if_pos (.inl rfl)]
      rw [hi]
      rfl
    · rw [if_neg h5]
      have q1 : txtE (.one op a) = signL op ++ wrapL (inB op (topE a) true) (txtE a) := if_neg h5
      have q2 : deepE (.one op a) = wrapN (inB op (topE a) true) (deepE a) + 1 := if_neg h5
      rw [q1, q2]
  | two op a b iha ihb =>
    intro hs pre suf hpre
    have hpa := post_pos a
    have hpb := post_pos b
    have hpreA : l = pre ++ postE a ++ (postE b ++ [opT op] ++ suf) := by rw [hpre]; simp [postE]
    have hpreB : l = (pre ++ postE a) ++ postE b ++ ([opT op] ++ suf) := by rw [hpre]; simp [postE]
    obtain ⟨ha, ea⟩ := hat a pre _ hpreA
    obtain ⟨hb, eb⟩ := hat b (pre ++ postE a) _ hpreB
    obtain ⟨z1, z2⟩ := hsz a pre _ hpreA hs.2.1
    obtain ⟨z3, z4⟩ := hsz b (pre ++ postE a) _ hpreB hs.2.2
    have hlen : (postE (.two op a b)).length = (postE a).length + (postE b).length + 1 := by simp [postE]; omega
    have hK : pre.length + (postE (.two op a b)).length - 1 < l.length := (hat _ pre suf hpre).1
    have he : l[pre.length + (postE (.two op a b)).length - 1]'hK = opT op := by
      subst hpre
      have e : pre.length + (postE (.two op a b)).length - 1 = (pre ++ postE a ++ postE b).length := by rw [hlen, List.length_append, List.length_append]; omega
      simp only [e]
      have e' : pre ++ postE (.two op a b) ++ suf = (pre ++ postE a ++ postE b) ++ ([opT op] ++ suf) := by simp [postE]
      simp only [e']
      rw [List.getElem_append_right (Nat.le_refl _)]
      simp
    have e2 : (((pre.length + (postE (.two op a b)).length - 1 : Nat) : Int) - 1) = (((pre ++ postE a).length + (postE b).length - 1 : Nat) : Int) := by rw [hlen, List.length_append]; omega
    have e3 : (((pre ++ postE a).length : Nat) : Int) - 1 = ((pre.length + (postE a).length - 1 : Nat) : Int) := by rw [List.length_append]; omega
    have hheldB : HeldAt l A c (opT op) (((pre.length + (postE (.two op a b)).length - 1 : Nat) : Int) - 1) true (wrapL (inB op (topE b) true) (txtE b)) (wrapN (inB op (topE b) true) (deepE b)) := by
      intro w hr
      rw [e2]
      exact held_any l A c _ (opT op) true b hb eb (ihb hs.2.2 _ _ hpreB) (by omega) (by omega) w hr
    have hheldA : HeldAt l A c (opT op) ((((pre ++ postE a).length : Nat) : Int) - 1) false (wrapL (inB op (topE a) false) (txtE a)) (wrapN (inB op (topE a) false) (deepE a)) := by
      intro w hr
      rw [e3]
      exact held_any l A c _ (opT op) false a ha ea (iha hs.2.1 _ _ hpreA) (by omega) (by omega) w hr
    have hbeg : Part l A c (((pre.length + (postE (.two op a b)).length - 1 : Nat) : Int) - 1) (pre ++ postE a).length := by
      rw [e2]
      exact begin_any l A c (by omega) b hs.2.2.shape _ _ hpreB
    have hw := wrapL_len (inB op (topE a) false) (txtE a)
    have hn := wrapN_le (inB op (topE a) false) (deepE a)
    have hw2 := wrapL_len (inB op (topE b) true) (txtE b)
    have hn2 := wrapN_le (inB op (topE b) true) (deepE b)
    have hy : (pre ++ postE a).length ≤ 1000000 := by
      have : (pre ++ postE a).length ≤ l.length := by rw [hpreB]; simp
      omega
    intro w hr
    have := part_two l A c _ _ op _ _ _ _ hs.1 hK (by omega) hy he (by omega) (by omega) (by omega) (by omega) hheldB hbeg hheldA w hr
    exact this
end Go.Proofs.YtidomoibhjgkjaaGreatDoor

/-
  Expressions, the document's own answers: what is wrong with terms.
-/
namespace Go.Proofs.YtidomoibhjgkjaaGreatDoor
open Go.RowKit

set_option maxRecDepth 100000 in
set_option maxHeartbeats 4000000 in
theorem check_any (hN : RefNameC) (hP : RefPrintC) (l : List TM) (A : Option Addr) (c : Nat) (hnm : ∀ x ∈ l, x.nm.size ≤ 100) (hll : l.length ≤ 1000000) (hS : checkGo 0 l = (0, 1) → SmallT (treeE l)) (w : World) (hr : RowT w 0 w.heap.size A l) :
    Calls Tryz.prog 20 #[.slice A l.length c] w fun r w' => r = .returned (.int .i64 (checkL l)) ∧ Below w.heap.size w w' := by
  by_cases h40 : 40 < l.length
  · have e : checkL l = 3 := by unfold checkL; rw [if_pos h40]
    have d : decide ((40 : Int) < (l.length : Int)) = true := by rw [decide_eq_true_iff]; omega
    rw [e]
    clear e
    go_enter Tryz.func20, Tryz.ntmps20
    go_wp2
    go_ret
    exact ⟨rfl, Below.refl _ _⟩
  · have d : decide ((40 : Int) < (l.length : Int)) = false := by rw [decide_eq_false_iff_not]; omega
    have HR := Lib.hid hr
    go_enter Tryz.func20, Tryz.ntmps20
    go_wp2
    go_loopg [3, 14] l.length (fun q z i wr => ∃ j m : Nat, j + q = l.length ∧ z = .int .i64 (m : Int) ∧ i = .int .i64 (j : Int) ∧ checkGo 0 l = checkGo m (l.drop j) ∧ m ≤ j ∧ Below w.heap.size w wr)
    case atStart => exact ⟨0, 0, by omega, rfl, rfl, rfl, Nat.le_refl _, Below.refl _ _⟩
    case round =>
      obtain ⟨j, m, hk, rfl, rfl, hgo, hmj, hb⟩ := hrel
      have HK := Lib.hid hk
      have HB := Lib.hid hb
      clear hb hk
      by_cases hj : j < l.length
      · have hlt : decide ((j : Int) < (l.length : Int)) = true := by simpa using hj
        have hlt2 : decide (j < l.length) = true := by simpa using hj
        obtain ⟨b, o, rfl, c0, c1, c2, c3, c4⟩ := (HR.out.below HB.out (Nat.le_refl _)).at_ hj
        have hnx := hnm _ (List.getElem_mem hj)
        rw [List.drop_eq_getElem_cons hj, checkGo] at hgo
        generalize l[j] = x at *
        have HO := Lib.hid (fun w => own_any hN x (by omega) w)
        have HTk := Lib.hid (fun w => (takes_any x.op w).mono fun _ _ h => And.intro h.1 h.2.symm)
        have ht2 : takesT x.op ≤ 2 := by unfold takesT; split; omega; split <;> omega
        obtain ⟨op, ⟨k, n, s⟩, nm⟩ := x
        simp only [termVal] at c0 c1 c2 c3 c4 HO HTk hgo ht2
        have hbn := HB.out.alloc HB.out.size (.cells #[.int .i64 op, .int .i64 k, .int .i64 n, .string s, .string nm] 47)
        have HBN := Lib.hid hbn
        clear hbn hnx
        generalize hE : ownT ⟨op, ⟨k, n, s⟩, nm⟩ = e at *
        clear hE
        by_cases he : e = 0
        · subst he
          rw [if_neg (by simp)] at hgo
          generalize takesT op = tk at *
          by_cases hm : m < tk
          · rw [if_pos hm] at hgo
            have hL : checkL l = 6 := by
              unfold checkL
              rw [if_neg h40, hgo]
              rfl
            have HL := Lib.hid hL
            have d1 : decide (m < tk) = true := by simpa using hm
            clear hgo hL
            go_wp2_with fail
            refine (HO.out _).mono ?_
            rintro r w1 ⟨rfl, hb1⟩
            have c5 := (hb1.cell (p := ⟨wr.heap.size, 0, none⟩) (by simp)).trans (show _ = some (Value.int .i64 op) by simp [go_sem])
            have HB1 := Lib.hid (HBN.out.trans (hb1.mono HBN.out.size))
            clear hb1
            go_wp2_with (go_at_call 48; refine (HTk.out _).mono ?_; rintro r w' ⟨rfl, rfl⟩)
            go_ret
            rw [HL.out]
            exact ⟨rfl, HB1.out⟩
          · rw [if_neg hm] at hgo
            have HGo := Lib.hid hgo
            have d1 : decide (m < tk) = false := by simpa using hm
            have hnn : (m : Int) + (1 - (tk : Int)) = ((m + 1 - tk : Nat) : Int) := by omega
            clear hgo
            go_wp2_with fail
            refine (HO.out _).mono ?_
            rintro r w1 ⟨rfl, hb1⟩
            have c5 := (hb1.cell (p := ⟨wr.heap.size, 0, none⟩) (by simp)).trans (show _ = some (Value.int .i64 op) by simp [go_sem])
            have HB1 := Lib.hid (HBN.out.trans (hb1.mono HBN.out.size))
            clear hb1
            go_wp2_with (go_at_call 48; refine (HTk.out _).mono ?_; rintro r w' ⟨rfl, rfl⟩)
            go_roundg (gk - 1)
            case measure => have := HK.out; omega
            case rel => exact ⟨j + 1, m + 1 - tk, by have := HK.out; omega, by first | (rw [← hnn]; done) | rw [← hnn] | (go_num), by go_num, HGo.out, by omega, HB1.out⟩
        · rw [if_pos he] at hgo
          have hL : checkL l = e := by
            unfold checkL
            rw [if_neg h40, hgo]
            simp [he]
          have HL := Lib.hid hL
          have e0 : (e == 0) = false := by rw [beq_eq_false_iff_ne]; exact he
          have e1 : (e != 0) = true := by rw [bne, e0]; rfl
          clear hgo hL
          go_wp2_with fail
          refine (HO.out _).mono ?_
          rintro r w1 ⟨rfl, hb1⟩
          have HB1 := Lib.hid (HBN.out.trans (hb1.mono HBN.out.size))
          clear hb1
          go_wp2_with fail
          go_ret
          rw [HL.out]
          exact ⟨rfl, HB1.out⟩
      · have hj' : j = l.length := by have := HK.out; omega
        have hlt : decide ((j : Int) < (l.length : Int)) = false := by simpa using hj
        have hlt2 : decide (j < l.length) = false := by simpa using hj
        rw [List.drop_of_length_le (by omega), checkGo] at hgo
        have hml : m ≤ 40 := by omega
        by_cases hm0 : m = 0
        · subst hm0
          have hL : checkL l = 6 := by
            unfold checkL
            rw [if_neg h40, hgo]
            rfl
          have HL := Lib.hid hL
          clear hgo hL hj' hj
          go_wp2_with fail
          go_ret
          rw [HL.out]
          exact ⟨rfl, HB.out⟩
        · have m0 : ((m : Int) == 0) = false := by rw [beq_eq_false_iff_ne]; omega
          by_cases hm1 : 1 < m
          · have hL : checkL l = 8 := by
              unfold checkL
              rw [if_neg h40, hgo]
              simp only
              rw [if_neg (by simp), if_neg hm0, if_pos hm1]
            have HL := Lib.hid hL
            have d1 : decide (1 < m) = true := by simpa using hm1
            have d2 : decide ((1 : Int) < (m : Int)) = true := by rw [decide_eq_true_iff]; omega
            clear hgo hL hj' hj
            go_wp2_with fail
            go_ret
            rw [HL.out]
            exact ⟨rfl, HB.out⟩
          · have e1 : m = 1 := by omega
            subst e1
            have hsm := hS hgo
            have hpost := tree_post hgo
            have hpt := partE_any hP l A c (by omega) (treeE l) hsm [] [] (by rw [hpost]; simp) wr ((HR.out.below HB.out (Nat.le_refl _)).wide (Nat.le_refl _) HB.out.size)
            have hpos : 0 < l.length := by rw [← hpost]; exact post_pos _
            have ei : ((([] : List TM).length + (postE (treeE l)).length - 1 : Nat) : Int) = (l.length : Int) - 1 := by rw [hpost]; simp; omega
            rw [ei] at hpt
            have hL : checkL l = if 12 < deepE (treeE l) then 50 else 0 := by
              unfold checkL
              rw [if_neg h40, hgo]
              rfl
            generalize txtE (treeE l) = tl at *
            generalize deepE (treeE l) = dp at *
            simp only [retText] at hpt
            have HPt := Lib.hid hpt
            clear hgo hj' hj hsm hpost hpt ei
            by_cases h12 : 12 < dp
            · have HL := Lib.hid (hL.trans (if_pos h12))
              have d1 : decide ((12 : Int) < (dp : Int)) = true := by rw [decide_eq_true_iff]; omega
              have d2 : decide (12 < dp) = true := by simpa using h12
              clear hL
              go_wp2_with fail
              refine HPt.out.mono ?_
              rintro r w1 ⟨rfl, hb1⟩
              have HB1 := Lib.hid (HB.out.trans (hb1.mono HB.out.size))
              clear hb1
              go_wp2_with fail
              go_ret
              rw [HL.out]
              exact ⟨rfl, HB1.out⟩
            · have HL := Lib.hid (hL.trans (if_neg h12))
              have d1 : decide ((12 : Int) < (dp : Int)) = false := by rw [decide_eq_false_iff_not]; omega
              have d2 : decide (12 < dp) = false := by simpa using h12
              clear hL
              go_wp2_with fail
              refine HPt.out.mono ?_
              rintro r w1 ⟨rfl, hb1⟩
              have HB1 := Lib.hid (HB.out.trans (hb1.mono HB.out.size))
              clear hb1
              go_wp2_with fail
              go_ret
              rw [HL.out]
              exact ⟨rfl, HB1.out⟩
end Go.Proofs.YtidomoibhjgkjaaGreatDoor

/-
  Same of the document's own answers, of two slices of texts that read alike, and of two that do not.
-/
namespace Go.Proofs.YtidomoibhjgkjaaGreatDoor
open Go.RowKit

theorem below_drewN' (w : World) (n : Nat) : Below w.heap.size w (w.drewN n) := ⟨rfl, rfl, rfl, Nat.le_refl _, fun _ _ => rfl⟩

set_option maxHeartbeats 1000000 in
theorem same_same (A1 A2 : Option Addr) (n1 n2 c1 c2 lo1 hi1 lo2 hi2 : Nat) (l : List ByteArray) (w : World) (e1 : n1 = l.length) (e2 : n2 = l.length) (h1 : RowS w lo1 hi1 A1 l) (h2 : RowS w lo2 hi2 A2 l) (hl : l.length ≤ 2000000) :
    Calls Tryz.prog 14 #[.slice A1 n1 c1, .slice A2 n2 c2] w fun r w' => r = .returned (.bool true) ∧ Below w.heap.size w w' := by
  subst e1 e2
  have H1 := Lib.hid h1
  have H2 := Lib.hid h2
  clear h1 h2
  go_enter Tryz.func14, Tryz.ntmps14
  go_wp2
  go_loopg [13] l.length (fun k i wr => ∃ j m : Nat, j + k = l.length ∧ i = .int .i64 j ∧ wr = w.drewN m)
  case atStart => exact ⟨0, 0, by omega, rfl, rfl⟩
  case round =>
    obtain ⟨j, m, hk, rfl, rfl⟩ := hrel
    have HK := Lib.hid hk
    by_cases hj : j < l.length
    · have hlt : decide ((j : Int) < (l.length : Int)) = true := by simpa using hj
      obtain ⟨b, o, rfl, d1⟩ := H1.out.at_ hj
      obtain ⟨b', o', rfl, d2⟩ := H2.out.at_ hj
      clear hk
      go_wp2
      go_region
      all_goals
        go_wp2
        go_roundg (gk - 1)
        case measure => have := HK.out; omega
        case rel => exact ⟨j + 1, m + 1, by have := HK.out; omega, by go_num, rfl⟩
    · have hlt : decide ((j : Int) < (l.length : Int)) = false := by simpa using hj
      clear hk
      go_wp2
      go_ret
      exact ⟨rfl, below_drewN' w m⟩

theorem ba_append (a b : List UInt8) : (⟨a.toArray⟩ : ByteArray) ++ ⟨b.toArray⟩ = ⟨(a ++ b).toArray⟩ := by
  apply ByteArray.ext
  simp

end Go.Proofs.YtidomoibhjgkjaaGreatDoor

/-
  The document's own answers on keys: part and Make of conductorref03.
-/
namespace Go.Proofs.YtidomoibhjgkjaaGreatDoor
open Go.RowKit

theorem info_byteK : (Tryz.prog.info? 5).map (fun i => (i.zero, i.size, i.bytes)) = some (some (.int .u8 0), 1, 1) := by kernel_rfl
theorem infoByte : ∃ i, Tryz.prog.info? 5 = some i ∧ i.zero = some (.int .u8 0) ∧ i.size = 1 ∧ i.bytes = 1 := by
  obtain ⟨i, hi, hz⟩ := Option.map_eq_some_iff.1 info_byteK
  simp only [Prod.mk.injEq] at hz
  exact ⟨i, hi, hz.1, hz.2.1, hz.2.2⟩

/-- A new slice without elements. -/
theorem own_empty (w : World) (e : TypeId) : (w.alloc (.cells #[] e)).ownsRow w.heap.size e 1 (.slice (some ⟨w.heap.size, 0, none⟩) 0 0) 0 (bvs []) :=
  ⟨rfl, .inr ⟨w.heap.size, 0, #[], rfl, Nat.le_refl _, heap_alloc_new w _, Nat.le_refl _, by decide, rfl, rfl⟩⟩

/-- Two bytes that were built. -/
theorem Rd.two (w : World) (e : TypeId) (a b : UInt8) : Rd (w.alloc (.cells #[.int .u8 a.toNat, .int .u8 b.toNat] e)) w.heap.size (w.heap.size + 1) (some ⟨w.heap.size, 0, none⟩) [a, b] := fun _ => by
  refine ⟨w.heap.size, 0, rfl, Nat.le_refl _, by omega, fun j hj => ?_⟩
  rw [cell_of_row _ w.heap.size _ _ e (0, 0) (heap_alloc_new w _)]
  match j, hj with
  | 0, _ => rfl
  | 1, _ => rfl

theorem take_snocB (s : ByteArray) (k : Nat) (h : k < s.size) : s.data.toList.take (k + 1) = s.data.toList.take k ++ [s[k]] := by
  rw [List.take_succ_eq_append_getElem (by simpa using h)]; rfl

/-- The bytes of the first j parts. -/
def keyPre (l : List ByteArray) (j : Nat) : List UInt8 := encAll ((l.take j).map (·.data.toList))
theorem keyPre_succ (l : List ByteArray) (j : Nat) (h : j < l.length) : keyPre l (j + 1) = keyPre l j ++ encP l[j].data.toList := by
  unfold keyPre
  rw [List.take_succ_eq_append_getElem h, List.map_append, List.map_cons, List.map_nil, encAll_snoc]
theorem keyPre_len {l : List ByteArray} (hp : ∀ p ∈ l, p.size ≤ 100000) (j : Nat) : (keyPre l j).length ≤ 200002 * j := by
  induction j with
  | zero => simp [keyPre, encAll]
  | succ j ih =>
    by_cases h : j < l.length
    · rw [keyPre_succ l j h, List.length_append]
      have h1 := encP_len l[j].data.toList
      have h2 := hp _ (List.getElem_mem h)
      have h3 : l[j].data.toList.length = l[j].size := rfl
      omega
    · have e : keyPre l (j + 1) = keyPre l j := by
        unfold keyPre
        rw [List.take_of_length_le (by omega), List.take_of_length_le (by omega)]
      rw [e]
      omega
theorem ba_cat (a b : List UInt8) : (⟨a.toArray⟩ : ByteArray) ++ ⟨b.toArray⟩ = ⟨(a ++ b).toArray⟩ := by
  apply ByteArray.ext
  simp

/-- The bytes of a key. -/
def keyB (kind : UInt8) (l : List ByteArray) : List UInt8 := kind :: encAll (l.map (·.data.toList))

theorem conv_byte (w : World) (b : UInt8) (x : Int) (hx : x = (b.toNat : Int)) : (convert 143 9 (.slice (some ⟨w.heap.size, 0, none⟩) 1 1)).run Tryz.prog (w.alloc (.cells #[.int .u8 x] 5)) = .ok (.string ⟨[b].toArray⟩) (w.alloc (.cells #[.int .u8 x] 5)) :=
  conv_rd (m := [b]) 143 9 5 Tryz.underlying143 Tryz.underlying5 Tryz.underlying9 rfl (Rd.one w 5 _ b hx)

end Go.Proofs.YtidomoibhjgkjaaGreatDoor

/-
  The document's own answers on keys: first and Parse of conductorref03.
-/
namespace Go.Proofs.YtidomoibhjgkjaaGreatDoor
open Go.RowKit

/-- What first answers. -/
def firstV : Option (List UInt8 × List UInt8) → Value
  | some (x, r) => .tuple #[.string ⟨x.toArray⟩, .string ⟨r.toArray⟩, .bool true]
  | none => .tuple #[.string ⟨#[]⟩, .string ⟨#[]⟩, .bool false]

theorem drop_at (s : ByteArray) (k : Nat) (h : k < s.size) : s.data.toList.drop k = s[k] :: s.data.toList.drop (k + 1) := by
  rw [List.drop_eq_getElem_cons (by simpa using h)]; rfl
theorem extract_drop (s : ByteArray) (k : Nat) : s.extract k s.size = ⟨(s.data.toList.drop k).toArray⟩ := by
  apply ByteArray.ext
  rw [ByteArray.data_extract]
  apply Array.toList_inj.1
  rw [Array.toList_extract]
  show List.extract _ _ _ = _
  unfold List.extract
  have : s.data.toList.length = s.size := rfl
  rw [List.take_of_length_le (by rw [List.length_drop]; omega)]
theorem extract_take (s : ByteArray) (k : Nat) : s.extract 0 k = ⟨(s.data.toList.take k).toArray⟩ := by
  apply ByteArray.ext
  rw [ByteArray.data_extract]
  apply Array.toList_inj.1
  rw [Array.toList_extract]
  show List.extract _ _ _ = _
  unfold List.extract
  rw [List.drop_zero, Nat.sub_zero]
theorem first_short {l : List UInt8} (h : l.length ≤ 1) : firstL l = none := by
  match l, h with
  | [], _ => rfl
  | [_], _ => rfl
theorem first_bad {b : UInt8} (h1 : b ≠ 1) (h2 : b ≠ 255) (t : List UInt8) : firstL (0 :: b :: t) = none := by simp [firstL, h1, h2]
theorem u8_ne {b : UInt8} {n : Nat} (hn : n < 256) (h : b ≠ UInt8.ofNat n) : ((b.toNat : Int) == (n : Int)) = false := by
  rw [beq_eq_false_iff_ne]
  intro e
  apply h
  apply UInt8.toNat_inj.1
  rw [UInt8.toNat_ofNat']
  omega
theorem u8_eq {b : UInt8} {n : Nat} (hn : n < 256) (h : b = UInt8.ofNat n) : ((b.toNat : Int) == (n : Int)) = true := by
  rw [h, beq_iff_eq, UInt8.toNat_ofNat']
  omega

def toBA (l : List UInt8) : ByteArray := ⟨l.toArray⟩
/-- A key's kind and parts, and the error. -/
def parseL : List UInt8 → Int × List (List UInt8) × Int
  | [] => (0, [], 31)
  | c :: t => match partsL t.length t with
    | none => (0, [], 31)
    | some ps => ((c.toNat : Int), ps, 0)
theorem parseL_some {c : UInt8} {t : List UInt8} {ps : List (List UInt8)} (h : partsL t.length t = some ps) : parseL (c :: t) = ((c.toNat : Int), ps, 0) := by
  show (match partsL t.length t with | none => ((0 : Int), ([] : List (List UInt8)), (31 : Int)) | some ps => ((c.toNat : Int), ps, 0)) = _
  rw [h]
theorem parseL_none {c : UInt8} {t : List UInt8} (h : partsL t.length t = none) : parseL (c :: t) = (0, [], 31) := by
  show (match partsL t.length t with | none => ((0 : Int), ([] : List (List UInt8)), (31 : Int)) | some ps => ((c.toNat : Int), ps, 0)) = _
  rw [h]
def RetParse (L : List UInt8) (w : World) (r : Ending) (w' : World) : Prop :=
  ∃ A c, r = .returned (.tuple #[.int .u8 (parseL L).1, .slice A (parseL L).2.1.length c, .int .i64 (parseL L).2.2]) ∧ (parseL L).2.1.length ≤ c ∧ (A = none → c = 0) ∧ RowS w' w.heap.size w'.heap.size A ((parseL L).2.1.map toBA) ∧ Below w.heap.size w w'

theorem parts_step {r x m : List UInt8} (h : firstL r = some (x, m)) : partsL r.length r = (partsL m.length m).map fun l => x :: l := by
  have hl := first_len h
  cases r with
  | nil => cases h
  | cons c r =>
    show (firstL (c :: r)).bind _ = _
    rw [h]
    show (partsL r.length m).map _ = _
    rw [parts_fuel r.length (by simp at hl; omega)]
theorem parts_stop {r : List UInt8} (h : firstL r = none) (hn : r ≠ []) : partsL r.length r = none := by
  cases r with
  | nil => exact absurd rfl hn
  | cons c r =>
    show (firstL (c :: r)).bind _ = _
    rw [h]
    rfl

end Go.Proofs.YtidomoibhjgkjaaGreatDoor
