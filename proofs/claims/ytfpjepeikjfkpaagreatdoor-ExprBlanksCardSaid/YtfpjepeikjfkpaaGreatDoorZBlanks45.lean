import Derived.Test.YtfpjepeikjfkpaaGreatDoorZBlanks44
import Derived.Test.YtfpjepeikjfkpaaGreatDoorZBlanks08
/-
  The examples of the statements on expressions.
-/
namespace Go.Proofs.YtfpjepeikjfkpaaGreatDoor
open Go.RowKit

def opsE : List TM ⊕ (Int × Option Nat) → List Int
  | .inl o => o.map (·.op)
  | .inr _ => []
theorem live_a : opsE (parseE [97, 32, 43, 32, 50, 32, 42, 32, 98]) = [1, 0, 1, 6, 9] := by kernel_rfl
theorem live_b : parseE [49, 32, 43] = .inr (6, some 3) := by kernel_rfl
theorem live_c : placeW 3 = ⟨#[97, 116, 32, 51]⟩ := by
  unfold placeW
  rw [natL_small (by decide)]
  rfl
theorem live_d : ∃ o, parseE [97, 32, 43, 32, 50, 32, 42, 32, 98] = .inl o ∧ ∃ t0 t1 t2 t3 t4, o = [t0, t1, t2, t3, t4] ∧ t3.op = 6 ∧ t4.op = 9 := by
  have h := live_a
  cases hp : parseE [97, 32, 43, 32, 50, 32, 42, 32, 98] with
  | inr e => rw [hp] at h; cases h
  | inl o =>
    rw [hp] at h
    refine ⟨o, rfl, ?_⟩
    have h : o.map (·.op) = [1, 0, 1, 6, 9] := h
    match o, h with
    | [t0, t1, t2, t3, t4], h =>
      simp only [List.map_cons, List.map_nil, List.cons.injEq] at h
      exact ⟨t0, t1, t2, t3, t4, rfl, h.2.2.2.1, h.2.2.2.2.1⟩

set_option maxRecDepth 100000 in
set_option maxHeartbeats 4000000 in
theorem liveE_any (w : World) (hG : GlobE w) : Calls Tryz.prog 8 #[] w fun r w' => r = .returned (.bool true) ∧ Below w.heap.size w w' := by
  obtain ⟨o, ho, t0, t1, t2, t3, t4, rfl, h3, h4⟩ := live_d
  have HA := Lib.hid (dParse_any ⟨#[97, 32, 43, 32, 50, 32, 42, 32, 98]⟩ (by decide) w hG)
  rw [show (⟨#[97, 32, 43, 32, 50, 32, 42, 32, 98]⟩ : ByteArray).data.toList = [97, 32, 43, 32, 50, 32, 42, 32, 98] from rfl, ho] at HA
  have HG := Lib.hid hG
  clear ho hG
  go_enter Tryz.func8, Tryz.ntmps8
  go_wp2_with fail
  refine HA.out.mono ?_
  rintro r w1 ⟨hb1, A, c, rfl, hrow⟩
  have HB1 := Lib.hid hb1
  have HR1 := Lib.hid hrow
  have HBt := Lib.hid (dParse_any ⟨#[49, 32, 43]⟩ (by decide) w1 (HG.out.below hb1))
  rw [show (⟨#[49, 32, 43]⟩ : ByteArray).data.toList = [49, 32, 43] from rfl, live_b] at HBt
  clear hb1 hrow
  go_wp2_with fail
  refine HBt.out.mono ?_
  rintro r w2 ⟨hb2, v, rfl, hE⟩
  have HB2 := Lib.hid (HB1.out.trans (hb2.mono HB1.out.size))
  have HB12 := Lib.hid hb2
  have hE' : Err w2 w2.heap.size (End.num 6) [⟨#[97, 116, 32, 51]⟩] v := by
    have h : Err w2 w2.heap.size (End.num 6) [placeW 3] v := hE
    rwa [live_c] at h
  have HE := Lib.hid hE'
  have HTr := Lib.hid (trail_any [⟨#[97, 116, 32, 51]⟩] v (End.num 6) _ w2 hE' (Nat.le_refl _) (by simp) (HG.out.below HB2.out).g)
  clear hb2 hE hE'
  go_wp2_with fail
  refine HTr.out.mono ?_
  rintro r w3 ⟨sv, rfl, hown, hb3⟩
  obtain ⟨A3, c3, rfl, _, _, _, hrs⟩ := RowS.own (l := [⟨#[97, 116, 32, 51]⟩]) hown
  have HB3 := Lib.hid (HB2.out.trans (hb3.mono HB2.out.size))
  have HB13 := Lib.hid (HB12.out.trans (hb3.mono HB12.out.size))
  have HCd := Lib.hid (code_any [⟨#[97, 116, 32, 51]⟩] v (End.num 6) _ w3 (HE.out.below hb3 (Nat.le_refl _)) (.inl (by simp)) hb3.size (HG.out.below HB3.out).g)
  obtain ⟨b3, o3, rfl, hc3⟩ := hrs.at_ (k := 0) (by simp)
  have HC3 := Lib.hid hc3
  obtain ⟨b1, o1, e1, m3⟩ := (HR1.out.below HB13.out (Nat.le_refl _)).at_ (k := 3) (by simp)
  subst e1
  obtain ⟨b1', o1', e1, m4⟩ := (HR1.out.below HB13.out (Nat.le_refl _)).at_ (k := 4) (by simp)
  injection e1 with e1
  injection e1 with e1 e2
  subst e1 e2
  have k3 := m3.1
  have k4 := m4.1
  simp only [List.getElem_cons_succ, List.getElem_cons_zero, h3, h4] at k3 k4
  rw [Nat.add_zero] at hc3
  simp only [List.getElem_cons_zero] at hc3
  clear hown hb3 hrs m3 m4
  go_wp2_with (go_at_call 20; refine HCd.out.mono ?_; rintro r w4 ⟨rfl, hb4⟩; have k5 := (hb4.cell (p := ⟨b3, o3, none⟩) (World.block_lt_of_cell? w3 _ hc3)).trans hc3; have HB4 := Lib.hid hb4; clear hb4)
  go_ret
  exact ⟨rfl, HB3.out.trans (HB4.out.mono HB3.out.size)⟩
end Go.Proofs.YtfpjepeikjfkpaaGreatDoor

/-
  Expressions, the document's own answers: whether two lists of terms are the same.
-/
namespace Go.Proofs.YtfpjepeikjfkpaaGreatDoor
open Go.RowKit

set_option maxRecDepth 100000 in
set_option maxHeartbeats 2000000 in
theorem sameT_any (l m : List TM) (A B : Option Addr) (c d : Nat) (w : World) (hl : l.length ≤ 1000000) (hm : m.length ≤ 1000000) (hr : RowT w 0 w.heap.size A l) (hrm : RowT w 0 w.heap.size B m) :
    Calls Tryz.prog 16 #[.slice A l.length c, .slice B m.length d] w fun r w' => r = .returned (.bool (sameT l m)) ∧ Below w.heap.size w w' := by
  by_cases hlen : l.length = m.length
  · have HR := Lib.hid hr
    have HRM := Lib.hid hrm
    rw [hlen]
    have HLen := Lib.hid hlen
    clear hr hrm hlen hl
    go_enter Tryz.func16, Tryz.ntmps16
    go_wp2
    go_loopg [13] m.length (fun q i wr => ∃ j : Nat, j + q = m.length ∧ i = .int .i64 j ∧ l.take j = m.take j ∧ Below w.heap.size w wr)
    case atStart => exact ⟨0, by omega, rfl, rfl, Below.refl _ _⟩
    case round =>
      obtain ⟨j, hk, rfl, hall, hb⟩ := hrel
      have HK := Lib.hid hk
      have HA := Lib.hid hall
      have HB := Lib.hid hb
      clear hall hb hk
      by_cases hjm : j < m.length
      · have hlt : decide ((j : Int) < (m.length : Int)) = true := by simpa using hjm
        have hlt3 : decide (j < m.length) = true := by simpa using hjm
        have hj : j < l.length := by rw [HLen.out]; exact hjm
        obtain ⟨b, o, rfl, c0, c1, c2, c3, c4⟩ := (HR.out.below HB.out (Nat.le_refl _)).at_ hj
        obtain ⟨b', o', rfl, e0, e1, e2, e3, e4⟩ := (HRM.out.below HB.out (Nat.le_refl _)).at_ hjm
        have HT1 := Lib.hid (show l.take (j + 1) = l.take j ++ [l[j]] from by rw [List.take_succ_eq_append_getElem hj])
        have HT2 := Lib.hid (show m.take (j + 1) = m.take j ++ [m[j]] from by rw [List.take_succ_eq_append_getElem hjm])
        have HNe := Lib.hid (fun (h : l[j] ≠ m[j]) => (show sameT l m = false by
          unfold sameT
          rw [decide_eq_false_iff_not]
          intro e
          subst e
          exact h rfl))
        generalize l[j] = x at *
        generalize m[j] = y at *
        obtain ⟨op, ⟨k, n, s⟩, nm⟩ := x
        obtain ⟨op', ⟨k', n', s'⟩, nm'⟩ := y
        simp only at c0 c1 c2 c3 c4 e0 e1 e2 e3 e4
        by_cases hE : (⟨op, ⟨k, n, s⟩, nm⟩ : TM) = ⟨op', ⟨k', n', s'⟩, nm'⟩
        · have HE := Lib.hid hE
          simp only [TM.mk.injEq, V.mk.injEq] at hE
          obtain ⟨rfl, ⟨rfl, rfl, rfl⟩, rfl⟩ := hE
          go_wp2
          go_region
          go_wp2
          go_roundg (gk - 1)
          case measure => have := HK.out; omega
          case rel => exact ⟨j + 1, by have := HK.out; omega, by go_num, by rw [HT1.out, HT2.out, HA.out], HB.out.drew⟩
        · have HF := Lib.hid (HNe.out hE)
          have q : ∀ x y : ByteArray, x.toList = y.toList ↔ x = y := fun x y => ⟨fun h => by rw [ByteArray.toList_eq, ByteArray.toList_eq] at h; exact ba_list h, fun h => by rw [h]⟩
          have hfirst : ¬ op = op' ∨ (op = op' ∧ ¬ k = k') ∨ (op = op' ∧ k = k' ∧ ¬ n = n') ∨ (op = op' ∧ k = k' ∧ n = n' ∧ ¬ s.toList = s'.toList) ∨ (op = op' ∧ k = k' ∧ n = n' ∧ s = s' ∧ ¬ nm.toList = nm'.toList) := by
            rw [q, q]
            simp only [TM.mk.injEq, V.mk.injEq] at hE
            by_cases h1 : op = op'
            · by_cases h2 : k = k'
              · by_cases h3 : n = n'
                · by_cases h4 : s = s'
                  · by_cases h5 : nm = nm'
                    · exact absurd ⟨h1, ⟨h2, h3, h4⟩, h5⟩ hE
                    · exact .inr (.inr (.inr (.inr ⟨h1, h2, h3, h4, h5⟩)))
                  · exact .inr (.inr (.inr (.inl ⟨h1, h2, h3, h4⟩)))
                · exact .inr (.inr (.inl ⟨h1, h2, h3⟩))
              · exact .inr (.inl ⟨h1, h2⟩)
            · exact .inl h1
          clear hE q
          rcases hfirst with h | ⟨rfl, h⟩ | ⟨rfl, rfl, h⟩ | ⟨rfl, rfl, rfl, h⟩ | ⟨rfl, rfl, rfl, rfl, h⟩
          all_goals
            go_wp2
            go_region
            go_wp2
            go_ret
            rw [HF.out]
            exact ⟨rfl, HB.out.drew⟩
      · have hj' : j = m.length := by have := HK.out; omega
        have hlt : decide ((j : Int) < (m.length : Int)) = false := by simpa using hjm
        have HF := Lib.hid (show sameT l m = true by
          have h := HA.out
          rw [hj', List.take_length, ← HLen.out, List.take_length] at h
          unfold sameT
          rw [decide_eq_true_iff]
          exact h)
        clear hj'
        go_wp2
        go_ret
        rw [HF.out]
        exact ⟨rfl, HB.out⟩
  · have hle : ((l.length : Int) == (m.length : Int)) = false := by rw [beq_eq_false_iff_ne]; omega
    have hle2 : ((l.length : Int) != (m.length : Int)) = true := by rw [bne, hle]; rfl
    have e : sameT l m = false := by unfold sameT; rw [decide_eq_false_iff_not]; intro e; exact hlen (by rw [e])
    rw [e]
    clear e hlen hr hrm
    go_enter Tryz.func16, Tryz.ntmps16
    go_wp2
    go_ret
    exact ⟨rfl, Below.refl _ _⟩
end Go.Proofs.YtfpjepeikjfkpaaGreatDoor

/-
  ExprBlanks: blanks ahead make no difference but to where something is wrong.
-/
namespace Go.Proofs.YtfpjepeikjfkpaaGreatDoor
open Go.RowKit

namespace exprBlanks
def blankB : ByteArray := ⟨#[32, 32, 32, 32, 32, 32, 32, 32, 32, 32, 32, 32, 32, 32, 32, 32, 32, 32, 32, 32]⟩
theorem blank_take : ∀ n : Fin 21, (blankB.extract 0 n.val) = ⟨(List.replicate n.val 32).toArray⟩ := by decide

set_option maxRecDepth 100000 in
set_option maxHeartbeats 4000000 in
theorem walk_out (s : ByteArray) (n : Nat) (hn : n ≤ 255) (hs : s.size ≤ 9223372036854775807) (hc : 100 < s.size ∨ 20 < n) (w : World) (hG : GlobE w) :
    Calls Tryz.prog 7 #[.string s, .int .u8 (n : Int)] w fun r w' => r = .returned (.bool true) ∧ Below w.heap.size w w' := by
  have HL := Lib.hid (fun wx hb => liveE_any wx (hG.below hb))
  have HB0 := Lib.hid (Below.refl w.heap.size w)
  clear hG
  by_cases h100 : 100 < s.size
  · have d1 : decide ((100 : Int) < (s.size : Int)) = true := by rw [decide_eq_true_iff]; omega
    clear hc h100
    go_enter Tryz.func7, Tryz.ntmps7
    go_wp2_with (go_at_call 8; (first | (refine (HL.out _ HB0.out).mono ?_; rintro r w1 ⟨rfl, hb1⟩) | (refine (HL.out _ hb1).mono ?_; rintro r w2 ⟨rfl, hb2⟩)))
    go_ret
    exact ⟨rfl, hb1.trans (hb2.mono hb1.size)⟩
  · have d1 : decide ((100 : Int) < (s.size : Int)) = false := by rw [decide_eq_false_iff_not]; omega
    have h20 : 20 < n := by omega
    have d2 : decide ((20 : Int) < (n : Int)) = true := by rw [decide_eq_true_iff]; omega
    have d2' : decide (20 < n) = true := by simpa using h20
    clear hc h100 h20
    go_enter Tryz.func7, Tryz.ntmps7
    go_wp2_with (go_at_call 8; (first | (refine (HL.out _ HB0.out).mono ?_; rintro r w1 ⟨rfl, hb1⟩) | (refine (HL.out _ hb1).mono ?_; rintro r w2 ⟨rfl, hb2⟩)))
    go_ret
    exact ⟨rfl, hb1.trans (hb2.mono hb1.size)⟩

set_option maxRecDepth 100000 in
set_option maxHeartbeats 4000000 in
theorem walk (s : ByteArray) (n : Nat) (hn : n ≤ 255) (hs : s.size ≤ 9223372036854775807) (w : World) (hG : GlobE w) :
    Calls Tryz.prog 7 #[.string s, .int .u8 (n : Int)] w fun r w' => r = .returned (.bool true) ∧ Below w.heap.size w w' := by
  by_cases hc : 100 < s.size ∨ 20 < n
  · exact walk_out s n hn hs hc w hG
  have h100 : s.size ≤ 100 := by omega
  have h20 : n ≤ 20 := by omega
  have d1 : decide ((100 : Int) < (s.size : Int)) = false := by rw [decide_eq_false_iff_not]; omega
  have d2 : decide ((20 : Int) < (n : Int)) = false := by rw [decide_eq_false_iff_not]; omega
  have d2' : decide (20 < n) = false := by rw [decide_eq_false_iff_not]; omega
  obtain ⟨T, hT⟩ : ∃ T : ByteArray, T = blankB.extract 0 n ++ s := ⟨_, rfl⟩
  have hTl : T.data.toList = List.replicate n 32 ++ s.data.toList := by
    rw [hT, blank_take ⟨n, by omega⟩]
    simp
  have hTs : T.size ≤ 1000000 := by
    show T.data.toList.length ≤ _
    rw [hTl]
    simp
    show n + s.size ≤ 1000000
    omega
  have hcode := parseE_blanks s.data.toList n (by show n + s.size ≤ 128; omega)
  rw [← hTl] at hcode
  have HG := Lib.hid (fun wx hb => hG.below (w' := wx) hb)
  have HL := Lib.hid (liveE_any w hG)
  have HP := Lib.hid (fun wx hb => dParse_any s (by omega) wx (HG.out wx hb))
  have HQ := Lib.hid (fun wx hb => dParse_any T hTs wx (HG.out wx hb))
  have hext : (⟨#[32, 32, 32, 32, 32, 32, 32, 32, 32, 32, 32, 32, 32, 32, 32, 32, 32, 32, 32, 32]⟩ : ByteArray).extract 0 n = blankB.extract 0 n := rfl
  have hbz : (blankB.extract 0 n).size = n := by
    rw [blank_take ⟨n, by omega⟩]
    simp [ByteArray.size]
  have hTT : blankB.extract 0 n ++ s = T := hT.symm
  clear hG hT hTl hTs
  generalize blankB.extract 0 n = bl at *
  -- what the second text comes to
  cases hX : parseE s.data.toList with
  | inl o =>
    have hY : parseE T.data.toList = .inl o := by
      rw [hX] at hcode
      cases hq : parseE T.data.toList with
      | inl o2 => rw [hq] at hcode; injection hcode with hcode; rw [hcode]
      | inr e => rw [hq] at hcode; cases hcode
    have h40 : o.length ≤ 40 := by
      unfold parseE at hX
      split at hX
      · cases hX
      · split at hX
        · cases hX
        · split at hX
          · cases hX
          · injection hX with hX
            subst hX
            omega
    rw [hX] at HP
    rw [hY] at HQ
    clear hX hY hcode
    go_enter Tryz.func7, Tryz.ntmps7
    go_wp2_with (go_at_call 8; refine HL.out.mono ?_; rintro r w1 ⟨rfl, hb1⟩; have HB1 := Lib.hid hb1; clear hb1)
    refine (HP.out _ HB1.out).mono ?_
    rintro r w2 ⟨hb2, A1, c1, rfl, hr1⟩
    have HB2 := Lib.hid (HB1.out.trans (hb2.mono HB1.out.size))
    have HR1 := Lib.hid (hr1.wide (lo' := 0) (Nat.zero_le _) (Nat.le_refl _))
    clear hb2 hr1
    go_wp2_with fail
    refine (HQ.out _ HB2.out).mono ?_
    rintro r w3 ⟨hb3, A2, c2, rfl, hr2⟩
    have HB3 := Lib.hid (HB2.out.trans (hb3.mono HB2.out.size))
    have HSm := Lib.hid (sameT_any o o A1 A2 c1 c2 w3 (by omega) (by omega) ((HR1.out.below hb3 (Nat.le_refl _)).wide (Nat.le_refl _) hb3.size) (hr2.wide (Nat.zero_le _) (Nat.le_refl _)))
    rw [show sameT o o = true from by unfold sameT; simp] at HSm
    have HCN := Lib.hid (fun wx (hb : Below w.heap.size w wx) => (code_none wx).mono (R' := fun r w' => r = .returned (.int .i64 0) ∧ Below w.heap.size w w') (by rintro r w' ⟨rfl, hb'⟩; exact ⟨rfl, hb.trans (hb'.mono hb.size)⟩))
    clear hb3 hr2
    go_wp2_with (first | (go_at_call 16; refine HSm.out.mono ?_; rintro r w4 ⟨rfl, hb4⟩; have HB4 := Lib.hid (HB3.out.trans (hb4.mono HB3.out.size)); clear hb4) | (go_at_call 20; first | (refine (HCN.out _ HB4.out).mono ?_; rintro r w5 ⟨rfl, hb5⟩) | (refine (HCN.out _ hb5).mono ?_; rintro r w6 ⟨rfl, hb6⟩)))
    go_ret
    exact ⟨rfl, hb6⟩
  | inr ep =>
    obtain ⟨e, p⟩ := ep
    obtain ⟨p2, hY⟩ : ∃ p2, parseE T.data.toList = .inr (e, p2) := by
      rw [hX] at hcode
      cases hq : parseE T.data.toList with
      | inl o2 => rw [hq] at hcode; cases hcode
      | inr ep2 =>
        obtain ⟨e2, p2⟩ := ep2
        rw [hq] at hcode
        have hcode : Sum.inr e2 = (Sum.inr e : List TM ⊕ Int) := hcode
        injection hcode with hcode
        exact ⟨p2, by rw [hcode]⟩
    rw [hX] at HP
    rw [hY] at HQ
    clear hX hY hcode
    go_enter Tryz.func7, Tryz.ntmps7
    go_wp2_with (go_at_call 8; refine HL.out.mono ?_; rintro r w1 ⟨rfl, hb1⟩; have HB1 := Lib.hid hb1; clear hb1)
    refine (HP.out _ HB1.out).mono ?_
    rintro r w2 ⟨hb2, v1, rfl, hE1⟩
    have HB2 := Lib.hid (HB1.out.trans (hb2.mono HB1.out.size))
    have HE1 := Lib.hid hE1
    clear hb2 hE1
    go_wp2_with fail
    refine (HQ.out _ HB2.out).mono ?_
    rintro r w3 ⟨hb3, v2, rfl, hE2⟩
    have HB3 := Lib.hid (HB2.out.trans (hb3.mono HB2.out.size))
    have HC1 := Lib.hid (fun wx (hb : Below w3.heap.size w3 wx) => code_any (placesE p) v1 (End.num e) _ wx ((HE1.out.below hb3 (Nat.le_refl _)).below hb hb3.size) (.inr (by intro h; cases h)) (Nat.le_trans hb3.size hb.size) (HG.out wx (HB3.out.trans (hb.mono HB3.out.size))).g)
    have HC2 := Lib.hid (fun wx (hb : Below w3.heap.size w3 wx) => code_any (placesE p2) v2 (End.num e) _ wx (hE2.below hb (Nat.le_refl _)) (.inr (by intro h; cases h)) hb.size (HG.out wx (HB3.out.trans (hb.mono HB3.out.size))).g)
    have HSm := Lib.hid (sameT_any [] [] none none 0 0 w3 (by simp) (by simp) (fun h => by simp at h) (fun h => by simp at h))
    rw [show sameT [] [] = true from by unfold sameT; simp] at HSm
    clear hb3 hE2
    go_upto_region 6 with fail
    go_wp2_with (first | (go_at_call 16; refine HSm.out.mono ?_; rintro r w4 ⟨rfl, hb4⟩) | (go_at_call 20; first | (refine (HC1.out _ hb4).mono ?_; rintro r w5 ⟨rfl, hb5⟩) | (refine (HC2.out _ (hb4.trans (hb5.mono hb4.size))).mono ?_; rintro r w6 ⟨rfl, hb6⟩)))
    go_ret
    exact ⟨rfl, HB3.out.trans ((hb4.trans ((hb5.mono hb4.size).trans (hb6.mono (Nat.le_trans hb4.size hb5.size)))).mono HB3.out.size)⟩
end exprBlanks
end Go.Proofs.YtfpjepeikjfkpaaGreatDoor
