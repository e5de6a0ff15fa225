import Derived.Test.YtfpjepeikjfkpaaGreatDoorZD00
import Derived.RegionTactic
import Derived.Laws.Cover1
import Derived.Test.YtfpjepeikjfkpaaGreatDoorZC34
import Derived.Test.YtfpjepeikjfkpaaGreatDoorZC47
/-
  Expressions, the document's own answers: the names of variables.
-/
namespace Go.Proofs.YtfpjepeikjfkpaaGreatDoor
open Go.RowKit

/-- What is before a name, the name, and what is behind it. -/
def stepN (x : List UInt8) (out : List (List UInt8)) : List (List UInt8) := out.filter (fun s => blt s x) ++ x :: out.filter (fun s => blt x s)
theorem step_ins {x : List UInt8} {out : List (List UInt8)} (h : out.Pairwise (fun x y => blt x y = true)) : stepN x out = insName x out := by
  refine strict_eq ?_ (ins_strict x h) fun z => ?_
  · unfold stepN
    rw [List.pairwise_append]
    refine ⟨h.filter _, ?_, ?_⟩
    · rw [List.pairwise_cons]
      refine ⟨fun z hz => ?_, h.filter _⟩
      exact (List.mem_filter.1 hz).2
    · intro a ha b hb
      have h1 : blt a x = true := (List.mem_filter.1 ha).2
      rcases List.mem_cons.1 hb with rfl | hb
      · exact h1
      · exact blt_trans h1 (List.mem_filter.1 hb).2
  · unfold stepN
    rw [ins_mem, List.mem_append, List.mem_cons, List.mem_filter, List.mem_filter]
    constructor
    · rintro (h | h | h)
      · exact .inr h.1
      · exact .inl h
      · exact .inr h.1
    · rintro (h | h)
      · exact .inr (.inl h)
      · rcases blt_tri z x with g | g | g
        · exact .inl ⟨h, g⟩
        · exact .inr (.inl g)
        · exact .inr (.inr ⟨h, g⟩)
/-- The names of the first so many terms. -/
def outN (l : List TM) (j : Nat) : List (List UInt8) := namesE (l.take j)
theorem outN_strict (l : List TM) (j : Nat) : (outN l j).Pairwise (fun x y => blt x y = true) := by
  unfold outN namesE
  rw [names_fold]
  exact (fold_ins _ _ List.Pairwise.nil).1
theorem outN_len (l : List TM) (j : Nat) : (outN l j).length ≤ j := Nat.le_trans (names_len _) (by rw [List.length_take]; omega)
theorem outN_nm {l : List TM} {j : Nat} (hj : j < l.length) (hx : (l[j]'hj).op = 1 ∨ (l[j]'hj).op = 2) : outN l (j + 1) = stepN (l[j]'hj).nm.data.toList (outN l j) := by
  rw [step_ins (outN_strict l j)]
  unfold outN namesE
  rw [List.take_succ_eq_append_getElem hj, List.foldl_append, List.foldl_cons, List.foldl_nil, if_pos hx]
theorem outN_no {l : List TM} {j : Nat} (hj : j < l.length) (hx : ¬ ((l[j]'hj).op = 1 ∨ (l[j]'hj).op = 2)) : outN l (j + 1) = outN l j := by
  unfold outN namesE
  rw [List.take_succ_eq_append_getElem hj, List.foldl_append, List.foldl_cons, List.foldl_nil, if_neg hx]
theorem asB_append (a b : List (List UInt8)) : asB (a ++ b) = asB a ++ asB b := by simp [asB]
theorem asB_len (a : List (List UInt8)) : (asB a).length = a.length := by simp [asB]
theorem asB_at {a : List (List UInt8)} {k : Nat} (h : k < (asB a).length) : (asB a)[k] = ⟨(a[k]'(by rw [asB_len] at h; exact h)).toArray⟩ := by simp [asB]

set_option maxRecDepth 100000 in
set_option maxHeartbeats 8000000 in
theorem refNames_any (l : List TM) (A : Option Addr) (c : Nat) (hll : l.length ≤ 1000) (w : World) (hr : RowT w 0 w.heap.size A l) :
    Calls Tryz.prog 14 #[.slice A l.length c] w fun r w' => ∃ A' c', r = .returned (.slice A' (namesE l).length c') ∧ RowS w' w.heap.size w'.heap.size A' (asB (namesE l)) ∧ Below w.heap.size w w' := by
  have HR := Lib.hid hr
  obtain ⟨i0, hi0, hz0, hs0, hb0⟩ := infoStr
  have I0 := Lib.hid hi0
  have I1 := Lib.hid hz0
  have I2 := Lib.hid hs0
  have I3 := Lib.hid hb0
  clear hr hi0 hz0 hs0 hb0
  go_enter Tryz.func14, Tryz.ntmps14
  go_wp2
  go_loopg [3, 13] l.length (fun q v i wr => ∃ j : Nat, j + q = l.length ∧ i = .int .i64 (j : Int) ∧ wr.ownsRow w.heap.size 9 1 v (outN l j).length ((asB (outN l j)).map Value.string) ∧ Below w.heap.size w wr)
  case atStart => exact ⟨0, by omega, rfl, World.ownsRow_nil _ _ _ _, Below.refl _ _⟩
  case round =>
    obtain ⟨j, hk, rfl, hown, hb⟩ := hrel
    obtain ⟨wo, hwo⟩ : ∃ y, y = wr := ⟨_, rfl⟩
    subst hwo
    obtain ⟨g0, hg0⟩ : ∃ y, y = gk := ⟨_, rfl⟩
    subst hg0
    have HK := Lib.hid hk
    have HB := Lib.hid hb
    obtain ⟨A9, c9, rfl, h9, _, _, hrow⟩ := RowS.own hown
    clear h9
    have HO := Lib.hid hown
    have HRow := Lib.hid hrow
    have hLlen := outN_len l j
    clear hb hk hown hrow
    by_cases hj : j < l.length
    · have hlt : decide ((j : Int) < (l.length : Int)) = true := by simpa using hj
      have hlt2 : decide (j < l.length) = true := by simpa using hj
      obtain ⟨b, o, rfl, c0, c1, c2, c3, c4⟩ := (HR.out.below HB.out (Nat.le_refl _)).at_ hj
      have HYes := Lib.hid (fun hx => outN_nm hj hx)
      have HNo := Lib.hid (fun hx => outN_no hj hx)
      generalize l[j] = x at *
      have hbn := HB.out.alloc HB.out.size (.cells (cellsT' x).toArray 44)
      have hown1 := World.ownsRow.alloc HO.out (.cells (cellsT' x).toArray 44)
      by_cases hx : x.op = 1 ∨ x.op = 2
      · have HT := Lib.hid (HYes.out hx)
        have g1 : ((x.op == 1) = true ∧ (x.op != 1) = false) ∨ ((x.op == 1) = false ∧ (x.op != 1) = true ∧ (x.op == 2) = true ∧ (x.op != 2) = false) := by
          simp only [bne, beq_iff_eq, beq_eq_false_iff_ne, Bool.not_eq_false', Bool.not_eq_true']
          omega
        have HBN := Lib.hid hbn
        clear hx hbn hown1 HYes HNo
        generalize outN l j = L at *
        obtain ⟨op, ⟨vk, vn, vs⟩, nm⟩ := x
        simp only [cellsT'] at c0 c1 c2 c3 c4 HBN g1 HT
        have hbw : Below wo.heap.size wo (wo.alloc (.cells #[.int .i64 op, .int .i64 vk, .int .i64 vn, .string vs, .string nm] 44)) := (Below.refl _ _).alloc (Nat.le_refl _) _
        have HBw := Lib.hid hbw
        clear hbw
        rcases g1 with ⟨g1, g1'⟩ | ⟨g1, g1', g2, g2'⟩
        all_goals
          go_wp2
          obtain ⟨wt, hwt⟩ : ∃ y, wo.alloc (.cells #[.int .i64 op, .int .i64 vk, .int .i64 vn, .string vs, .string nm] 44) = y := ⟨_, rfl⟩
          have HBt := Lib.hid (show Below w.heap.size w wt by rw [← hwt]; exact HBN.out)
          have hRt : RowS wt 0 wt.heap.size A9 (asB L) := by rw [← hwt]; exact (HRow.out.below HBw.out (Nat.le_refl _)).wide (Nat.zero_le _) HBw.out.size
          have HRt := Lib.hid hRt
          have hnt : wt.cell? ⟨wo.heap.size, 2 + 2, none⟩ = some (.string nm) := by rw [← hwt]; simp [go_sem]
          have hot : wo.heap.size < wt.heap.size := by rw [← hwt]; simp
          have HNt := Lib.hid hnt
          rw [hwt]
          clear hRt hnt hwt
          go_loopg [6, 27] L.length (fun q nv i wr => ∃ k : Nat, k + q = L.length ∧ i = .int .i64 (k : Int) ∧ wr.ownsRow wt.heap.size 9 1 nv ((L.take k).filter fun s => blt s nm.data.toList).length ((asB ((L.take k).filter fun s => blt s nm.data.toList)).map Value.string) ∧ Below wt.heap.size wt wr)
          case atStart => exact ⟨0, by omega, rfl, World.ownsRow_nil _ _ _ _, Below.refl _ _⟩
          case round =>
            obtain ⟨k, hk, rfl, hown, hb⟩ := hrel
            have HK2 := Lib.hid hk
            have HW := Lib.hid hb
            have HN := Lib.hid hown
            have nmc := (hb.cell (p := ⟨wo.heap.size, 2 + 2, none⟩) hot).trans HNt.out
            clear hb hk hown
            by_cases hkl : k < L.length
            · have hlt3 : decide ((k : Int) < (L.length : Int)) = true := by simpa using hkl
              have hlt4 : decide (k < L.length) = true := by simpa using hkl
              obtain ⟨b9, o9, rfl, s9⟩ := (HRt.out.below HW.out (Nat.le_refl _)).at_ (k := k) (by rw [asB_len]; exact hkl)
              rw [asB_at] at s9
              obtain ⟨sB, hsB⟩ : ∃ sB : ByteArray, sB = ⟨(L[k]).toArray⟩ := ⟨_, rfl⟩
              have hsl : sB.data.toList = L[k] := by rw [hsB]
              rw [← hsB] at s9
              have HsB := Lib.hid hsB
              clear hsB
              have hf : (L.take (k + 1)).filter (fun s => blt s nm.data.toList) = (L.take k).filter (fun s => blt s nm.data.toList) ++ (if blt (L[k]) nm.data.toList = true then [L[k]] else []) := by
                rw [List.take_succ_eq_append_getElem hkl, List.filter_append]
                congr 1
                by_cases hh : blt (L[k]) nm.data.toList = true
                · rw [if_pos hh]; simp [hh]
                · rw [if_neg hh]; simp [hh]
              have hfl : ((L.take k).filter fun s => blt s nm.data.toList).length ≤ 1000 := by
                refine Nat.le_trans (List.length_filter_le ..) ?_
                rw [List.length_take]
                omega
              have HFl := Lib.hid hf
              clear hf
              cases hq : blt (L[k]) nm.data.toList
              · have HF2 := Lib.hid (show _ by have h := HFl.out; rw [hq, if_neg (by simp), List.append_nil] at h; exact h)
                have q1 : Op.bytesLess sB.toList nm.toList = false := by rw [ByteArray.toList_eq, ByteArray.toList_eq, hsl]; exact hq
                clear HFl hsl
                go_wp2
                go_roundg (gk - 1)
                case measure => have := HK2.out; omega
                case rel => exact ⟨k + 1, by have := HK2.out; omega, by go_num, by rw [HF2.out]; exact HN.out, HW.out⟩
              · have HF2 := Lib.hid (show _ by have h := HFl.out; rw [hq, if_pos rfl] at h; exact h)
                have q1 : Op.bytesLess sB.toList nm.toList = true := by rw [ByteArray.toList_eq, ByteArray.toList_eq, hsl]; exact hq
                clear HFl hsl
                go_wp2_with (at_builtin; refine append_strs _ rfl _ _ 28 rfl wt.heap.size 9 i0 _ Tryz.underlying28 I0.out I1.out I2.out I3.out rfl _ _ (asB ((L.take k).filter fun s => blt s nm.data.toList)) rfl (World.ownsRow.alloc HN.out _) _ _ _ 1 _ [sB] rfl rfl (by intro h; cases h) (RowS.one _ _ _) (by simp only [asB_len, List.length_append, List.length_cons, List.length_nil]; omega) (by have := HW.out.size; simp at this ⊢; omega) ?_; intro v1 w3 hown3 hgrow3; have hb3 : Below wt.heap.size wt w3 := (HW.out.alloc HW.out.size _).grown hgrow3 (by have := HW.out.size; simp at this ⊢; omega) (fun g hg => (HN.out.lt g hg).1); have HB3 := Lib.hid hb3; have HO3 := Lib.hid hown3; clear hgrow3 hb3 hown3)
                go_roundg (gk - 1)
                case measure => have := HK2.out; omega
                case rel => exact ⟨k + 1, by have := HK2.out; omega, by go_num, by rw [HF2.out, asB_append, List.length_append, show asB [L[k]] = [sB] from by rw [HsB.out]; rfl]; exact HO3.out, HB3.out⟩
            · have hlt3 : decide ((k : Int) < (L.length : Int)) = false := by simpa using hkl
              have hlt4 : decide (k < L.length) = false := by simpa using hkl
              have hkL : k = L.length := by have := HK2.out; omega
              have hN := HN.out
              rw [hkL, List.take_length] at hN
              have HN := Lib.hid hN
              have hfl : (L.filter fun s => blt s nm.data.toList).length ≤ 1000 := by
                refine Nat.le_trans (List.length_filter_le ..) ?_
                omega
              clear hkL hN
              go_wp2_with (at_builtin; refine append_strs _ rfl _ _ 28 rfl wt.heap.size 9 i0 _ Tryz.underlying28 I0.out I1.out I2.out I3.out rfl _ _ (asB (L.filter fun s => blt s nm.data.toList)) rfl (World.ownsRow.alloc HN.out _) _ _ _ 1 _ [nm] rfl rfl (by intro h; cases h) (RowS.one _ _ _) (by simp only [asB_len, List.length_append, List.length_cons, List.length_nil]; omega) (by have := HW.out.size; simp at this ⊢; omega) ?_; intro v1 w3 hown3 hgrow3; have hb3 : Below wt.heap.size wt w3 := (HW.out.alloc HW.out.size _).grown hgrow3 (by have := HW.out.size; simp at this ⊢; omega) (fun g hg => (HN.out.lt g hg).1); have HB3 := Lib.hid hb3; have HO3 := Lib.hid hown3; clear hgrow3 hb3 hown3)
              have nmc3 := (HB3.out.cell (p := ⟨wo.heap.size, 2 + 2, none⟩) hot).trans HNt.out
              obtain ⟨F, hF⟩ : ∃ F, F = (L.filter fun s => blt s nm.data.toList) ++ [nm.data.toList] := ⟨_, rfl⟩
              have hFl : F.length ≤ 1001 := by rw [hF, List.length_append, List.length_singleton]; omega
              have HO4 := Lib.hid (show w3.ownsRow wt.heap.size 9 1 v1 F.length ((asB F).map Value.string) from by
                have h := HO3.out
                rw [show asB (L.filter fun s => blt s nm.data.toList) ++ [nm] = asB F from by rw [hF, asB_append]; congr 1] at h
                rw [hF, List.length_append, List.length_singleton, ← hF]
                exact h)
              have HStep := Lib.hid (show stepN nm.data.toList L = F ++ L.filter (fun s => blt nm.data.toList s) from by rw [hF]; unfold stepN; rw [List.append_assoc]; rfl)
              clear HO3 hF hfl nmc
              go_wp2
              go_loopg [6, 47] L.length (fun q nv i wr => ∃ m : Nat, m + q = L.length ∧ i = .int .i64 (m : Int) ∧ wr.ownsRow wt.heap.size 9 1 nv (F ++ ((L.take m).filter fun s => blt nm.data.toList s)).length ((asB (F ++ ((L.take m).filter fun s => blt nm.data.toList s))).map Value.string) ∧ Below wt.heap.size wt wr)
              case atStart =>
                refine ⟨0, by omega, rfl, ?_, HB3.out⟩
                rw [List.take_zero, List.filter_nil, List.append_nil]
                exact HO4.out
              case round =>
                obtain ⟨m, hk, rfl, hown, hb⟩ := hrel
                have HK3 := Lib.hid hk
                have HV := Lib.hid hb
                have HM := Lib.hid hown
                have nmc := (hb.cell (p := ⟨wo.heap.size, 2 + 2, none⟩) hot).trans HNt.out
                clear hb hk hown nmc3
                by_cases hml : m < L.length
                · have hlt5 : decide ((m : Int) < (L.length : Int)) = true := by simpa using hml
                  have hlt6 : decide (m < L.length) = true := by simpa using hml
                  obtain ⟨b9, o9, rfl, s9⟩ := (HRt.out.below HV.out (Nat.le_refl _)).at_ (k := m) (by rw [asB_len]; exact hml)
                  rw [asB_at] at s9
                  obtain ⟨sB, hsB⟩ : ∃ sB : ByteArray, sB = ⟨(L[m]).toArray⟩ := ⟨_, rfl⟩
                  have hsl : sB.data.toList = L[m] := by rw [hsB]
                  rw [← hsB] at s9
                  have HsB := Lib.hid hsB
                  clear hsB
                  have hf : (L.take (m + 1)).filter (fun s => blt nm.data.toList s) = ((L.take m).filter fun s => blt nm.data.toList s) ++ (if blt nm.data.toList (L[m]) = true then [L[m]] else []) := by
                    rw [List.take_succ_eq_append_getElem hml, List.filter_append]
                    congr 1
                    by_cases hh : blt nm.data.toList (L[m]) = true
                    · rw [if_pos hh]; simp [hh]
                    · rw [if_neg hh]; simp [hh]
                  have hfl : ((L.take m).filter fun s => blt nm.data.toList s).length ≤ 1000 := by
                    refine Nat.le_trans (List.length_filter_le ..) ?_
                    rw [List.length_take]
                    omega
                  have HFl := Lib.hid hf
                  clear hf
                  cases hq : blt nm.data.toList (L[m])
                  · have HF2 := Lib.hid (show _ by have h := HFl.out; rw [hq, if_neg (by simp), List.append_nil] at h; exact h)
                    have q0 : (Op.bytesLess sB.toList nm.toList || sB.toList == nm.toList) = true := by
                      rw [ByteArray.toList_eq, ByteArray.toList_eq, hsl]
                      rcases blt_tri L[m] nm.data.toList with g | g | g
                      · have g : Op.bytesLess L[m] nm.data.toList = true := g
                        rw [g]; rfl
                      · rw [g]; simp
                      · rw [hq] at g; cases g
                    have q1 : (Op.bytesLess sB.toList nm.toList = true) ∨ (Op.bytesLess sB.toList nm.toList = false ∧ (sB.toList == nm.toList) = true) := by
                      cases hz : Op.bytesLess sB.toList nm.toList
                      · rw [hz, Bool.false_or] at q0; exact .inr ⟨rfl, q0⟩
                      · exact .inl rfl
                    clear HFl hsl q0
                    rcases q1 with q1 | ⟨q1, q2⟩
                    · go_wp2
                      go_roundg (gk - 1)
                      case measure => have := HK3.out; omega
                      case rel => exact ⟨m + 1, by have := HK3.out; omega, by go_num, by rw [HF2.out]; exact HM.out, HV.out⟩
                    · have q3 : sB.toList = nm.toList := by simpa using q2
                      go_wp2
                      go_roundg (gk - 1)
                      case measure => have := HK3.out; omega
                      case rel => exact ⟨m + 1, by have := HK3.out; omega, by go_num, by rw [HF2.out]; exact HM.out, HV.out⟩
                  · have HF2 := Lib.hid (show _ by have h := HFl.out; rw [hq, if_pos rfl] at h; exact h)
                    have q1 : Op.bytesLess sB.toList nm.toList = false := by rw [ByteArray.toList_eq, ByteArray.toList_eq, hsl]; exact blt_asymm hq
                    have q2 : (sB.toList == nm.toList) = false := by
                      rw [ByteArray.toList_eq, ByteArray.toList_eq, hsl, beq_eq_false_iff_ne]
                      intro e
                      rw [e, blt_self] at hq
                      cases hq
                    have q3 : ¬ sB.toList = nm.toList := by simpa using q2
                    clear HFl hsl
                    go_wp2_with (at_builtin; refine append_strs _ rfl _ _ 28 rfl wt.heap.size 9 i0 _ Tryz.underlying28 I0.out I1.out I2.out I3.out rfl _ _ (asB (F ++ ((L.take m).filter fun s => blt nm.data.toList s))) rfl (World.ownsRow.alloc HM.out _) _ _ _ 1 _ [sB] rfl rfl (by intro h; cases h) (RowS.one _ _ _) (by simp only [asB_len, List.length_append, List.length_cons, List.length_nil]; omega) (by have := HV.out.size; simp at this ⊢; omega) ?_; intro v1 w3 hown3 hgrow3; have hb3 : Below wt.heap.size wt w3 := (HV.out.alloc HV.out.size _).grown hgrow3 (by have := HV.out.size; simp at this ⊢; omega) (fun g hg => (HM.out.lt g hg).1); have HB3 := Lib.hid hb3; have HO3 := Lib.hid hown3; clear hgrow3 hb3 hown3)
                    go_roundg (gk - 1)
                    case measure => have := HK3.out; omega
                    case rel => exact ⟨m + 1, by have := HK3.out; omega, by go_num, by rw [HF2.out, ← List.append_assoc, asB_append, List.length_append, show asB [L[m]] = [sB] from by rw [HsB.out]; rfl]; exact HO3.out, HB3.out⟩
                · have hlt5 : decide ((m : Int) < (L.length : Int)) = false := by simpa using hml
                  have hlt6 : decide (m < L.length) = false := by simpa using hml
                  have hmL : m = L.length := by have := HK3.out; omega
                  have hM := HM.out
                  rw [hmL, List.take_length, ← HStep.out] at hM
                  have HM2 := Lib.hid hM
                  clear hM hmL
                  go_wp2
                  go_roundg (g0 - 1)
                  case measure => have := HK.out; omega
                  case rel => exact ⟨j + 1, by have := HK.out; omega, by go_num, by rw [HT.out]; exact ownF_below HM2.out (fun _ _ _ => rfl) HBt.out.size, HBt.out.trans (HV.out.mono HBt.out.size)⟩
      · have HT := Lib.hid (HNo.out hx)
        have g1 : (x.op == 1) = false := by rw [beq_eq_false_iff_ne]; omega
        have g2 : (x.op == 2) = false := by rw [beq_eq_false_iff_ne]; omega
        have g1' : (x.op != 1) = true := by rw [bne, g1]; rfl
        have g2' : (x.op != 2) = true := by rw [bne, g2]; rfl
        have HBN := Lib.hid hbn
        have HO1 := Lib.hid hown1
        clear hx hbn hown1 HYes HNo
        obtain ⟨op, ⟨vk, vn, vs⟩, nm⟩ := x
        simp only [cellsT'] at c0 c1 c2 c3 c4 HBN HO1 g1 g2 g1' g2'
        go_wp2
        go_roundg (g0 - 1)
        case measure => have := HK.out; omega
        case rel => exact ⟨j + 1, by have := HK.out; omega, by go_num, by rw [HT.out]; exact HO1.out, HBN.out⟩
    · have hlt : decide ((j : Int) < (l.length : Int)) = false := by simpa using hj
      have hlt2 : decide (j < l.length) = false := by simpa using hj
      have hj' : j = l.length := by have := HK.out; omega
      have HE := Lib.hid (show outN l j = namesE l by unfold outN; rw [hj', List.take_length])
      clear hj'
      go_wp2
      go_ret
      rw [← HE.out]
      exact ⟨_, _, rfl, HRow.out, HB.out⟩
end Go.Proofs.YtfpjepeikjfkpaaGreatDoor

/-
  Package expr: Same of any terms.
-/
namespace Go.Proofs.YtfpjepeikjfkpaaGreatDoor
open Go.RowKit

set_option maxRecDepth 100000 in
set_option maxHeartbeats 2000000 in
theorem equalT_any (l m : List TM) (A B : Option Addr) (c d : Nat) (w : World) (hl : l.length ≤ 1000000) (hm : m.length ≤ 1000000) (hr : RowT w 0 w.heap.size A l) (hrm : RowT w 0 w.heap.size B m) :
    Calls Tryz.prog 30 #[.slice A l.length c, .slice B m.length d] w fun r w' => r = .returned (.bool (sameT l m)) ∧ Below w.heap.size w w' := by
  by_cases hlen : l.length = m.length
  · have HR := Lib.hid hr
    have HRM := Lib.hid hrm
    rw [hlen]
    have HLen := Lib.hid hlen
    clear hr hrm hlen hl
    go_enter Tryz.func30, Tryz.ntmps30
    go_wp2
    go_loopg [13] m.length (fun q i wr => ∃ j : Nat, j + q = m.length ∧ i = .int .i64 j ∧ l.take j = m.take j ∧ Below w.heap.size w wr)
    case atStart => exact ⟨0, by omega, rfl, rfl, Below.refl _ _⟩
    case round =>
      obtain ⟨j, hk, rfl, hall, hb⟩ := hrel
      have HK := Lib.hid hk
      have HA := Lib.hid hall
      have HB := Lib.hid hb
      clear hall hb hk
      by_cases hjm : j < m.length
      · have hlt : decide ((j : Int) < (m.length : Int)) = true := by simpa using hjm
        have hlt3 : decide (j < m.length) = true := by simpa using hjm
        have hji : (j : Int) < (m.length : Int) := by omega
        have hj : j < l.length := by rw [HLen.out]; exact hjm
        obtain ⟨b, o, rfl, c0, c1, c2, c3, c4⟩ := (HR.out.below HB.out (Nat.le_refl _)).at_ hj
        obtain ⟨b', o', rfl, e0, e1, e2, e3, e4⟩ := (HRM.out.below HB.out (Nat.le_refl _)).at_ hjm
        have HT1 := Lib.hid (show l.take (j + 1) = l.take j ++ [l[j]] from by rw [List.take_succ_eq_append_getElem hj])
        have HT2 := Lib.hid (show m.take (j + 1) = m.take j ++ [m[j]] from by rw [List.take_succ_eq_append_getElem hjm])
        have HNe := Lib.hid (fun (h : l[j] ≠ m[j]) => (show sameT l m = false by
          unfold sameT
          rw [decide_eq_false_iff_not]
          intro e
          subst e
          exact h rfl))
        generalize l[j] = x at *
        generalize m[j] = y at *
        obtain ⟨op, ⟨k, n, s⟩, nm⟩ := x
        obtain ⟨op', ⟨k', n', s'⟩, nm'⟩ := y
        simp only at c0 c1 c2 c3 c4 e0 e1 e2 e3 e4
        have q := fun w => eq_inT op k n op' k' n' s nm s' nm' w
        by_cases hE : (⟨op, ⟨k, n, s⟩, nm⟩ : TM) = ⟨op', ⟨k', n', s'⟩, nm'⟩
        · have HE := Lib.hid hE
          have hq := eqT_iff.2 hE
          rw [hq] at q
          clear hq
          go_wp2
          go_region
          go_wp2
          go_roundg (gk - 1)
          case measure => have := HK.out; omega
          case rel => exact ⟨j + 1, by have := HK.out; omega, by go_num, by rw [HT1.out, HT2.out, HA.out, HE.out], HB.out.drew⟩
        · have HF := Lib.hid (HNe.out hE)
          have hq : eqT ⟨op, ⟨k, n, s⟩, nm⟩ ⟨op', ⟨k', n', s'⟩, nm'⟩ = false := by
            cases hz : eqT ⟨op, ⟨k, n, s⟩, nm⟩ ⟨op', ⟨k', n', s'⟩, nm'⟩
            · rfl
            · exact absurd (eqT_iff.1 hz) hE
          rw [hq] at q
          clear hq hE
          go_wp2
          go_region
          go_wp2
          go_ret
          rw [HF.out]
          exact ⟨rfl, HB.out.drew⟩
      · have hj' : j = m.length := by have := HK.out; omega
        have hlt : decide ((j : Int) < (m.length : Int)) = false := by simpa using hjm
        have HF := Lib.hid (show sameT l m = true by
          have h := HA.out
          rw [hj', List.take_length, ← HLen.out, List.take_length] at h
          unfold sameT
          rw [decide_eq_true_iff]
          exact h)
        clear hj'
        go_wp2
        go_ret
        rw [HF.out]
        exact ⟨rfl, HB.out⟩
  · have hle : ((l.length : Int) == (m.length : Int)) = false := by rw [beq_eq_false_iff_ne]; omega
    have hle2 : ((l.length : Int) != (m.length : Int)) = true := by rw [bne, hle]; rfl
    have e : sameT l m = false := by unfold sameT; rw [decide_eq_false_iff_not]; intro e; exact hlen (by rw [e])
    rw [e]
    clear e hlen hr hrm
    go_enter Tryz.func30, Tryz.ntmps30
    go_wp2
    go_ret
    exact ⟨rfl, Below.refl _ _⟩
theorem dSame_any (l m : List TM) (A B : Option Addr) (c d : Nat) (w : World) (hl : l.length ≤ 1000000) (hm : m.length ≤ 1000000) (hr : RowT w 0 w.heap.size A l) (hrm : RowT w 0 w.heap.size B m) :
    Calls Tryz.prog 15 #[.slice A l.length c, .slice B m.length d] w fun r w' => r = .returned (.bool (sameT l m)) ∧ Below w.heap.size w w' := by
  have H := Lib.hid (equalT_any l m A B c d w hl hm hr hrm)
  clear hr hrm
  go_enter Tryz.func15, Tryz.ntmps15
  go_wp2_with (go_at_call 30; refine H.out.mono ?_; rintro r w1 ⟨rfl, hb1⟩)
  go_ret
  exact ⟨rfl, hb1⟩
end Go.Proofs.YtfpjepeikjfkpaaGreatDoor

/-
  ExprChecks: what is wrong with any terms, which names they have, and whether two are the same.
-/
namespace Go.Proofs.YtfpjepeikjfkpaaGreatDoor
open Go.RowKit

namespace exprChecks
set_option maxRecDepth 100000 in
set_option maxHeartbeats 4000000 in
theorem walk (l : List TM) (A : Option Addr) (c : Nat) (hl : l.length ≤ maxLen) (hn : ∀ x ∈ l, TermIn x) (m : List TM) (B : Option Addr) (d : Nat) (hlm : m.length ≤ maxLen) (hnm : ∀ x ∈ m, TermIn x)
    (w : World) (hr : RowT w 0 w.heap.size A l) (hrm : RowT w 0 w.heap.size B m) (hG : GlobE w) :
    Calls Tryz.prog 3 #[.slice A l.length c, .slice B m.length d] w fun r w' => r = .returned (.bool true) ∧ Below w.heap.size w w' := by
  have hl' : l.length ≤ 9223372036854775807 := hl
  have hlm' : m.length ≤ 9223372036854775807 := hlm
  have HL := Lib.hid (fun wx (hb : Below w.heap.size w wx) => liveE_any wx (hG.below hb))
  have HB0 := Lib.hid (Below.refl w.heap.size w)
  have HG := Lib.hid (fun wx hb => hG.below (w' := wx) hb)
  have HR := Lib.hid (fun wx (hb : Below w.heap.size w wx) => ((hr.below hb (Nat.le_refl _)).wide (Nat.le_refl _) hb.size : RowT wx 0 wx.heap.size A l))
  have HRM := Lib.hid (fun wx (hb : Below w.heap.size w wx) => ((hrm.below hb (Nat.le_refl _)).wide (Nat.le_refl _) hb.size : RowT wx 0 wx.heap.size B m))
  have HF := Lib.hid (fun wx hb => fewT_any l A c 0 wx.heap.size wx hl' (fun x hx => ⟨(hn x hx).2, (hn x hx).1.2.2⟩) (HR.out wx hb) (Nat.le_refl _))
  have HFM := Lib.hid (fun wx hb => fewT_any m B d 0 wx.heap.size wx hlm' (fun x hx => ⟨(hnm x hx).2, (hnm x hx).1.2.2⟩) (HRM.out wx hb) (Nat.le_refl _))
  clear hl hlm hr hrm hG
  cases hf : fewT l
  · rw [hf] at HF
    clear hf hn hnm HFM
    go_enter Tryz.func3, Tryz.ntmps3
    go_wp2_with fail
    refine (HL.out _ HB0.out).mono ?_
    rintro r w1 ⟨rfl, hb1⟩
    have HB1 := Lib.hid (HB0.out.trans (hb1.mono HB0.out.size))
    clear hb1
    go_wp2_with fail
    refine (HF.out _ HB1.out).mono ?_
    rintro r w2 ⟨rfl, hb2⟩
    have HB2 := Lib.hid (HB1.out.trans (hb2.mono HB1.out.size))
    clear hb2
    go_wp2_with fail
    refine (HL.out _ HB2.out).mono ?_
    rintro r w3 ⟨rfl, hb3⟩
    have HB3 := Lib.hid (HB2.out.trans (hb3.mono HB2.out.size))
    clear hb3
    go_wp2_with fail
    go_ret
    exact ⟨rfl, HB3.out⟩
  · rw [hf] at HF
    obtain ⟨hs, h100⟩ := fewT_yes hf
    cases hf2 : fewT m
    · rw [hf2] at HFM
      clear hf hf2 hn hnm hs
      go_enter Tryz.func3, Tryz.ntmps3
      go_wp2_with fail
      refine (HL.out _ HB0.out).mono ?_
      rintro r w1 ⟨rfl, hb1⟩
      have HB1 := Lib.hid (HB0.out.trans (hb1.mono HB0.out.size))
      clear hb1
      go_wp2_with fail
      refine (HF.out _ HB1.out).mono ?_
      rintro r w2 ⟨rfl, hb2⟩
      have HB2 := Lib.hid (HB1.out.trans (hb2.mono HB1.out.size))
      clear hb2
      go_wp2_with fail
      refine (HFM.out _ HB2.out).mono ?_
      rintro r w3 ⟨rfl, hb3⟩
      have HB3 := Lib.hid (HB2.out.trans (hb3.mono HB2.out.size))
      clear hb3
      go_wp2_with fail
      refine (HL.out _ HB3.out).mono ?_
      rintro r w4 ⟨rfl, hb4⟩
      have HB4 := Lib.hid (HB3.out.trans (hb4.mono HB3.out.size))
      clear hb4
      go_wp2_with fail
      go_ret
      exact ⟨rfl, HB4.out⟩
    · rw [hf2] at HFM
      obtain ⟨hs2, h100m⟩ := fewT_yes hf2
      have hsm : ∀ x ∈ l, x.nm.size ≤ 100 ∧ -9223372036854775808 ≤ x.v.n ∧ x.v.n ≤ 9223372036854775807 := fun x hx => ⟨(hs x hx).1, (hn x hx).1.1, (hn x hx).1.2.1⟩
      have HCk := Lib.hid (fun wx hb => dCheck_any l A c (fun x hx => by have := (hsm x hx).1; omega) (by omega) wx (HR.out wx hb))
      have HQk := Lib.hid (fun wx hb => check_any refName5_any refPrint4_any l A c (fun x hx => (hsm x hx).1) (by omega) (small_any hsm) wx (HR.out wx hb))
      have HN := Lib.hid (fun wx hb => dNames_any l A c (by omega) wx (HR.out wx hb))
      have HM := Lib.hid (fun wx hb => refNames_any l A c (by omega) wx (HR.out wx hb))
      have HS := Lib.hid (fun wx hb => dSame_any l m A B c d wx (by omega) (by omega) (HR.out wx hb) (HRM.out wx hb))
      have HT := Lib.hid (fun wx hb => sameT_any l m A B c d wx (by omega) (by omega) (HR.out wx hb) (HRM.out wx hb))
      have hnl := names_len l
      have HW := Lib.hid (fun A1 A2 c1 c2 hi1 hi2 wx h1 h2 => same_same A1 A2 (namesE l).length (namesE l).length c1 c2 w.heap.size hi1 w.heap.size hi2 (asB (namesE l)) wx (asB_len _).symm (asB_len _).symm h1 h2 (by rw [asB_len]; omega))
      clear hf hf2 hn hnm hs hs2 hsm hl' hlm' hnl
      generalize checkL l = ck at *
      generalize namesE l = ns at *
      generalize sameT l m = sm at *
      go_enter Tryz.func3, Tryz.ntmps3
      go_wp2_with fail
      refine (HL.out _ HB0.out).mono ?_
      rintro r w1 ⟨rfl, hb1⟩
      have HB1 := Lib.hid (HB0.out.trans (hb1.mono HB0.out.size))
      clear hb1
      go_wp2_with fail
      refine (HF.out _ HB1.out).mono ?_
      rintro r w2 ⟨rfl, hb2⟩
      have HB2 := Lib.hid (HB1.out.trans (hb2.mono HB1.out.size))
      clear hb2
      go_wp2_with fail
      refine (HFM.out _ HB2.out).mono ?_
      rintro r w3 ⟨rfl, hb3⟩
      have HB3 := Lib.hid (HB2.out.trans (hb3.mono HB2.out.size))
      clear hb3
      go_wp2_with fail
      refine (HCk.out _ HB3.out).mono ?_
      rintro r w4 ⟨rfl, hb4⟩
      have HB4 := Lib.hid (HB3.out.trans (hb4.mono HB3.out.size))
      clear hb4
      go_wp2_with fail
      refine (HQk.out _ HB4.out).mono ?_
      rintro r w5 ⟨rfl, hb5⟩
      have HB5 := Lib.hid (HB4.out.trans (hb5.mono HB4.out.size))
      clear hb5
      go_wp2_with fail
      refine (HN.out _ HB5.out).mono ?_
      rintro r w6 ⟨A1, c1, rfl, hr1, hb6⟩
      have HB6 := Lib.hid (HB5.out.trans (hb6.mono HB5.out.size))
      have HR1 := Lib.hid (hr1.wide HB5.out.size (Nat.le_refl _))
      clear hb6
      go_wp2_with fail
      refine (HM.out _ HB6.out).mono ?_
      rintro r w7 ⟨A2, c2, rfl, hr2, hb7⟩
      have HB7 := Lib.hid (HB6.out.trans (hb7.mono HB6.out.size))
      have HX := Lib.hid (fun wx (_ : Below w.heap.size w wx) (e : wx = w7) => by subst e; exact HW.out A1 A2 c1 c2 _ _ _ (HR1.out.below hb7 (Nat.le_refl _)) (hr2.wide HB6.out.size (Nat.le_refl _)))
      clear hb7
      go_wp2_with fail
      refine (HX.out _ HB7.out rfl).mono ?_
      rintro r w8 ⟨rfl, hb8⟩
      have HB8 := Lib.hid (HB7.out.trans (hb8.mono HB7.out.size))
      clear hb8
      go_wp2_with fail
      refine (HS.out _ HB8.out).mono ?_
      rintro r w9 ⟨rfl, hb9⟩
      have HB9 := Lib.hid (HB8.out.trans (hb9.mono HB8.out.size))
      clear hb9
      go_wp2_with fail
      refine (HT.out _ HB9.out).mono ?_
      rintro r w10 ⟨rfl, hb10⟩
      have HB10 := Lib.hid (HB9.out.trans (hb10.mono HB9.out.size))
      clear hb10
      go_wp2_with fail
      go_ret
      exact ⟨by simp [go_sem], HB10.out⟩
end exprChecks
end Go.Proofs.YtfpjepeikjfkpaaGreatDoor
