import Derived.Shelf.Lay
import Derived.Shelf.LaySoft
import Derived.Shelf.LaysM
import Derived.Shelf.Strconv.Itoa3
import Derived.Shelf.Sort.Plain
import Derived.Shelf.Slices.Cells
import Derived.Test.YtidomoibhjgkjaaGreatDoorProg
import Derived.Test.YtidomoibhjgkjaaGreatDoorZC06
import Derived.Test.YtidomoibhjgkjaaGreatDoorZC15
import Derived.Test.YtidomoibhjgkjaaGreatDoorZC11
import Derived.Sort.OwnSorted
import Derived.Sort.EveryDepth
import Derived.Deep.LoopGhost
import Derived.RegionTactic
import Derived.Laws.Cover1
import Derived.Test.YtidomoibhjgkjaaGreatDoorZD00
import Derived.Test.YtidomoibhjgkjaaGreatDoorZC44
import Derived.Lib.LaidTab
/-
  Nothing off the shelf is wanted at this program.
-/
namespace Go.Proofs.YtidomoibhjgkjaaGreatDoor
end Go.Proofs.YtidomoibhjgkjaaGreatDoor

/-
  Package expr: Names of any terms.
-/
namespace Go.Proofs.YtidomoibhjgkjaaGreatDoor
open Go.RowKit

/-! ### sorted, and each once -/
def nmsB (l : List TM) : List ByteArray := (l.filter isNm).map (·.nm)
def cellsT' (x : TM) : List Value := [.int .i64 x.op, .int .i64 x.v.k, .int .i64 x.v.n, .string x.v.s, .string x.nm]
theorem nmsB_append (a b : List TM) : nmsB (a ++ b) = nmsB a ++ nmsB b := by simp [nmsB]
theorem nmsB_E (l : List TM) : (nmsB l).map Value.string = (nmsE l).map encStr := by
  unfold nmsB nmsE
  rw [List.map_map, List.map_map]
  apply List.map_congr_left
  intro t _
  rfl
theorem nmsB_len (l : List TM) : (nmsB l).length = (nmsE l).length := by simp [nmsB, nmsE]
/-- A list of texts as they lie in memory. -/
def asB (l : List (List UInt8)) : List ByteArray := l.map fun x => ⟨x.toArray⟩
theorem asB_E (l : List (List UInt8)) : (asB l).map Value.string = l.map encStr := by
  unfold asB
  rw [List.map_map]
  rfl
theorem RowS.front {w : World} {lo hi : Nat} {A : Option Addr} {a b : List ByteArray} (h : RowS w lo hi A (a ++ b)) : RowS w lo hi A a := fun hn => by
  obtain ⟨g, o, e, h1, h2, hc⟩ := h (by rw [List.length_append]; omega)
  refine ⟨g, o, e, h1, h2, fun j hj => ?_⟩
  have := hc j (by rw [List.length_append]; omega)
  rwa [List.getElem_append_left hj] at this
end Go.Proofs.YtidomoibhjgkjaaGreatDoor

/-
  Expressions, the document's own answers: the names of variables.
-/
namespace Go.Proofs.YtidomoibhjgkjaaGreatDoor
open Go.RowKit

/-- What is before a name, the name, and what is behind it. -/
def stepN (x : List UInt8) (out : List (List UInt8)) : List (List UInt8) := out.filter (fun s => blt s x) ++ x :: out.filter (fun s => blt x s)
theorem step_ins {x : List UInt8} {out : List (List UInt8)} (h : out.Pairwise (fun x y => blt x y = true)) : stepN x out = insName x out := by
  refine strict_eq ?_ (ins_strict x h) fun z => ?_
  · unfold stepN
    rw [List.pairwise_append]
    refine ⟨h.filter _, ?_, ?_⟩
    · rw [List.pairwise_cons]
      refine ⟨fun z hz => ?_, h.filter _⟩
      exact (List.mem_filter.1 hz).2
    · intro a ha b hb
      have h1 : blt a x = true := (List.mem_filter.1 ha).2
      rcases List.mem_cons.1 hb with rfl | hb
      · exact h1
      · exact blt_trans h1 (List.mem_filter.1 hb).2
  · unfold stepN
    rw [ins_mem, List.mem_append, List.mem_cons, List.mem_filter, List.mem_filter]
    constructor
    · rintro (h | h | h)
      · exact .inr h.1
      · exact .inl h
      · exact .inr h.1
    · rintro (h | h)
      · exact .inr (.inl h)
      · rcases blt_tri z x with g | g | g
        · exact .inl ⟨h, g⟩
        · exact .inr (.inl g)
        · exact .inr (.inr ⟨h, g⟩)
/-- The names of the first so many terms. -/
def outN (l : List TM) (j : Nat) : List (List UInt8) := namesE (l.take j)
theorem outN_strict (l : List TM) (j : Nat) : (outN l j).Pairwise (fun x y => blt x y = true) := by
  unfold outN namesE
  rw [names_fold]
  exact (fold_ins _ _ List.Pairwise.nil).1
theorem outN_len (l : List TM) (j : Nat) : (outN l j).length ≤ j := Nat.le_trans (names_len _) (by rw [List.length_take]; omega)
theorem outN_nm {l : List TM} {j : Nat} (hj : j < l.length) (hx : (l[j]'hj).op = 1 ∨ (l[j]'hj).op = 2) : outN l (j + 1) = stepN (l[j]'hj).nm.data.toList (outN l j) := by
  rw [step_ins (outN_strict l j)]
  unfold outN namesE
  rw [List.take_succ_eq_append_getElem hj, List.foldl_append, List.foldl_cons, List.foldl_nil, if_pos hx]
theorem outN_no {l : List TM} {j : Nat} (hj : j < l.length) (hx : ¬ ((l[j]'hj).op = 1 ∨ (l[j]'hj).op = 2)) : outN l (j + 1) = outN l j := by
  unfold outN namesE
  rw [List.take_succ_eq_append_getElem hj, List.foldl_append, List.foldl_cons, List.foldl_nil, if_neg hx]
theorem asB_append (a b : List (List UInt8)) : asB (a ++ b) = asB a ++ asB b := by simp [asB]
theorem asB_len (a : List (List UInt8)) : (asB a).length = a.length := by simp [asB]
theorem asB_at {a : List (List UInt8)} {k : Nat} (h : k < (asB a).length) : (asB a)[k] = ⟨(a[k]'(by rw [asB_len] at h; exact h)).toArray⟩ := by simp [asB]

set_option maxRecDepth 100000 in
set_option maxHeartbeats 8000000 in
theorem refNames_any (l : List TM) (A : Option Addr) (c : Nat) (hll : l.length ≤ 1000) (w : World) (hr : RowT w 0 w.heap.size A l) :
    Calls Tryz.prog 28 #[.slice A l.length c] w fun r w' => ∃ A' c', r = .returned (.slice A' (namesE l).length c') ∧ RowS w' w.heap.size w'.heap.size A' (asB (namesE l)) ∧ Below w.heap.size w w' := by
  have HR := Lib.hid hr
  obtain ⟨i0, hi0, hz0, hs0, hb0⟩ := infoStr
  have I0 := Lib.hid hi0
  have I1 := Lib.hid hz0
  have I2 := Lib.hid hs0
  have I3 := Lib.hid hb0
  clear hr hi0 hz0 hs0 hb0
  go_enter Tryz.func28, Tryz.ntmps28
  go_wp2
  go_loopg [3, 13] l.length (fun q v i wr => ∃ j : Nat, j + q = l.length ∧ i = .int .i64 (j : Int) ∧ wr.ownsRow w.heap.size 9 1 v (outN l j).length ((asB (outN l j)).map Value.string) ∧ Below w.heap.size w wr)
  case atStart => exact ⟨0, by omega, rfl, World.ownsRow_nil _ _ _ _, Below.refl _ _⟩
  case round =>
    obtain ⟨j, hk, rfl, hown, hb⟩ := hrel
    obtain ⟨wo, hwo⟩ : ∃ y, y = wr := ⟨_, rfl⟩
    subst hwo
    obtain ⟨g0, hg0⟩ : ∃ y, y = gk := ⟨_, rfl⟩
    subst hg0
    have HK := Lib.hid hk
    have HB := Lib.hid hb
    obtain ⟨A9, c9, rfl, h9, _, _, hrow⟩ := RowS.own hown
    clear h9
    have HO := Lib.hid hown
    have HRow := Lib.hid hrow
    have hLlen := outN_len l j
    clear hb hk hown hrow
    by_cases hj : j < l.length
    · have hlt : decide ((j : Int) < (l.length : Int)) = true := by simpa using hj
      have hlt2 : decide (j < l.length) = true := by simpa using hj
      obtain ⟨b, o, rfl, c0, c1, c2, c3, c4⟩ := (HR.out.below HB.out (Nat.le_refl _)).at_ hj
      have HYes := Lib.hid (fun hx => outN_nm hj hx)
      have HNo := Lib.hid (fun hx => outN_no hj hx)
      generalize l[j] = x at *
      have hbn := HB.out.alloc HB.out.size (.cells (cellsT' x).toArray 47)
      have hown1 := World.ownsRow.alloc HO.out (.cells (cellsT' x).toArray 47)
      by_cases hx : x.op = 1 ∨ x.op = 2
      · have HT := Lib.hid (HYes.out hx)
        have g1 : ((x.op == 1) = true ∧ (x.op != 1) = false) ∨ ((x.op == 1) = false ∧ (x.op != 1) = true ∧ (x.op == 2) = true ∧ (x.op != 2) = false) := by
          simp only [bne, beq_iff_eq, beq_eq_false_iff_ne, Bool.not_eq_false', Bool.not_eq_true']
          omega
        have HBN := Lib.hid hbn
        clear hx hbn hown1 HYes HNo
        generalize outN l j = L at *
        obtain ⟨op, ⟨vk, vn, vs⟩, nm⟩ := x
        simp only [cellsT'] at c0 c1 c2 c3 c4 HBN g1 HT
        have hbw : Below wo.heap.size wo (wo.alloc (.cells #[.int .i64 op, .int .i64 vk, .int .i64 vn, .string vs, .string nm] 47)) := (Below.refl _ _).alloc (Nat.le_refl _) _
        have HBw := Lib.hid hbw
        clear hbw
        rcases g1 with ⟨g1, g1'⟩ | ⟨g1, g1', g2, g2'⟩
        all_goals
          go_wp2
          obtain ⟨wt, hwt⟩ : ∃ y, wo.alloc (.cells #[.int .i64 op, .int .i64 vk, .int .i64 vn, .string vs, .string nm] 47) = y := ⟨_, rfl⟩
          have HBt := Lib.hid (show Below w.heap.size w wt by rw [← hwt]; exact HBN.out)
          have hRt : RowS wt 0 wt.heap.size A9 (asB L) := by rw [← hwt]; exact (HRow.out.below HBw.out (Nat.le_refl _)).wide (Nat.zero_le _) HBw.out.size
          have HRt := Lib.hid hRt
          have hnt : wt.cell? ⟨wo.heap.size, 2 + 2, none⟩ = some (.string nm) := by rw [← hwt]; simp [go_sem]
          have hot : wo.heap.size < wt.heap.size := by rw [← hwt]; simp
          have HNt := Lib.hid hnt
          rw [hwt]
          clear hRt hnt hwt
          go_loopg [6, 27] L.length (fun q nv i wr => ∃ k : Nat, k + q = L.length ∧ i = .int .i64 (k : Int) ∧ wr.ownsRow wt.heap.size 9 1 nv ((L.take k).filter fun s => blt s nm.data.toList).length ((asB ((L.take k).filter fun s => blt s nm.data.toList)).map Value.string) ∧ Below wt.heap.size wt wr)
          case atStart => exact ⟨0, by omega, rfl, World.ownsRow_nil _ _ _ _, Below.refl _ _⟩
          case round =>
            obtain ⟨k, hk, rfl, hown, hb⟩ := hrel
            have HK2 := Lib.hid hk
            have HW := Lib.hid hb
            have HN := Lib.hid hown
            have nmc := (hb.cell (p := ⟨wo.heap.size, 2 + 2, none⟩) hot).trans HNt.out
            clear hb hk hown
            by_cases hkl : k < L.length
            · have hlt3 : decide ((k : Int) < (L.length : Int)) = true := by simpa using hkl
              have hlt4 : decide (k < L.length) = true := by simpa using hkl
              obtain ⟨b9, o9, rfl, s9⟩ := (HRt.out.below HW.out (Nat.le_refl _)).at_ (k := k) (by rw [asB_len]; exact hkl)
              rw [asB_at] at s9
              obtain ⟨sB, hsB⟩ : ∃ sB : ByteArray, sB = ⟨(L[k]).toArray⟩ := ⟨_, rfl⟩
              have hsl : sB.data.toList = L[k] := by rw [hsB]
              rw [← hsB] at s9
              have HsB := Lib.hid hsB
              clear hsB
              have hf : (L.take (k + 1)).filter (fun s => blt s nm.data.toList) = (L.take k).filter (fun s => blt s nm.data.toList) ++ (if blt (L[k]) nm.data.toList = true then [L[k]] else []) := by
                rw [List.take_succ_eq_append_getElem hkl, List.filter_append]
                congr 1
                by_cases hh : blt (L[k]) nm.data.toList = true
                · rw [if_pos hh]; simp [hh]
                · rw [if_neg hh]; simp [hh]
              have hfl : ((L.take k).filter fun s => blt s nm.data.toList).length ≤ 1000 := by
                refine Nat.le_trans (List.length_filter_le ..) ?_
                rw [List.length_take]
                omega
              have HFl := Lib.hid hf
              clear hf
              cases hq : blt (L[k]) nm.data.toList
              · have HF2 := Lib.hid (show _ by have h := HFl.out; rw [hq, if_neg (by simp), List.append_nil] at h; exact h)
                have q1 : Op.bytesLess sB.toList nm.toList = false := by rw [ByteArray.toList_eq, ByteArray.toList_eq, hsl]; exact hq
                clear HFl hsl
                go_wp2
                go_roundg (gk - 1)
                case measure => have := HK2.out; omega
                case rel => exact ⟨k + 1, by have := HK2.out; omega, by go_num, by rw [HF2.out]; exact HN.out, HW.out⟩
              · have HF2 := Lib.hid (show _ by have h := HFl.out; rw [hq, if_pos rfl] at h; exact h)
                have q1 : Op.bytesLess sB.toList nm.toList = true := by rw [ByteArray.toList_eq, ByteArray.toList_eq, hsl]; exact hq
                clear HFl hsl
                go_wp2_with (at_builtin; refine append_strs _ rfl _ _ 32 rfl wt.heap.size 9 i0 _ Tryz.underlying32 I0.out I1.out I2.out I3.out rfl _ _ (asB ((L.take k).filter fun s => blt s nm.data.toList)) rfl (World.ownsRow.alloc HN.out _) _ _ _ 1 _ [sB] rfl rfl (by intro h; cases h) (RowS.one _ _ _) (by simp only [asB_len, List.length_append, List.length_cons, List.length_nil]; omega) (by have := HW.out.size; simp at this ⊢; omega) ?_; intro v1 w3 hown3 hgrow3; have hb3 : Below wt.heap.size wt w3 := (HW.out.alloc HW.out.size _).grown hgrow3 (by have := HW.out.size; simp at this ⊢; omega) (fun g hg => (HN.out.lt g hg).1); have HB3 := Lib.hid hb3; have HO3 := Lib.hid hown3; clear hgrow3 hb3 hown3)
                go_roundg (gk - 1)
                case measure => have := HK2.out; omega
                case rel => exact ⟨k + 1, by have := HK2.out; omega, by go_num, by rw [HF2.out, asB_append, List.length_append, show asB [L[k]] = [sB] from by rw [HsB.out]; rfl]; exact HO3.out, HB3.out⟩
            · have hlt3 : decide ((k : Int) < (L.length : Int)) = false := by simpa using hkl
              have hlt4 : decide (k < L.length) = false := by simpa using hkl
              have hkL : k = L.length := by have := HK2.out; omega
              have hN := HN.out
              rw [hkL, List.take_length] at hN
              have HN := Lib.hid hN
              have hfl : (L.filter fun s => blt s nm.data.toList).length ≤ 1000 := by
                refine Nat.le_trans (List.length_filter_le ..) ?_
                omega
              clear hkL hN
              go_wp2_with (at_builtin; refine append_strs _ rfl _ _ 32 rfl wt.heap.size 9 i0 _ Tryz.underlying32 I0.out I1.out I2.out I3.out rfl _ _ (asB (L.filter fun s => blt s nm.data.toList)) rfl (World.ownsRow.alloc HN.out _) _ _ _ 1 _ [nm] rfl rfl (by intro h; cases h) (RowS.one _ _ _) (by simp only [asB_len, List.length_append, List.length_cons, List.length_nil]; omega) (by have := HW.out.size; simp at this ⊢; omega) ?_; intro v1 w3 hown3 hgrow3; have hb3 : Below wt.heap.size wt w3 := (HW.out.alloc HW.out.size _).grown hgrow3 (by have := HW.out.size; simp at this ⊢; omega) (fun g hg => (HN.out.lt g hg).1); have HB3 := Lib.hid hb3; have HO3 := Lib.hid hown3; clear hgrow3 hb3 hown3)
              have nmc3 := (HB3.out.cell (p := ⟨wo.heap.size, 2 + 2, none⟩) hot).trans HNt.out
              obtain ⟨F, hF⟩ : ∃ F, F = (L.filter fun s => blt s nm.data.toList) ++ [nm.data.toList] := ⟨_, rfl⟩
              have hFl : F.length ≤ 1001 := by rw [hF, List.length_append, List.length_singleton]; omega
              have HO4 := Lib.hid (show w3.ownsRow wt.heap.size 9 1 v1 F.length ((asB F).map Value.string) from by
                have h := HO3.out
                rw [show asB (L.filter fun s => blt s nm.data.toList) ++ [nm] = asB F from by rw [hF, asB_append]; congr 1] at h
                rw [hF, List.length_append, List.length_singleton, ← hF]
                exact h)
              have HStep := Lib.hid (show stepN nm.data.toList L = F ++ L.filter (fun s => blt nm.data.toList s) from by rw [hF]; unfold stepN; rw [List.append_assoc]; rfl)
              clear HO3 hF hfl nmc
              go_wp2
              go_loopg [6, 47] L.length (fun q nv i wr => ∃ m : Nat, m + q = L.length ∧ i = .int .i64 (m : Int) ∧ wr.ownsRow wt.heap.size 9 1 nv (F ++ ((L.take m).filter fun s => blt nm.data.toList s)).length ((asB (F ++ ((L.take m).filter fun s => blt nm.data.toList s))).map Value.string) ∧ Below wt.heap.size wt wr)
              case atStart =>
                refine ⟨0, by omega, rfl, ?_, HB3.out⟩
                rw [List.take_zero, List.filter_nil, List.append_nil]
                exact HO4.out
              case round =>
                obtain ⟨m, hk, rfl, hown, hb⟩ := hrel
                have HK3 := Lib.hid hk
                have HV := Lib.hid hb
                have HM := Lib.hid hown
                have nmc := (hb.cell (p := ⟨wo.heap.size, 2 + 2, none⟩) hot).trans HNt.out
                clear hb hk hown nmc3
                by_cases hml : m < L.length
                · have hlt5 : decide ((m : Int) < (L.length : Int)) = true := by simpa using hml
                  have hlt6 : decide (m < L.length) = true := by simpa using hml
                  obtain ⟨b9, o9, rfl, s9⟩ := (HRt.out.below HV.out (Nat.le_refl _)).at_ (k := m) (by rw [asB_len]; exact hml)
                  rw [asB_at] at s9
                  obtain ⟨sB, hsB⟩ : ∃ sB : ByteArray, sB = ⟨(L[m]).toArray⟩ := ⟨_, rfl⟩
                  have hsl : sB.data.toList = L[m] := by rw [hsB]
                  rw [← hsB] at s9
                  have HsB := Lib.hid hsB
                  clear hsB
                  have hf : (L.take (m + 1)).filter (fun s => blt nm.data.toList s) = ((L.take m).filter fun s => blt nm.data.toList s) ++ (if blt nm.data.toList (L[m]) = true then [L[m]] else []) := by
                    rw [List.take_succ_eq_append_getElem hml, List.filter_append]
                    congr 1
                    by_cases hh : blt nm.data.toList (L[m]) = true
                    · rw [if_pos hh]; simp [hh]
                    · rw [if_neg hh]; simp [hh]
                  have hfl : ((L.take m).filter fun s => blt nm.data.toList s).length ≤ 1000 := by
                    refine Nat.le_trans (List.length_filter_le ..) ?_
                    rw [List.length_take]
                    omega
                  have HFl := Lib.hid hf
                  clear hf
                  cases hq : blt nm.data.toList (L[m])
                  · have HF2 := Lib.hid (show _ by have h := HFl.out; rw [hq, if_neg (by simp), List.append_nil] at h; exact h)
                    have q0 : (Op.bytesLess sB.toList nm.toList || sB.toList == nm.toList) = true := by
                      rw [ByteArray.toList_eq, ByteArray.toList_eq, hsl]
                      rcases blt_tri L[m] nm.data.toList with g | g | g
                      · have g : Op.bytesLess L[m] nm.data.toList = true := g
                        rw [g]; rfl
                      · rw [g]; simp
                      · rw [hq] at g; cases g
                    have q1 : (Op.bytesLess sB.toList nm.toList = true) ∨ (Op.bytesLess sB.toList nm.toList = false ∧ (sB.toList == nm.toList) = true) := by
                      cases hz : Op.bytesLess sB.toList nm.toList
                      · rw [hz, Bool.false_or] at q0; exact .inr ⟨rfl, q0⟩
                      · exact .inl rfl
                    clear HFl hsl q0
                    rcases q1 with q1 | ⟨q1, q2⟩
                    · go_wp2
                      go_roundg (gk - 1)
                      case measure => have := HK3.out; omega
                      case rel => exact ⟨m + 1, by have := HK3.out; omega, by go_num, by rw [HF2.out]; exact HM.out, HV.out⟩
                    · have q3 : sB.toList = nm.toList := by simpa using q2
                      go_wp2
                      go_roundg (gk - 1)
                      case measure => have := HK3.out; omega
                      case rel => exact ⟨m + 1, by have := HK3.out; omega, by go_num, by rw [HF2.out]; exact HM.out, HV.out⟩
                  · have HF2 := Lib.hid (show _ by have h := HFl.out; rw [hq, if_pos rfl] at h; exact h)
                    have q1 : Op.bytesLess sB.toList nm.toList = false := by rw [ByteArray.toList_eq, ByteArray.toList_eq, hsl]; exact blt_asymm hq
                    have q2 : (sB.toList == nm.toList) = false := by
                      rw [ByteArray.toList_eq, ByteArray.toList_eq, hsl, beq_eq_false_iff_ne]
                      intro e
                      rw [e, blt_self] at hq
                      cases hq
                    have q3 : ¬ sB.toList = nm.toList := by simpa using q2
                    clear HFl hsl
                    go_wp2_with (at_builtin; refine append_strs _ rfl _ _ 32 rfl wt.heap.size 9 i0 _ Tryz.underlying32 I0.out I1.out I2.out I3.out rfl _ _ (asB (F ++ ((L.take m).filter fun s => blt nm.data.toList s))) rfl (World.ownsRow.alloc HM.out _) _ _ _ 1 _ [sB] rfl rfl (by intro h; cases h) (RowS.one _ _ _) (by simp only [asB_len, List.length_append, List.length_cons, List.length_nil]; omega) (by have := HV.out.size; simp at this ⊢; omega) ?_; intro v1 w3 hown3 hgrow3; have hb3 : Below wt.heap.size wt w3 := (HV.out.alloc HV.out.size _).grown hgrow3 (by have := HV.out.size; simp at this ⊢; omega) (fun g hg => (HM.out.lt g hg).1); have HB3 := Lib.hid hb3; have HO3 := Lib.hid hown3; clear hgrow3 hb3 hown3)
                    go_roundg (gk - 1)
                    case measure => have := HK3.out; omega
                    case rel => exact ⟨m + 1, by have := HK3.out; omega, by go_num, by rw [HF2.out, ← List.append_assoc, asB_append, List.length_append, show asB [L[m]] = [sB] from by rw [HsB.out]; rfl]; exact HO3.out, HB3.out⟩
                · have hlt5 : decide ((m : Int) < (L.length : Int)) = false := by simpa using hml
                  have hlt6 : decide (m < L.length) = false := by simpa using hml
                  have hmL : m = L.length := by have := HK3.out; omega
                  have hM := HM.out
                  rw [hmL, List.take_length, ← HStep.out] at hM
                  have HM2 := Lib.hid hM
                  clear hM hmL
                  go_wp2
                  go_roundg (g0 - 1)
                  case measure => have := HK.out; omega
                  case rel => exact ⟨j + 1, by have := HK.out; omega, by go_num, by rw [HT.out]; exact ownF_below HM2.out (fun _ _ _ => rfl) HBt.out.size, HBt.out.trans (HV.out.mono HBt.out.size)⟩
      · have HT := Lib.hid (HNo.out hx)
        have g1 : (x.op == 1) = false := by rw [beq_eq_false_iff_ne]; omega
        have g2 : (x.op == 2) = false := by rw [beq_eq_false_iff_ne]; omega
        have g1' : (x.op != 1) = true := by rw [bne, g1]; rfl
        have g2' : (x.op != 2) = true := by rw [bne, g2]; rfl
        have HBN := Lib.hid hbn
        have HO1 := Lib.hid hown1
        clear hx hbn hown1 HYes HNo
        obtain ⟨op, ⟨vk, vn, vs⟩, nm⟩ := x
        simp only [cellsT'] at c0 c1 c2 c3 c4 HBN HO1 g1 g2 g1' g2'
        go_wp2
        go_roundg (g0 - 1)
        case measure => have := HK.out; omega
        case rel => exact ⟨j + 1, by have := HK.out; omega, by go_num, by rw [HT.out]; exact HO1.out, HBN.out⟩
    · have hlt : decide ((j : Int) < (l.length : Int)) = false := by simpa using hj
      have hlt2 : decide (j < l.length) = false := by simpa using hj
      have hj' : j = l.length := by have := HK.out; omega
      have HE := Lib.hid (show outN l j = namesE l by unfold outN; rw [hj', List.take_length])
      clear hj'
      go_wp2
      go_ret
      rw [← HE.out]
      exact ⟨_, _, rfl, HRow.out, HB.out⟩
end Go.Proofs.YtidomoibhjgkjaaGreatDoor

/-
  EvalOther: variables that an expression does not name make no difference.
-/
namespace Go.Proofs.YtidomoibhjgkjaaGreatDoor
open Go.RowKit

theorem ba_inj {a b : ByteArray} (h : a.data.toList = b.data.toList) : a = b := ByteArray.ext (Array.ext' h)
theorem asB_mem (l : List (List UInt8)) (x : ByteArray) : x ∈ asB l ↔ x.data.toList ∈ l := by
  unfold asB
  simp only [List.mem_map]
  constructor
  · rintro ⟨y, hy, rfl⟩
    exact hy
  · intro h
    exact ⟨_, h, by cases x; rfl⟩
theorem other_set {vs : List VN} {x : VN} {l : List TM} (h : x.1 ∉ asB (namesE l)) (f : Nat) : ofG (getL (setL vs x)) l f = ofG (getL vs) l f := by
  refine other_of (fun t ht hop => ?_) f
  refine get_set_other vs x (fun e => h ?_)
  rw [asB_mem, names_mem]
  exact ⟨t, ht, hop, by rw [e]⟩
theorem VarsOk.set {w w' : World} {vs : List VN} {A B : Option Addr} {c d : Nat} {x : VN} (h : VarsOk w vs A c) (hl : vs.length ≤ 40) (hx : x.1.size ≤ 100 ∧ x.2.s.size ≤ 200) (hn : inI x.2.n) (hc : (setL vs x).length ≤ d) (hd : d ≤ maxLen) (h0 : B = none → d = 0) (hr : RowN w' 0 w'.heap.size B (setL vs x)) : VarsOk w' (setL vs x) B d where
  short := ⟨by have := set_len vs x; omega, fun y hy => by
    rcases mem_set hy with rfl | hy
    · exact hx
    · exact h.short.2 y hy⟩
  ok := fun y hy => by
    rcases mem_set hy with rfl | hy
    · exact ⟨hn, by have := hx.2; omega⟩
    · exact h.ok y hy
  cap := hc
  max := hd
  nil := h0
  row := hr

namespace evalOther
set_option maxRecDepth 100000 in
set_option maxHeartbeats 8000000 in
theorem walkG (l : List TM) (A : Option Addr) (c : Nat) (hl : l.length ≤ maxLen) (hn : ∀ x ∈ l, TermIn x) (vs : List VN) (A2 : Option Addr) (c2 : Nat) (hl2 : vs.length ≤ maxLen) (hn2 : ∀ x ∈ vs, VarIn x) (hc2 : vs.length ≤ c2) (hm2 : c2 ≤ maxLen) (hz2 : A2 = none → c2 = 0)
    (x : VN) (hx : VarIn x) (w : World) (hr : RowT w 0 w.heap.size A l) (hr2 : RowN w 0 w.heap.size A2 vs) (hG : Glob w) :
    Calls Tryz.prog 8 #[.slice A l.length c, .slice A2 vs.length c2, .agg #[.string x.1, .int .i64 x.2.k, .int .i64 x.2.n, .string x.2.s]] w fun r w' => r = .returned (.bool true) ∧ Below w.heap.size w w' := by
  have hM : maxLen = 9223372036854775807 := by unfold maxLen; rfl
  obtain ⟨xn, ⟨xk, xm, xs⟩⟩ := x
  dsimp only
  have HLv := Lib.hid (fun W (hb : Below w.heap.size w W) => live6_any W (hG.wg.below hb hG.big))
  have HF1 := Lib.hid (fun W (hb : Below w.heap.size w W) => few6_any l A c vs A2 c2 W (by rw [← hM]; exact hl) (fun x hx => by rw [← hM]; exact ⟨(hn x hx).2, (hn x hx).1.2.2⟩) ((hr.below hb (Nat.le_refl _)).wide (Nat.le_refl _) hb.size) (by rw [← hM]; exact hl2) (fun x hx => by rw [← hM]; exact ⟨(hn2 x hx).1, (hn2 x hx).2.2.2⟩) ((hr2.below hb (Nat.le_refl _)).wide (Nat.le_refl _) hb.size))
  have HF2 : Hid (∀ W : World, Calls Tryz.prog 10 #[.slice none 0 0, .slice (some ⟨W.heap.size, 0, none⟩) 1 1] (W.alloc (.cells #[.string xn, .int .i64 xk, .int .i64 xm, .string xs] 67)) fun r w' => r = .returned (.bool (few6 [] [(xn, ⟨xk, xm, xs⟩)])) ∧ Below W.heap.size W w') := Lib.hid (fun W => by
    have hb := box_below W #[.string xn, .int .i64 xk, .int .i64 xm, .string xs] 67
    have hrow : RowN (W.alloc (.cells #[.string xn, .int .i64 xk, .int .i64 xm, .string xs] 67)) 0 (W.alloc (.cells #[.string xn, .int .i64 xk, .int .i64 xm, .string xs] 67)).heap.size (some ⟨W.heap.size, 0, none⟩) [(xn, ⟨xk, xm, xs⟩)] := by
      have h := RowN.one W xn xk xm xs
      rwa [show (W.alloc (.cells #[.string xn, .int .i64 xk, .int .i64 xm, .string xs] 67)).heap.size = W.heap.size + 1 from by simp]
    have h := few6_any [] none 0 [(xn, ⟨xk, xm, xs⟩)] (some ⟨W.heap.size, 0, none⟩) 1 (W.alloc (.cells #[.string xn, .int .i64 xk, .int .i64 xm, .string xs] 67)) (by simp) (by simp) (fun h => absurd h (by simp)) (by show 1 ≤ 9223372036854775807; omega) (fun y hy => by rw [List.mem_singleton.1 hy, ← hM]; exact ⟨hx.1, hx.2.2.2⟩) hrow
    refine h.mono ?_
    rintro r w' ⟨rfl, h2⟩
    exact ⟨rfl, hb.trans (h2.mono hb.size)⟩)
  obtain ⟨f1, hf1⟩ : ∃ f, few6 l vs = f := ⟨_, rfl⟩
  obtain ⟨f2, hf2⟩ : ∃ f, few6 [] [(xn, ⟨xk, xm, xs⟩)] = f := ⟨_, rfl⟩
  rw [hf1] at HF1
  rw [hf2] at HF2
  have HT := Lib.hid (fun (e1 : f1 = true) (e2 : f2 = true) => (⟨few_terms (by rw [hf1]; exact e1) hn hr, few_vars (by rw [hf1]; exact e1) hn2 hc2 hm2 hz2 hr2, (few6_yes (by rw [hf1]; exact e1)).2.2.1, (few6_yes (by rw [hf1]; exact e1)).2.2.2, (few6_yes (by rw [hf2]; exact e2)).2.1 _ (List.mem_singleton.2 rfl)⟩ : TermsOk w l A ∧ VarsOk w vs A2 c2 ∧ l.length ≤ 100 ∧ vs.length ≤ 40 ∧ (xn.size ≤ 100 ∧ xs.size ≤ 200)))
  have HIN := Lib.hid (show inI xm from ⟨hx.2.1, hx.2.2.1⟩)
  have HG := Lib.hid hG
  have hx1 := heap_alloc_new w (.cells #[.string xn, .int .i64 xk, .int .i64 xm, .string xs] 67)
  have hb1 := box_below w #[.string xn, .int .i64 xk, .int .i64 xm, .string xs] 67
  have hl1 : w.heap.size < (w.alloc (.cells #[.string xn, .int .i64 xk, .int .i64 xm, .string xs] 67)).heap.size := by simp
  obtain ⟨w1, hw⟩ : ∃ y, w.alloc (.cells #[.string xn, .int .i64 xk, .int .i64 xm, .string xs] 67) = y := ⟨_, rfl⟩
  obtain ⟨sx, hsx⟩ : ∃ y, w.heap.size = y := ⟨_, rfl⟩
  rw [hw] at hx1 hb1 hl1
  rw [hsx] at hx1 hl1
  have HX1 : Hid (∀ W, Below w1.heap.size w1 W → W.cell? ⟨sx, 0, none⟩ = some (.string xn) ∧ W.cell? ⟨sx, 1, none⟩ = some (.int .i64 xk) ∧ W.cell? ⟨sx, 2, none⟩ = some (.int .i64 xm) ∧ W.cell? ⟨sx, 3, none⟩ = some (.string xs)) := Lib.hid (fun W hb => by
    have h := (hb.block _ hl1).trans hx1
    exact ⟨cell_of_row W sx 0 _ _ _ h, cell_of_row W sx 1 _ _ _ h, cell_of_row W sx 2 _ _ _ h, cell_of_row W sx 3 _ _ _ h⟩)
  have HB1 := Lib.hid hb1
  have HW := Lib.hid hw
  have HSX := Lib.hid hsx
  clear hl hn hl2 hn2 hc2 hm2 hz2 hx hr hr2 hG hf1 hf2 hM hx1 hb1 hl1 hw hsx
  go_enter Tryz.func8, Tryz.ntmps8
  go_upto_region 1 with fail
  rw [HW.out, HSX.out]
  clear HW
  go_wp2_with fail
  refine (HLv.out _ HB1.out).mono ?_
  rintro r w2 ⟨rfl, hb2⟩
  have HB2 := Lib.hid (HB1.out.trans (hb2.mono HB1.out.size))
  have HBx2 := Lib.hid hb2
  clear hb2
  dsimp only
  go_wp2_with fail
  refine (HF1.out _ HB2.out).mono ?_
  rintro r w3 ⟨rfl, hb3⟩
  have HB3 := Lib.hid (HB2.out.trans (hb3.mono HB2.out.size))
  have HBx3 := Lib.hid (HBx2.out.trans (hb3.mono HBx2.out.size))
  clear hb3 HB2 HBx2
  dsimp only
  cases f1
  · go_wp2_with fail
    refine (HLv.out _ HB3.out).mono ?_
    rintro r w9 ⟨rfl, hb9⟩
    have HB9 := Lib.hid (HB3.out.trans (hb9.mono HB3.out.size))
    clear hb9
    dsimp only
    go_wp2
    go_ret
    exact ⟨rfl, HB9.out⟩
  obtain ⟨x0, x1, x2, x3⟩ := HX1.out _ HBx3.out
  go_wp2_with fail
  refine (HF2.out _).mono ?_
  rintro r w4 ⟨rfl, hb4⟩
  have HB4 := Lib.hid (HB3.out.trans (hb4.mono HB3.out.size))
  have HBx4 := Lib.hid (HBx3.out.trans (hb4.mono HBx3.out.size))
  clear hb4 HB3 HBx3 x0 x1 x2 x3
  dsimp only
  cases f2
  · go_wp2_with fail
    refine (HLv.out _ HB4.out).mono ?_
    rintro r w9 ⟨rfl, hb9⟩
    have HB9 := Lib.hid (HB4.out.trans (hb9.mono HB4.out.size))
    clear hb9
    dsimp only
    go_wp2
    go_ret
    exact ⟨rfl, HB9.out⟩
  have ht := HT.out (by simp) (by simp)
  have HTA := Lib.hid ht.1
  have HTV := Lib.hid ht.2.1
  have hla := ht.2.2.1
  have HL40 := Lib.hid ht.2.2.2.1
  have HXS := Lib.hid ht.2.2.2.2
  clear ht HT HLv HF1 HF2
  have HNm := Lib.hid (refNames_any l A c (by omega) w4 (HTA.out.below HB4.out).row)
  go_wp2_with fail
  refine HNm.out.mono ?_
  rintro r w5 ⟨A5, c5, rfl, hrow5, hb5⟩
  dsimp only
  have HB5 := Lib.hid (HB4.out.trans (hb5.mono HB4.out.size))
  have HBx5 := Lib.hid (HBx4.out.trans (hb5.mono HBx4.out.size))
  have HR5 := Lib.hid (show RowS w5 0 w5.heap.size A5 (asB (namesE l)) from hrow5.wide (Nat.zero_le _) (Nat.le_refl _))
  obtain ⟨N, hN⟩ : ∃ N, (namesE l).length = N := ⟨_, rfl⟩
  have HNL := Lib.hid (show (asB (namesE l)).length = N by rw [asB_len]; exact hN)
  have hnb := names_len l
  rw [hN] at hnb ⊢
  obtain ⟨NS, hNS⟩ : ∃ NS, asB (namesE l) = NS := ⟨_, rfl⟩
  rw [hNS] at HR5 HNL
  have HNS := Lib.hid hNS
  obtain ⟨x0, x1, x2, x3⟩ := HX1.out _ HBx5.out
  clear hrow5 hb5 HB4 HBx4 HNm hNS hN
  go_wp2_with fail
  go_loopg [8, 33] N (fun q _ i wr => ∃ j : Nat, j + q = N ∧ i = .int .i64 j ∧ (∀ y ∈ NS.take j, y ≠ xn) ∧ wr = w5)
  case atStart => exact ⟨0, by omega, rfl, by simp, rfl⟩
  case round =>
    obtain ⟨j, hk, rfl, hno, rfl⟩ := hrel
    have HK := Lib.hid hk
    have HNO := Lib.hid hno
    clear hk hno
    by_cases hj : j < N
    · have hlt : decide ((j : Int) < (N : Int)) = true := by simpa using hj
      have hlt2 : decide (j < N) = true := by simpa using hj
      have hjn : j < NS.length := by rw [HNL.out]; exact hj
      obtain ⟨b, o, rfl, c0⟩ := HR5.out.at_ (k := j) hjn
      have HTK := Lib.hid (List.take_succ_eq_append_getElem hjn)
      generalize NS[j] = y at *
      by_cases he : y = xn
      · subst he
        clear hjn
        go_wp2
        go_ret
        exact ⟨rfl, HB5.out⟩
      · have e1 : (y.toList == xn.toList) = false := by
          rw [beq_eq_false_iff_ne, ByteArray.toList_eq, ByteArray.toList_eq]
          exact fun e => he (ba_inj e)
        have HNO2 := Lib.hid (show ∀ z ∈ NS.take (j + 1), z ≠ xn from fun z hz => by
          rw [HTK.out] at hz
          rcases List.mem_append.1 hz with hz | hz
          · exact HNO.out z hz
          · rw [List.mem_singleton.1 hz]; exact he)
        clear he hjn
        go_wp2
        go_roundg (gk - 1)
        case measure => have := HK.out; omega
        case rel => exact ⟨j + 1, by have := HK.out; omega, by go_num, HNO2.out, rfl⟩
    · have hj' : j = N := by have := HK.out; omega
      have hlt : decide ((j : Int) < (N : Int)) = false := by simpa using hj
      have hnot : xn ∉ asB (namesE l) := fun h => by
        rw [HNS.out] at h
        refine HNO.out xn ?_ rfl
        rw [hj', ← HNL.out, List.take_length]
        exact h
      have hof := other_set (vs := vs) (x := (xn, ⟨xk, xm, xs⟩)) hnot l.length
      obtain ⟨X, hX⟩ : ∃ X, ofG (getL vs) l l.length = X := ⟨_, rfl⟩
      rw [hX] at hof
      have hbnd := ofG_bnd (getL vs) l l.length
      rw [hX] at hbnd
      obtain ⟨⟨vk, vn, vt⟩, n1, ec, ps⟩ := X
      simp only at hbnd
      have hps : ps = [] ∨ ∃ nm : ByteArray, nm.size ≤ 100 ∧ ps = [nm] := by
        rcases hbnd.2.2 with h | ⟨t, ht, h⟩
        · exact .inl h
        · exact .inr ⟨t.nm, (HTA.out.ok t ht).1, h⟩
      have HO1 := Lib.hid (gOfG l A c vs A2 c2 (l.length : Int) wr (HTA.out.below HB5.out) (HTV.out.below HB5.out) (by omega) (by omega) (HG.out.wg.below HB5.out HG.out.big) (by omega) hX)
      have HO2 := Lib.hid (fun (B : Option Addr) (d : Nat) (W : World) (hW : Below w.heap.size w W) (h1 : VarsOk W (setL vs (xn, ⟨xk, xm, xs⟩)) B d) => gOfG l A c (setL vs (xn, ⟨xk, xm, xs⟩)) B d (l.length : Int) W (HTA.out.below hW) h1 (by omega) (by omega) (HG.out.wg.below hW HG.out.big) (by omega) hof)
      have HSt := Lib.hid (fun W (hW : Below w.heap.size w W) => refSet_any vs A2 c2 (xn, ⟨xk, xm, xs⟩) W (by have := HL40.out; omega) (HTV.out.below hW).row)
      have HPS := Lib.hid hps
      have HC0 := Lib.hid hbnd.1
      have HC9 := Lib.hid hbnd.2.1
      have q : ∀ w, (Op.equalIn 10000 27 (.agg #[.int .i64 vk, .int .i64 vn, .string vt]) (.agg #[.int .i64 vk, .int .i64 vn, .string vt])).run Tryz.prog w = .ok true w := fun w => by rw [eq_in, eqV_self]
      clear hj' hnot hof hX hbnd hps HNO HK x0 x1 x2 x3 hnb
      go_wp2_with fail
      refine HO1.out.mono ?_
      rintro r w7 ⟨u1, rfl, hb7, hu1⟩
      dsimp only
      have hb8 := box_below w7 #[.int .i64 vk, .int .i64 vn, .string vt] 27
      have hx8 := Boxed.new w7 vk vn vt
      have hbb := hb7.trans (hb8.mono hb7.size)
      have hB8 := HB5.out.trans (hbb.mono HB5.out.size)
      have hBx8 := HBx5.out.trans (hbb.mono HBx5.out.size)
      have hu8 := hu1.below hb8
      obtain ⟨w8, hw⟩ : ∃ y, w7.alloc (.cells #[.int .i64 vk, .int .i64 vn, .string vt] 27) = y := ⟨_, rfl⟩
      obtain ⟨s1, hs⟩ : ∃ y, w7.heap.size = y := ⟨_, rfl⟩
      rw [hw] at hx8 hB8 hBx8 hu8
      rw [hs] at hx8
      have HXa := Lib.hid hx8
      have HB8 := Lib.hid hB8
      have HU8 := Lib.hid hu8
      have HW := Lib.hid hw
      have HS1 := Lib.hid hs
      obtain ⟨x0, x1, x2, x3⟩ := HX1.out _ hBx8
      clear hb7 hb8 hx8 hbb hB8 hBx8 hu8 hu1 hw hs HO1 HB5 HBx5
      go_upto_region 10 with fail
      rw [HW.out, HS1.out]
      clear HW HS1
      go_wp2_with fail
      refine (HSt.out _ HB8.out).mono ?_
      rintro r w9 ⟨B, d, rfl, hd1, hd2, hd3, hrow9, hb9⟩
      dsimp only
      have hB9 := HB8.out.trans (hb9.mono HB8.out.size)
      have hV9 : VarsOk w9 (setL vs (xn, ⟨xk, xm, xs⟩)) B d := HTV.out.set HL40.out HXS.out HIN.out hd1 hd2 hd3 hrow9
      have HO3 := Lib.hid (HO2.out B d w9 hB9 hV9)
      obtain ⟨ML, hML⟩ : ∃ m, (setL vs (xn, ⟨xk, xm, xs⟩)).length = m := ⟨_, rfl⟩
      rw [hML] at HO3 ⊢
      have HB9 := Lib.hid hB9
      have HXb := Lib.hid (HXa.out.below hb9)
      have HU9 := Lib.hid (HU8.out.below hb9)
      clear hd1 hd2 hd3 hrow9 hb9 hB9 hV9 hML HO2 HSt HB8 HXa HU8 x0 x1 x2 x3
      go_wp2_with fail
      refine HO3.out.mono ?_
      rintro r w10 ⟨u2, rfl, hb10, hu2⟩
      dsimp only
      have hb11 := box_below w10 #[.int .i64 vk, .int .i64 vn, .string vt] 27
      have hx11 := Boxed.new w10 vk vn vt
      have hbb := hb10.trans (hb11.mono hb10.size)
      have hB11 := HB9.out.trans (hbb.mono HB9.out.size)
      have hu11 := hu2.below hb11
      have hv11 := HU9.out.below hbb
      have hxb := HXb.out.below hbb
      obtain ⟨w11, hw⟩ : ∃ y, w10.alloc (.cells #[.int .i64 vk, .int .i64 vn, .string vt] 27) = y := ⟨_, rfl⟩
      obtain ⟨s2, hs⟩ : ∃ y, w10.heap.size = y := ⟨_, rfl⟩
      rw [hw] at hx11 hB11 hu11 hv11 hxb
      rw [hs] at hx11
      have HG11 := Lib.hid (HG.out.below hB11 HG.out.big)
      have HT1 := Lib.hid (textE_from hv11 HG11.out HC0.out HC9.out HPS.out)
      have HT2 := Lib.hid (textE_from hu11 HG11.out HC0.out HC9.out HPS.out)
      obtain ⟨y0, y1, y2⟩ := hx11.cells
      obtain ⟨z0, z1, z2⟩ := hxb.cells
      simp only at y0 y1 y2 z0 z1 z2
      have HB11 := Lib.hid hB11
      have HW := Lib.hid hw
      have HS1 := Lib.hid hs
      generalize (textO (erOf ec ps)).toArray = TX at *
      clear hb10 hb11 hx11 hbb hB11 hu11 hv11 hxb hu2 hw hs HO3 HB9 HXb HU9
      go_upto_region 11 with fail
      rw [HW.out, HS1.out]
      clear HW HS1
      go_wp2_with fail
      refine (HT1.out _ (Below.refl _ _)).mono ?_
      rintro r w12 ⟨rfl, hb12⟩
      have H12 := Lib.hid hb12
      clear hb12
      dsimp only
      go_wp2_with fail
      refine (HT2.out _ H12.out).mono ?_
      rintro r w13 ⟨rfl, hb13⟩
      have HB13 := Lib.hid (HB11.out.trans (hb13.mono HB11.out.size))
      clear hb13
      dsimp only
      go_wp2
      go_ret
      exact ⟨by simp, HB13.out⟩
end evalOther
end Go.Proofs.YtidomoibhjgkjaaGreatDoor

/-
  What the row's condition on the package-level variables gives where numbers are printed, too; and a world that meets it.
-/
namespace Go.Proofs.YtidomoibhjgkjaaGreatDoor
open Go.RowKit

/-- The door's own heap meets the condition. -/
theorem door_metO (os : Os) (args : Array Value) : laidMetH Tryz.prog Rows.evalOtherRow.laid ((World.doorLaid Tryz.prog 200 os).forCall (fun _ _ => 0) ⟨#[], args, []⟩).memory :=
  laidMetH_of_parts3 (fuel := 8) (laidMet_of_run' 8 (by kernel_rfl) (by kernel_rfl)) (by kernel_rfl) (by kernel_rfl)

theorem globO_of_laid {W : World} (h : laidMetH Tryz.prog Rows.evalOtherRow.laid W) (hbig : 5 ≤ W.heap.size) : Glob W := by
  have h' : laidMet Tryz.prog [(_, Rows.laid_math_bits_deBruijn32tab), (_, Rows.laid_math_bits_deBruijn64tab), (_, Rows.laid_internal_strconv_uint64pow10)] W ∧ handlesMet Tryz.prog [(_, Rows.laid_errors_errorType)] W := h
  obtain ⟨⟨ps, ⟨g0, t0, cs0, f0, p0, q0, hg0, ht0, hv0, hd0, ⟨g1, t1, cs1, f1, p1, q1, hg1, ht1, hv1, hd1, ⟨g2, t2, cs2, f2, p2, q2, hg2, ht2, hv2, hd2, _, _⟩, _⟩, _⟩, _⟩, hh⟩ := h'
  obtain ⟨name, u, ty, e1, e2, e3, e4, e5⟩ := hh _ (List.mem_singleton.2 rfl)
  have en : name = [101, 114, 114, 111, 114] := (Option.some.inj e1).symm
  subst en
  obtain rfl : u = 156 := Option.some.inj (e2.symm.trans (by kernel_rfl))
  have hm : ty ∈ (List.range Tryz.prog.types.size).filter fun t => Tryz.prog.rowNamed t [101, 114, 114, 111, 114] := List.mem_filter.2 ⟨List.mem_range.2 e3, e4⟩
  rw [oneError] at hm
  obtain rfl := List.mem_singleton.1 hm
  rw [handleError] at e5
  obtain rfl : g2 = 1 := Option.some.inj (hg2.symm.trans (by kernel_rfl))
  obtain rfl := Option.some.inj ((show (Tryz.prog.globals[1]?).map (·.type) = some 192 by kernel_rfl).symm.trans ht2)
  have hcs := Lib.cells_of_tab (k := .u64) (zs := Lib.pow10Tab) Tryz.underlying192 Tryz.underlying152 (by kernel_rfl) (by kernel_rfl) hd2
  refine ⟨⟨by simpa using World.var?_cell gEt e5 0, hbig⟩, ?_⟩
  unfold World.var? at hv2
  rw [hg2, Option.bind_some] at hv2
  split at hv2
  · next cs t fz hw =>
    obtain rfl := Option.some.inj hv2
    refine ⟨t, fz, hw.trans ?_⟩
    rw [← hcs]
  · cases hv2
end Go.Proofs.YtidomoibhjgkjaaGreatDoor
