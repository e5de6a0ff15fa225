/-
  Package value: variables: Vars.
-/
import Derived.Test.YtepniiaojhiogaaDoorVDV
import Derived.Test.YtepniiaojhiogaaDoorVName
namespace Go.Proofs.YtepniiaojhiogaaDoor
open Go.RowKit

/-- The name ahead of place j. -/
def prevN (l : List VN) (j : Nat) : Option ByteArray := if j = 0 then none else (l[j - 1]?).map (·.1)
theorem prevN_succ {l : List VN} {j : Nat} (h : j < l.length) : prevN l (j + 1) = some (l[j]'h).1 := by
  simp [prevN, h]

theorem below_drewN {B : Nat} {w w' : World} (h : Below B w w') (n : Nat) : Below B w (w'.drewN n) := h.trans ⟨rfl, rfl, rfl, Nat.le_refl _, fun _ _ => rfl⟩
def prevBad (p : Option ByteArray) (x : ByteArray) : Bool := match p with | none => false | some y => !blt y.data.toList x.data.toList
theorem varsGo_cons (ok : ByteArray → Bool) (p : Option ByteArray) (x : VN) (l : List VN) : varsGo ok p (x :: l) = if ok x.1 = false then 30 else if prevBad p x.1 = true then 8 else if rightV x.2 ≠ 0 then rightV x.2 else varsGo ok (some x.1) l := by
  cases p <;> rfl

set_option maxRecDepth 100000 in
set_option maxHeartbeats 4000000 in
theorem vVars_any : VarsC nm.nameOk := by
  intro l A c w hsh hc hcm hz hr
  have HR := Lib.hid hr
  have HSh := Lib.hid hsh.2
  have hl := hsh.1
  have HQ := Lib.hid vRight_any
  clear hr hsh
  by_cases h8 : 8 < l.length
  · have d8 : decide ((8 : Int) < (l.length : Int)) = true := by rw [decide_eq_true_iff]; omega
    have HV := Lib.hid (show varsL nm.nameOk l = 3 from if_pos h8)
    clear h8
    go_enter Tryd.func29, Tryd.ntmps29
    go_wp2
    go_ret
    rw [HV.out]
    exact ⟨rfl, Below.refl _ _⟩
  · have d8 : decide ((8 : Int) < (l.length : Int)) = false := by rw [decide_eq_false_iff_not]; omega
    have HV := Lib.hid (show varsL nm.nameOk l = varsGo nm.nameOk none l from if_neg h8)
    clear h8
    go_enter Tryd.func29, Tryd.ntmps29
    go_wp2
    go_loopg [10] l.length (fun q i wr => ∃ j : Nat, j + q = l.length ∧ i = .int .i64 j ∧ varsGo nm.nameOk none l = varsGo nm.nameOk (prevN l j) (l.drop j) ∧ Below w.heap.size w wr)
    case atStart => exact ⟨0, by omega, rfl, rfl, Below.refl _ _⟩
    case round =>
      obtain ⟨j, hk, rfl, hgo, hb⟩ := hrel
      have HK := Lib.hid hk
      have HG := Lib.hid hgo
      have HB := Lib.hid hb
      clear hgo hb hk
      by_cases hj : j < l.length
      · have hlt : decide ((j : Int) < (l.length : Int)) = true := by simpa using hj
        have hlt2 : decide (j < l.length) = true := by simpa using hj
        have HRw := Lib.hid (HR.out.below HB.out (Nat.le_refl _))
        obtain ⟨b, o, rfl, hv⟩ := HRw.out.at_ hj
        obtain ⟨c0, c1, c2, c3⟩ := hv
        have hsz := HSh.out _ (List.getElem_mem hj)
        have HP := Lib.hid (prevN_succ hj)
        have hcons : l.drop j = l[j] :: l.drop (j + 1) := List.drop_eq_getElem_cons hj
        have hgo := HG.out
        rw [hcons, varsGo_cons] at hgo
        generalize l[j]'hj = x at *
        obtain ⟨nme, k, n, s⟩ := x
        simp only at c0 c1 c2 c3 hsz HP hgo
        have HGo := Lib.hid hgo
        clear hgo hcons HG
        have hbx := BoxN.new wr nme k n s
        have hbb : Below wr.heap.size wr (wr.alloc (.cells #[.string nme, .int .i64 k, .int .i64 n, .string s] 47)) := box_below _ _ _
        cases hok : nm.nameOk nme
        · have HE := Lib.hid (HGo.out.trans (if_pos hok))
          have HNm := Lib.hid (fun w => nm.name_any nme w (by omega))
          rw [hok] at HNm
          have HBB := Lib.hid (HB.out.trans (hbb.mono HB.out.size))
          clear hok HGo hbx hbb hsz
          go_wp2_with (go_at_call 60; refine (HNm.out _).mono ?_; rintro r w' ⟨rfl, rfl⟩)
          go_ret
          rw [HV.out, HE.out]
          exact ⟨rfl, HBB.out⟩
        · have HE1 := Lib.hid (HGo.out.trans (if_neg (by rw [hok]; simp)))
          have HNm := Lib.hid (fun w => nm.name_any nme w (by omega))
          rw [hok] at HNm
          have hright := fun w => HQ.out ⟨k, n, s⟩ w
          have HRi : Hid (∀ w, Calls Tryd.prog 13 #[.agg #[.int .i64 k, .int .i64 n, .string s]] w fun r w' => r = .returned (.int .i64 (rightV ⟨k, n, s⟩)) ∧ Below w.heap.size w w') := Lib.hid hright
          clear hright hok HGo hsz
          go_upto_region 6 with fail
          obtain ⟨w1, hw1⟩ : ∃ wy, wr.alloc (.cells #[.string nme, .int .i64 k, .int .i64 n, .string s] 47) = wy := ⟨_, rfl⟩
          rw [hw1] at hbx hbb ⊢
          have HBX := Lib.hid hbx
          have HBB := Lib.hid (HB.out.trans (hbb.mono HB.out.size))
          have hltb := hbx.lt
          obtain ⟨g0, g1, g2, g3⟩ := hbx.cells
          have HRow1 := Lib.hid (HR.out.below HBB.out (Nat.le_refl _))
          have hpi : (j = 0 ∧ prevN l j = none) ∨ ∃ i, ∃ hi : i < l.length, j = i + 1 ∧ prevN l j = some (l[i]'hi).1 := by
            cases j with
            | zero => exact .inl ⟨rfl, rfl⟩
            | succ i => exact .inr ⟨i, by omega, rfl, prevN_succ (by omega)⟩
          clear hbx hbb hw1 c0 c1 c2 c3
          generalize wr.heap.size = g at *
          go_upto_region 8 with (go_at_call 60; refine (HNm.out _).mono ?_; rintro r w' ⟨rfl, rfl⟩)
          rcases hpi with ⟨rfl, hpn⟩ | ⟨i, hi, rfl, hpn⟩
          · have HE2 := Lib.hid (HE1.out.trans (if_neg (by rw [hpn]; simp [prevBad])))
            clear hpn HE1
            go_quiet (skip)
            go_upto_region 10 with fail
            have HX2 := Lib.hid (show BoxN (w1.drewN nq) g (nme, ⟨k, n, s⟩) from HBX.out)
            have HB2 := Lib.hid (below_drewN HBB.out nq)
            generalize w1.drewN nq = w2 at *
            obtain ⟨g0, g1, g2, g3⟩ := HX2.out.cells
            go_wp2_with fail
            refine (HRi.out _).mono ?_
            rintro r w3 ⟨rfl, hb3⟩
            have HX3 := Lib.hid (HX2.out.below hb3)
            have HB3 := Lib.hid (HB2.out.trans (hb3.mono HB2.out.size))
            obtain ⟨g0, g1, g2, g3⟩ := HX3.out.cells
            clear hb3
            by_cases hr : rightV ⟨k, n, s⟩ = 0
            · have HE3 := Lib.hid (HE2.out.trans (if_neg (by rw [hr]; simp)))
              have hrb : (rightV ⟨k, n, s⟩ != 0) = false := by rw [hr]; rfl
              clear hr
              generalize rightV ⟨k, n, s⟩ = er at *
              go_wp2_with fail
              go_roundg (gk - 1)
              case measure => have := HK.out; omega
              case rel => exact ⟨0 + 1, by have := HK.out; omega, by go_num, by rw [HP.out]; exact HE3.out, HB3.out⟩
            · have HE3 := Lib.hid (HE2.out.trans (if_pos hr))
              have hrb : (rightV ⟨k, n, s⟩ != 0) = true := by rw [bne_iff_ne]; exact hr
              clear hr
              generalize rightV ⟨k, n, s⟩ = er at *
              go_wp2_with fail
              refine (HRi.out _).mono ?_
              rintro r w4 ⟨rfl, hb4⟩
              have HB4 := Lib.hid (HB3.out.trans (hb4.mono HB3.out.size))
              clear hb4
              go_wp2_with fail
              go_ret
              rw [HV.out, HE3.out]
              exact ⟨rfl, HB4.out⟩
          · obtain ⟨b', o', e, hv⟩ := HRow1.out.at_ hi
            injection e with e
            injection e with e1 e2
            subst e1 e2
            have c0 := hv.1
            have HEP := Lib.hid (show prevBad (prevN l (i + 1)) nme = !blt (l[i]'hi).1.data.toList nme.data.toList by rw [hpn]; rfl)
            generalize (l[i]'hi).1 = pv at *
            have q1 : Op.bytesLess pv.toList nme.toList = blt pv.data.toList nme.data.toList := by rw [ByteArray.toList_eq, ByteArray.toList_eq]
            have q2 : Op.bytesLess nme.toList pv.toList = blt nme.data.toList pv.data.toList := by rw [ByteArray.toList_eq, ByteArray.toList_eq]
            have h3 : (blt pv.data.toList nme.data.toList = true ∧ blt nme.data.toList pv.data.toList = false ∧ (nme.toList == pv.toList) = false) ∨ (blt pv.data.toList nme.data.toList = false ∧ blt nme.data.toList pv.data.toList = true ∧ (nme.toList == pv.toList) = false) ∨ (blt pv.data.toList nme.data.toList = false ∧ blt nme.data.toList pv.data.toList = false ∧ (nme.toList == pv.toList) = true) := by
              rw [ByteArray.toList_eq, ByteArray.toList_eq]
              rcases blt_tri pv.data.toList nme.data.toList with h | h | h
              · exact .inl ⟨h, blt_asymm h, beq_eq_false_iff_ne.2 (fun e => by rw [e, blt_self] at h; cases h)⟩
              · rw [h]; exact .inr (.inr ⟨blt_self _, blt_self _, by simp⟩)
              · exact .inr (.inl ⟨blt_asymm h, h, beq_eq_false_iff_ne.2 (fun e => by rw [e, blt_self] at h; cases h)⟩)
            generalize blt pv.data.toList nme.data.toList = p at *
            generalize blt nme.data.toList pv.data.toList = q at *
            have hpos : decide ((0 : Int) < (i : Int) + 1) = true := by rw [decide_eq_true_iff]; omega
            have hii : decide (i < l.length) = true := by simpa using hi
            have hii2 : decide ((i : Int) < (l.length : Int)) = true := by simpa using hi
            clear hpn
            rcases h3 with ⟨rfl, rfl, h⟩ | ⟨rfl, rfl, h⟩ | ⟨rfl, rfl, h⟩
            · have HE2 := Lib.hid (HE1.out.trans (if_neg (by rw [HEP.out]; simp)))
              go_quiet (skip)
              go_upto_region 10 with fail
              have HX2 := Lib.hid (show BoxN (w1.drewN nq) g (nme, ⟨k, n, s⟩) from HBX.out)
              have HB2 := Lib.hid (below_drewN HBB.out nq)
              generalize w1.drewN nq = w2 at *
              obtain ⟨g0, g1, g2, g3⟩ := HX2.out.cells
              go_wp2_with fail
              refine (HRi.out _).mono ?_
              rintro r w3 ⟨rfl, hb3⟩
              have HX3 := Lib.hid (HX2.out.below hb3)
              have HB3 := Lib.hid (HB2.out.trans (hb3.mono HB2.out.size))
              obtain ⟨g0, g1, g2, g3⟩ := HX3.out.cells
              clear hb3
              by_cases hr : rightV ⟨k, n, s⟩ = 0
              · have HE3 := Lib.hid (HE2.out.trans (if_neg (by rw [hr]; simp)))
                have hrb : (rightV ⟨k, n, s⟩ != 0) = false := by rw [hr]; rfl
                clear hr
                generalize rightV ⟨k, n, s⟩ = er at *
                go_wp2_with fail
                go_roundg (gk - 1)
                case measure => have := HK.out; omega
                case rel => exact ⟨(i + 1) + 1, by have := HK.out; omega, by go_num, by rw [HP.out]; exact HE3.out, HB3.out⟩
              · have HE3 := Lib.hid (HE2.out.trans (if_pos hr))
                have hrb : (rightV ⟨k, n, s⟩ != 0) = true := by rw [bne_iff_ne]; exact hr
                clear hr
                generalize rightV ⟨k, n, s⟩ = er at *
                go_wp2_with fail
                refine (HRi.out _).mono ?_
                rintro r w4 ⟨rfl, hb4⟩
                have HB4 := Lib.hid (HB3.out.trans (hb4.mono HB3.out.size))
                clear hb4
                go_wp2_with fail
                go_ret
                rw [HV.out, HE3.out]
                exact ⟨rfl, HB4.out⟩
            · have HE2 := Lib.hid (HE1.out.trans (if_pos (by rw [HEP.out]; simp)))
              go_quiet (skip)
              go_wp2_with fail
              go_ret
              rw [HV.out, HE2.out]
              exact ⟨rfl, below_drewN HBB.out _⟩
            · have HE2 := Lib.hid (HE1.out.trans (if_pos (by rw [HEP.out]; simp)))
              go_quiet (skip)
              go_wp2_with fail
              go_ret
              rw [HV.out, HE2.out]
              exact ⟨rfl, below_drewN HBB.out _⟩
      · have hlt : decide ((j : Int) < (l.length : Int)) = false := by simpa using hj
        have HE := Lib.hid (HG.out.trans (show varsGo nm.nameOk (prevN l j) (l.drop j) = 0 by rw [List.drop_of_length_le (by omega)]; unfold varsGo; rfl))
        go_wp2
        go_ret
        rw [HV.out, HE.out]
        exact ⟨rfl, HB.out⟩
end Go.Proofs.YtepniiaojhiogaaDoor
