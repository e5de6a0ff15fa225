import Derived.Test.YtidomoibhjgkjaaGreatDoorZC43
import Derived.IntWalk
import Derived.Test.YtidomoibhjgkjaaGreatDoorZC08
import Derived.LaidMore
import Derived.ProofKit
import Derived.Stop.Joined
import Derived.Lib.LaidTab
import Derived.SizedLaws
import Derived.HandedShaped
import Derived.Test.YtidomoibhjgkjaaGreatDoorRows
import Derived.Test.YtidomoibhjgkjaaGreatDoorZC34
import Derived.Laws.AppendOwnNone
/-
  EvalFuel: with as much fuel as there are terms none is left, with less there is too little, with more all is the same.
-/
namespace Go.Proofs.YtidomoibhjgkjaaGreatDoor
open Go.RowKit

namespace evalFuel
set_option maxRecDepth 100000 in
set_option maxHeartbeats 8000000 in
theorem walkG (l : List TM) (A : Option Addr) (c : Nat) (hl : l.length ≤ maxLen) (hn : ∀ x ∈ l, TermIn x) (vs : List VN) (A2 : Option Addr) (c2 : Nat) (hl2 : vs.length ≤ maxLen) (hn2 : ∀ x ∈ vs, VarIn x) (hc2 : vs.length ≤ c2) (hm2 : c2 ≤ maxLen) (hz2 : A2 = none → c2 = 0)
    (less more : Nat) (hless : less ≤ 65535) (hmore : more ≤ 65535) (w : World) (hr : RowT w 0 w.heap.size A l) (hr2 : RowN w 0 w.heap.size A2 vs) (hG : GlobW w) :
    Calls Tryz.prog 6 #[.slice A l.length c, .slice A2 vs.length c2, .int .u16 (less : Int), .int .u16 (more : Int)] w fun r w' => r = .returned (.bool true) ∧ Below w.heap.size w w' := by
  have hM : maxLen = 9223372036854775807 := by unfold maxLen; rfl
  have HLv := Lib.hid (fun W (hb : Below w.heap.size w W) => live6_any W (hG.below hb hG.big))
  have HFe := Lib.hid (fun W (hb : Below w.heap.size w W) => few6_any l A c vs A2 c2 W (by rw [← hM]; exact hl) (fun x hx => by rw [← hM]; exact ⟨(hn x hx).2, (hn x hx).1.2.2⟩) ((hr.below hb (Nat.le_refl _)).wide (Nat.le_refl _) hb.size) (by rw [← hM]; exact hl2) (fun x hx => by rw [← hM]; exact ⟨(hn2 x hx).1, (hn2 x hx).2.2.2⟩) ((hr2.below hb (Nat.le_refl _)).wide (Nat.le_refl _) hb.size))
  have B0 := Lib.hid (Below.refl w.heap.size w)
  cases hfew : few6 l vs with
  | false =>
    rw [hfew] at HFe
    clear hfew hl hn hl2 hn2 hc2 hm2 hz2 hr hr2 hG hM hless hmore
    go_enter Tryz.func6, Tryz.ntmps6
    go_wp2_with fail
    refine (HLv.out _ B0.out).mono ?_
    rintro r w1 ⟨rfl, hb1⟩
    have HB1 := Lib.hid hb1
    clear hb1
    dsimp only
    go_wp2_with fail
    refine (HFe.out _ HB1.out).mono ?_
    rintro r w2 ⟨rfl, hb2⟩
    have HB2 := Lib.hid (HB1.out.trans (hb2.mono HB1.out.size))
    clear hb2
    dsimp only
    go_wp2_with fail
    refine (HLv.out _ HB2.out).mono ?_
    rintro r w3 ⟨rfl, hb3⟩
    have HB3 := Lib.hid (HB2.out.trans (hb3.mono HB2.out.size))
    clear hb3
    dsimp only
    go_wp2
    go_ret
    exact ⟨rfl, HB3.out⟩
  | true =>
    rw [hfew] at HFe
    have hT := few_terms (w := w) hfew hn hr
    have hV := few_vars hfew hn2 hc2 hm2 hz2 hr2
    have HCk := Lib.hid (fun W (hb : Below w.heap.size w W) => check_few c (hT.below hb))
    have hl40 := (few6_yes hfew).2.2.1
    by_cases hck : checkL l = 0
    · -- the terms are right
      have hfm := fuel_more (getL vs) hck more
      have hfe := fuel_exact (getL vs) hck
      have hle := ofG_le (getL vs) l l.length
      have hfl := fun hlt => fuel_less (getL vs) hck (f := less) hlt
      obtain ⟨X1, hX1⟩ : ∃ X, ofG (getL vs) l l.length = X := ⟨_, rfl⟩
      obtain ⟨X3, hX3⟩ : ∃ X, ofG (getL vs) l less = X := ⟨_, rfl⟩
      rw [hX1] at hfm hfe hle
      rw [hX3, hX1] at hfl
      obtain ⟨⟨vk, vn, vsx⟩, n1, ec, ps⟩ := X1
      obtain ⟨⟨xk, xn, xs⟩, n3, ec3, ps3⟩ := X3
      simp only at hfm hfe hfl hle
      have HO1 := Lib.hid (fun W (hb : Below w.heap.size w W) => gOfG l A c vs A2 c2 (l.length : Int) W (hT.below hb) (hV.below hb) (by omega) (by omega) (hG.below hb hG.big) (by omega) hX1)
      have HO2 := Lib.hid (fun W (hb : Below w.heap.size w W) => gOfG l A c vs A2 c2 ((l.length : Int) + (more : Int)) W (hT.below hb) (hV.below hb) (by omega) (by omega) (hG.below hb hG.big) (by omega) hfm)
      have HO3 := Lib.hid (fun W (hb : Below w.heap.size w W) => gOfG l A c vs A2 c2 (less : Int) W (hT.below hb) (hV.below hb) (by omega) (by omega) (hG.below hb hG.big) (by omega) hX3)
      have HG := Lib.hid hG
      rw [hck] at HCk
      have hzz : ec = 0 ∨ ec ≠ 0 := by omega
      have HZ := Lib.hid hfe
      have HL3 := Lib.hid hfl
      have HZZ := Lib.hid hzz
      have q : ∀ w, (Op.equalIn 10000 27 (.agg #[.int .i64 vk, .int .i64 vn, .string vsx]) (.agg #[.int .i64 vk, .int .i64 vn, .string vsx])).run Tryz.prog w = .ok true w := fun w => by
        rw [eq_in, eqV_self]
      have e60 : (ec == 60) = false := by rw [beq_eq_false_iff_ne]; exact hfe.1
      clear hfew hl hn hl2 hn2 hc2 hm2 hz2 hr hr2 hG hT hV hck hfm hfe hfl hX1 hX3 hzz
      go_enter Tryz.func6, Tryz.ntmps6
      go_wp2_with fail
      refine (HLv.out _ B0.out).mono ?_
      rintro r w1 ⟨rfl, hb1⟩
      have HB1 := Lib.hid hb1
      clear hb1
      dsimp only
      go_wp2_with fail
      refine (HFe.out _ HB1.out).mono ?_
      rintro r w2 ⟨rfl, hb2⟩
      have HB2 := Lib.hid (HB1.out.trans (hb2.mono HB1.out.size))
      clear hb2
      dsimp only
      go_wp2_with fail
      refine (HCk.out _ HB2.out).mono ?_
      rintro r w3 ⟨rfl, hb3⟩
      have HB3 := Lib.hid (HB2.out.trans (hb3.mono HB2.out.size))
      clear hb3 HB1 HB2
      dsimp only
      go_wp2_with fail
      refine (HO1.out _ HB3.out).mono ?_
      rintro r w4 ⟨u1, rfl, hb4, hu1⟩
      dsimp only
      have hb5 := box_below w4 #[.int .i64 vk, .int .i64 vn, .string vsx] 27
      have hx5 : Boxed (w4.alloc (.cells #[.int .i64 vk, .int .i64 vn, .string vsx] 27)) w4.heap.size ⟨vk, vn, vsx⟩ := Boxed.new w4 vk vn vsx
      have hB5 := HB3.out.trans ((hb4.trans (hb5.mono hb4.size)).mono HB3.out.size)
      have hU5 := hu1.below hb5
      obtain ⟨w5, hw5⟩ : ∃ y, w4.alloc (.cells #[.int .i64 vk, .int .i64 vn, .string vsx] 27) = y := ⟨_, rfl⟩
      obtain ⟨s4, hs4⟩ : ∃ y, w4.heap.size = y := ⟨_, rfl⟩
      rw [hw5] at hx5 hB5 hU5
      rw [hs4] at hx5
      have HX5 := Lib.hid hx5
      have HB5 := Lib.hid hB5
      have HU5 := Lib.hid hU5
      have HW5 := Lib.hid hw5
      have HS4 := Lib.hid hs4
      clear hb4 hb5 hx5 hB5 hU5 hw5 hs4 hu1 HB3 HO1
      go_upto_region 4 with fail
      rw [HW5.out, HS4.out]
      clear HW5 HS4
      go_wp2_with fail
      refine (HO2.out _ HB5.out).mono ?_
      rintro r w6 ⟨u2, rfl, hb6, hu2⟩
      dsimp only
      have hb7 := box_below w6 #[.int .i64 vk, .int .i64 vn, .string vsx] 27
      have hy7 : Boxed (w6.alloc (.cells #[.int .i64 vk, .int .i64 vn, .string vsx] 27)) w6.heap.size ⟨vk, vn, vsx⟩ := Boxed.new w6 vk vn vsx
      have hb57 := hb6.trans (hb7.mono hb6.size)
      have hB7 := HB5.out.trans (hb57.mono HB5.out.size)
      have hU7 := HU5.out.below hb57
      have hX7 := HX5.out.below hb57
      have hV7 := hu2.below hb7
      obtain ⟨w7, hw7⟩ : ∃ y, w6.alloc (.cells #[.int .i64 vk, .int .i64 vn, .string vsx] 27) = y := ⟨_, rfl⟩
      obtain ⟨s6, hs6⟩ : ∃ y, w6.heap.size = y := ⟨_, rfl⟩
      rw [hw7] at hy7 hB7 hU7 hX7 hV7
      rw [hs6] at hy7
      have HG7 := Lib.hid (HG.out.below hB7 HG.out.big)
      have HC1 := Lib.hid (codeE_from hU7 HG7.out)
      have HC2 := Lib.hid (codeE_from hV7 HG7.out)
      have HI1 := Lib.hid (isE_from hU7 HG7.out 60)
      have HU7 := Lib.hid hU7
      have HB7 := Lib.hid hB7
      obtain ⟨x0, x1, x2⟩ := hX7.cells
      obtain ⟨y0, y1, y2⟩ := hy7.cells
      simp only at x0 x1 x2 y0 y1 y2
      have HW7 := Lib.hid hw7
      have HS6 := Lib.hid hs6
      clear hb6 hb7 hy7 hb57 hB7 hU7 hX7 hV7 hw7 hs6 hu2 HB5 HU5 HX5 HO2
      go_upto_region 5 with fail
      rw [HW7.out, HS6.out]
      clear HW7 HS6
      have hu : (u1 = .nilIface ∧ ec = 0 ∧ n1 = 0) ∨ (∃ T y, u1 = .iface T y) := by
        rcases HZZ.out with hz | hz
        · subst hz
          exact .inl ⟨HU7.out.zero, rfl, HZ.out.2 rfl⟩
        · exact .inr (HU7.out.some' hz)
      rcases hu with ⟨rfl, rfl, rfl⟩ | ⟨T, y, rfl⟩
      all_goals
        go_wp2_with fail
        refine (HC1.out _ (Below.refl _ _)).mono ?_
        rintro r w8 ⟨rfl, hb8⟩
        have H8 := Lib.hid hb8
        clear hb8
        dsimp only
        go_wp2_with fail
        refine (HC2.out _ H8.out).mono ?_
        rintro r w9 ⟨rfl, hb9⟩
        have H9 := Lib.hid hb9
        clear hb9 H8
        dsimp only
        go_wp2_with fail
        refine (HI1.out _ H9.out).mono ?_
        rintro r w10 ⟨rfl, hb10⟩
        have HB10 := Lib.hid (HB7.out.trans (hb10.mono HB7.out.size))
        have HU10 := Lib.hid (HU7.out.below hb10)
        clear hb10 H9
        dsimp only
        by_cases hlt : less < l.length
        · have dlt : decide ((l.length : Int) ≤ (less : Int)) = false := by rw [decide_eq_false_iff_not]; omega
          have dlt2 : decide (l.length ≤ less) = false := by rw [decide_eq_false_iff_not]; omega
          obtain ⟨h3a, h3b⟩ := HL3.out hlt
          have HLT := Lib.hid hlt
          clear hlt
          go_wp2_with fail
          refine (HO3.out _ HB10.out).mono ?_
          rintro r w11 ⟨u3, rfl, hb11, hu3⟩
          dsimp only
          obtain ⟨T3, y3, rfl⟩ := hu3.some' h3a
          have hb12 := box_below w11 #[.int .i64 xk, .int .i64 xn, .string xs] 27
          have hb1012 := hb11.trans (hb12.mono hb11.size)
          have hU12 := HU10.out.below hb1012
          have hV12 := hu3.below hb12
          have hB12 := HB10.out.trans (hb1012.mono HB10.out.size)
          obtain ⟨w12, hw12⟩ : ∃ y, w11.alloc (.cells #[.int .i64 xk, .int .i64 xn, .string xs] 27) = y := ⟨_, rfl⟩
          rw [hw12] at hU12 hV12 hB12
          have HG12 := Lib.hid (HG.out.below hB12 HG.out.big)
          have HI3 := Lib.hid (isE_from hV12 HG12.out 60)
          have HC3 := Lib.hid (codeE_from hV12 HG12.out)
          have HC4 := Lib.hid (codeE_from hU12 HG12.out)
          have HB12 := Lib.hid hB12
          have HW12 := Lib.hid hw12
          have H3B := Lib.hid h3b
          clear hb11 hu3 hb12 hb1012 hU12 hV12 hB12 hw12 h3a h3b
          go_upto_region 10 with fail
          rw [HW12.out]
          clear HW12
          by_cases h60 : ec3 = 60
          · have d60 : (ec3 == 60) = true := by rw [beq_iff_eq]; exact h60
            clear h60
            go_wp2_with fail
            refine (HI3.out _ (Below.refl _ _)).mono ?_
            rintro r w13 ⟨rfl, hb13⟩
            have HB13 := Lib.hid (HB12.out.trans (hb13.mono HB12.out.size))
            clear hb13
            dsimp only
            go_wp2
            go_ret
            exact ⟨rfl, HB13.out⟩
          · have d60 : (ec3 == 60) = false := by rw [beq_eq_false_iff_ne]; exact h60
            have dd : ec3 = _ := (H3B.out).resolve_left h60
            subst dd
            clear h60
            go_wp2_with fail
            refine (HI3.out _ (Below.refl _ _)).mono ?_
            rintro r w13 ⟨rfl, hb13⟩
            have H13 := Lib.hid hb13
            clear hb13
            dsimp only
            go_wp2_with fail
            refine (HC3.out _ H13.out).mono ?_
            rintro r w14 ⟨rfl, hb14⟩
            have H14 := Lib.hid hb14
            clear hb14
            dsimp only
            go_wp2_with fail
            refine (HC4.out _ H14.out).mono ?_
            rintro r w15 ⟨rfl, hb15⟩
            have HB15 := Lib.hid (HB12.out.trans (hb15.mono HB12.out.size))
            clear hb15
            dsimp only
            go_wp2
            go_ret
            exact ⟨rfl, HB15.out⟩
        · have dlt : decide ((l.length : Int) ≤ (less : Int)) = true := by rw [decide_eq_true_iff]; omega
          have dlt2 : decide (l.length ≤ less) = true := by rw [decide_eq_true_iff]; omega
          clear hlt
          go_wp2
          go_ret
          exact ⟨rfl, HB10.out⟩
    · have d : (checkL l == 0) = false := by rw [beq_eq_false_iff_ne]; exact hck
      generalize checkL l = ck at *
      clear hfew hl hn hl2 hn2 hc2 hm2 hz2 hr hr2 hG hM hless hmore hck hl40 hT hV
      go_enter Tryz.func6, Tryz.ntmps6
      go_wp2_with fail
      refine (HLv.out _ B0.out).mono ?_
      rintro r w1 ⟨rfl, hb1⟩
      have HB1 := Lib.hid hb1
      clear hb1
      dsimp only
      go_wp2_with fail
      refine (HFe.out _ HB1.out).mono ?_
      rintro r w2 ⟨rfl, hb2⟩
      have HB2 := Lib.hid (HB1.out.trans (hb2.mono HB1.out.size))
      clear hb2
      dsimp only
      go_wp2_with fail
      refine (HCk.out _ HB2.out).mono ?_
      rintro r w3 ⟨rfl, hb3⟩
      have HB3 := Lib.hid (HB2.out.trans (hb3.mono HB2.out.size))
      clear hb3
      dsimp only
      go_wp2_with fail
      refine (HLv.out _ HB3.out).mono ?_
      rintro r w4 ⟨rfl, hb4⟩
      have HB4 := Lib.hid (HB3.out.trans (hb4.mono HB3.out.size))
      clear hb4
      dsimp only
      go_wp2
      go_ret
      exact ⟨rfl, HB4.out⟩
end evalFuel
end Go.Proofs.YtidomoibhjgkjaaGreatDoor

/-
  What the rows' condition on the package-level variables gives the walks of stage 6; and a world that meets it.
-/
namespace Go.Proofs.YtidomoibhjgkjaaGreatDoor
open Go.RowKit

theorem ownKnob_none : ownKnob Tryz.prog.godebug = none := by kernel_rfl
theorem laidOut_all : laidOutB Tryz.prog = true := by kernel_rfl

/-- The door's own heap meets the condition. -/
theorem door_met (os : Os) (args : Array Value) : laidMetH Tryz.prog Rows.evalFuelRow.laid ((World.doorLaid Tryz.prog 200 os).forCall (fun _ _ => 0) ⟨#[], args, []⟩).memory :=
  laidMetH_of_parts3 (fuel := 8) (laidMet_of_run' 8 (by kernel_rfl) (by kernel_rfl)) (by kernel_rfl) (by kernel_rfl)

theorem gEt : Tryz.prog.globalNamed "errors.errorType" = some 0 := by kernel_rfl
theorem oneError : ((List.range Tryz.prog.types.size).filter fun t => Tryz.prog.rowNamed t [101, 114, 114, 111, 114]) = [29] := by kernel_rfl
theorem handleError : typeHandle Tryz.prog 29 = .pointer (some ⟨5, 29, none⟩) := by kernel_rfl

theorem globW_of_laid {W : World} (h : laidMetH Tryz.prog Rows.evalFuelRow.laid W) (hbig : 5 ≤ W.heap.size) : GlobW W := by
  have h' : laidMet Tryz.prog [] W ∧ handlesMet Tryz.prog [(_, Rows.laid_errors_errorType)] W := h
  obtain ⟨_, hh⟩ := h'
  obtain ⟨name, u, ty, e1, e2, e3, e4, e5⟩ := hh _ (List.mem_singleton.2 rfl)
  have en : name = [101, 114, 114, 111, 114] := (Option.some.inj e1).symm
  subst en
  obtain rfl : u = 156 := Option.some.inj (e2.symm.trans (by kernel_rfl))
  have hm : ty ∈ (List.range Tryz.prog.types.size).filter fun t => Tryz.prog.rowNamed t [101, 114, 114, 111, 114] := List.mem_filter.2 ⟨List.mem_range.2 e3, e4⟩
  rw [oneError] at hm
  obtain rfl := List.mem_singleton.1 hm
  rw [handleError] at e5
  exact ⟨by simpa using World.var?_cell gEt e5 0, hbig⟩

/-- A world of the program's shape has all its package-level variables. -/
theorem big_of_shaped {W : World} (h : W.ShapedOpen Tryz.prog) : 5 ≤ W.heap.size := by
  obtain ⟨o, _, ho, _⟩ := h.2 5 (of_decide_eq_true (by kernel_rfl)) (of_decide_eq_true (by kernel_rfl))
  have := (Array.getElem?_eq_some_iff.1 ho).1
  omega

/-- A number of 16 bits. -/
theorem u16_nat {z : Int} (h : (Lit.int .u16 z).wf = true) : ∃ n : Nat, z = (n : Int) ∧ n ≤ 65535 := by
  simp [Lit.wf, IntKind.min, IntKind.max, IntKind.bits, IntKind.signed] at h
  exact ⟨z.toNat, by omega, by omega⟩

section
variable {H : Type} {enc : TypeId × Value → H}
set_option maxRecDepth 100000 in
/-- The wrap of a row with a condition X on its first world, that hands on the number of that world's blocks too. -/
theorem returnsG {a : Assume} {os : Os} {f : FuncId} {fn : Func} {s : ChangeSpec} {conds : List PathCond} {apart fresh handsOn again : Bool} {X : World → Array Value → Prop}
    (hX : ∀ (w w' : World) (args : Array Value), w.heap = w'.heap → X w args → X w' args)
    (started : os.Started) (noInit : Tryz.prog.inits.idxOf? f = none) (hfn : Tryz.prog.funcs[f]? = some fn)
    (witness : ∃ (w : World) (tape : Tape) (i : Input), w.os = os ∧ (w.forCall tape i).Shaped Tryz.prog ∧ i.vars = [] ∧ Input.okWide Tryz.prog (w.forCall tape i) .any w.heap.size f i ∧
      ((s.pre enc Tryz.prog fn conds apart (w.forCall tape i).memory i.args ∧ X (w.forCall tape i).memory i.args) ∧ sizedMet enc Tryz.prog fn (OpenSpec.ofChange s) apart (w.forCall tape i).memory i.args) ∧ a.holds Tryz.prog (lone (Frame.enter Tryz.prog f i.args .normal) [] (w.forCall tape i)))
    (contract : ∀ (W : World) (base : Nat) (args : Array Value) (ds gs : List (DataW H)) (before : List MemPlace),
      (∀ (j : Nat) t v, fn.params[j]? = some t → args[j]? = some v → Value.okWide Tryz.prog W .any base t v) →
      DataW.Whole enc Tryz.prog fn.params.toList s.vars apart W args.toList ds gs before → 5 ≤ W.heap.size →
      (DataW.weightsEach Tryz.prog (fn.params.toList ++ s.plain.varTypes Tryz.prog) (ds ++ gs)).all (· ≤ reachBytes) = true → X W args →
      a.holds Tryz.prog (lone (Frame.enter Tryz.prog f args .normal) [] W) →
      Calls Tryz.prog f args W fun e W' => ∃ v, e = .returned v ∧ s.post enc Tryz.prog fn apart fresh handsOn again W args v W') :
    ReturnsInHanded a Tryz.checked os f .any (fun w args => (s.pre enc Tryz.prog fn conds apart w args ∧ X w args) ∧ sizedMet enc Tryz.prog fn (OpenSpec.ofChange s) apart w args) (s.post enc Tryz.prog fn apart fresh handsOn again) := by
  refine returnsInHanded_of_calls (C := Tryz.checked) ownKnob_none started noInit witness ?_
  intro w tape i _ hsh _ hok hpre hholds
  have hbig := big_of_shaped hsh
  obtain ⟨_, _, _, fn', hfn', _, _, _, _, hval⟩ := hok
  have e : fn' = fn := Option.some.inj (hfn'.symm.trans hfn)
  subst e
  obtain ⟨⟨⟨ds, gs, before, hw, _⟩, hx⟩, hz⟩ := hpre
  have hw' := DataW.Whole.of_heap (w' := w.forCall tape i) (by rfl) hw
  refine (contract (w.forCall tape i) w.heap.size i.args ds gs before hval hw' hbig (hz.weights hw) (hX _ _ _ (by rfl) hx) hholds).mono fun e W' ⟨v, he, hp⟩ => ?_
  subst he
  exact ChangeSpec.post_blind hp
end
end Go.Proofs.YtidomoibhjgkjaaGreatDoor

/-
  An append of terms that are read, onto a row of the call's own; nil slices of terms that came in.
-/
namespace Go.Proofs.YtidomoibhjgkjaaGreatDoor
open Go.RowKit

theorem OwnT.grown_below {B lo : Nat} {w w1 w' : World} {v : Value} {l : List TM} (hb : Below B w w1) (h : OwnT w1 lo v l) (hg : w1.grownBy w' v.ownBlock) (hB : B ≤ lo) (hB2 : B ≤ w1.heap.size) : Below B w w' :=
  hb.grown hg hB2 (fun k hk => Nat.le_trans hB (h.lt k hk).1)

set_option maxRecDepth 100000 in
theorem append_terms (w : World) {ops : Array Oper} {rest : List Oper} {o : Oper} {a : Act} {Q : Exit → Act → World → Prop} (hgd : o.guard = none) (s x : Operand)
    (ho : o.op = .call { callee := .builtin .append, args := #[s, x], argTypes := #[22, 22] })
    (base : Nat) (v : Value) (l : List TM) (hs : a.eval s = v) (hown : OwnT w base v l)
    (lo up : Nat) (A : Option Addr) (m c : Nat) (m' : List TM) (hx : a.eval x = .slice A m c) (hm : m = m'.length) (hnil : A = none → c = 0) (hr : RowT w lo up A m')
    (hbig : l.length + m'.length ≤ 1000) (hbase : base ≤ w.heap.size)
    (h : ∀ v' w', OwnT w' base v' (l ++ m') → w.grownBy w' v.ownBlock → wpList Tryz.prog ops Q rest (a.put o.dst v') w') : wpList Tryz.prog ops Q (o :: rest) a w := by
  subst hm
  obtain ⟨i, z, hi0, hz0, hzs, hz2, hz3⟩ := infoTerm
  rcases A with _ | ad
  · have h0 : m' = [] := by
      rcases Nat.eq_zero_or_pos m'.length with h0 | h0
      · exact List.eq_nil_of_length_eq_zero h0
      · obtain ⟨b, o, hA, _⟩ := hr h0
        cases hA
    subst h0
    obtain rfl := hnil rfl
    refine wpList_append_own_none hgd s x _ ho base _ i 5 Tryz.underlying22 hi0 v l.length (flatT l) hs hown hx ?_
    exact h v w (by rw [List.append_nil]; exact hown) ⟨rfl, rfl, rfl, Nat.le_refl _, fun _ _ _ => rfl⟩
  · refine wpList_append_own w hgd s x _ ho base _ i z 5 56 Tryz.underlying22 hi0 hz0 hz2 hz3 hzs (by omega) v l.length (flatT l) hs hown ad m'.length c (flatT m') hx (flatT_len m') ?_ (flatT_ones m') (by unfold maxLen; omega) (by omega) hbase ?_
    · intro j u hu
      have h0 : 0 < m'.length := by
        have h1 := (List.getElem?_eq_some_iff.1 hu).1
        rw [flatT_len] at h1
        omega
      obtain ⟨b, o', hA, _, _, hc⟩ := hr h0
      injection hA with hA
      subst hA
      exact RowT.cellsL hc j u hu
    · intro v' w' h1 h2 _
      refine h v' w' ?_ h2
      unfold OwnT
      rw [List.length_append, flatT_append]
      exact h1

/-- One term in a block of its own. -/
theorem row1T (w : World) (a : TM) : RowT (w.alloc (.cells #[.int .i64 a.op, .int .i64 a.v.k, .int .i64 a.v.n, .string a.v.s, .string a.nm] 47)) w.heap.size (w.heap.size + 1) (some ⟨w.heap.size, 0, none⟩) [a] := fun _ => by
  have h := heap_alloc_new w (.cells #[.int .i64 a.op, .int .i64 a.v.k, .int .i64 a.v.n, .string a.v.s, .string a.nm] 47)
  refine ⟨_, 0, rfl, Nat.le_refl _, by omega, fun j hj => ?_⟩
  match j, hj with
  | 0, _ => exact ⟨cell_of_row _ _ 0 _ _ _ h, cell_of_row _ _ 1 _ _ _ h, cell_of_row _ _ 2 _ _ _ h, cell_of_row _ _ 3 _ _ _ h, cell_of_row _ _ 4 _ _ _ h⟩

/-- A nil slice of terms that came in has no room. -/
theorem terms_nil {H : Type} {enc : TypeId × Value → H} {W : World} {fuel : Nat} {A : Option Addr} {n c : Nat} {y : DataW H × List MemPlace} (h : DataW.trod enc Tryz.prog W 0 (fun _ => true) true fuel 22 [.slice A n c] = some y) : A = none → c = 0 := by
  rcases Go.Deep.open_slice Tryz.underlying22 h with ⟨hcs, _⟩ | ⟨a, len, cap, m, k, D, Pl, hcs, _⟩
  · simp only [List.cons.injEq, Value.slice.injEq, and_true] at hcs
    exact fun _ => hcs.2.2
  · simp only [List.cons.injEq, Value.slice.injEq, and_true] at hcs
    intro e
    rw [hcs.1] at e
    cases e
end Go.Proofs.YtidomoibhjgkjaaGreatDoor
