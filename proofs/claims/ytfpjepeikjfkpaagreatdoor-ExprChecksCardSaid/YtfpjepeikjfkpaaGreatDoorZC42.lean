import Derived.Test.YtfpjepeikjfkpaaGreatDoorZC34
import Derived.Test.YtfpjepeikjfkpaaGreatDoorZC41
import Derived.Test.YtfpjepeikjfkpaaGreatDoorZC26
import Derived.LaidMore
import Derived.ProofKit
import Derived.Stop.Joined
import Derived.Lib.LaidTab
import Derived.SizedLaws
import Derived.HandedShaped
import Derived.Test.YtfpjepeikjfkpaaGreatDoorRows
/-
  ExprAgain: what was parsed is right, and printed and parsed again it is the same.
-/
namespace Go.Proofs.YtfpjepeikjfkpaaGreatDoor
open Go.RowKit

theorem own_all : ∀ (l : List TM) (n : Nat), (checkGo n l).1 = 0 → ∀ x ∈ l, ownT x = 0
  | [], _, _ => fun x hx => by cases hx
  | t :: l, n, h => by
    rw [checkGo] at h
    by_cases h1 : ownT t = 0
    · rw [if_neg (by simp [h1])] at h
      by_cases h2 : n < takesT t.op
      · rw [if_pos h2] at h
        cases h
      · rw [if_neg h2] at h
        intro x hx
        rcases List.mem_cons.1 hx with rfl | hx
        · exact h1
        · exact own_all l _ h x hx
    · rw [if_pos h1] at h
      exact absurd h h1
theorem nameOk_le {s : ByteArray} (h : nm.nameOk s = true) : s.size ≤ 16 := by
  unfold nm.nameOk nm.nameL at h
  rw [Bool.and_eq_true, decide_eq_true_eq] at h
  exact h.2
/-- A term that is right by itself has a short name, and a number that is one. -/
theorem own_small {x : TM} (h : ownT x = 0) : x.nm.size ≤ 100 ∧ -9223372036854775808 ≤ x.v.n := by
  obtain ⟨h0, h18, hv, hm⟩ := own_op h
  have hop : ¬ (x.op < 0 ∨ 18 < x.op ∨ (x.op ≠ 0 ∧ x.v ≠ V0) ∨ (x.op ≠ 1 ∧ x.op ≠ 2 ∧ x.nm ≠ mtS)) := by
    intro hh
    unfold ownT at h
    rw [if_pos hh] at h
    cases h
  unfold ownT at h
  rw [if_neg hop] at h
  by_cases e0 : x.op = 0
  · have hn := hm (by omega) (by omega)
    rw [if_pos e0] at h
    by_cases hr : rightV x.v = 0
    · rw [if_neg (by simp [hr])] at h
      by_cases hk : x.v.k = 1 ∧ x.v.n < 0
      · rw [if_pos hk] at h; cases h
      · refine ⟨by rw [hn]; decide, ?_⟩
        rcases right_kind hr with k | k | k
        · have : ¬ x.v.n < 0 := fun hh => hk ⟨k, hh⟩
          omega
        · generalize x.v = v at *
          obtain ⟨vk, vn, vs⟩ := v
          simp only at k
          subst k
          have := right_truth hr
          simp only
          omega
        · have := (right_text hr k).2
          omega
    · rw [if_pos hr] at h; exact absurd h hr
  · have hvn := hv e0
    refine ⟨?_, by rw [hvn]; decide⟩
    rw [if_neg e0] at h
    by_cases h12 : x.op = 1 ∨ x.op = 2
    · rw [if_pos h12] at h
      by_cases hb : nm.nameOk x.nm = false ∨ reservedB x.nm = true
      · rw [if_pos hb] at h; cases h
      · have : nm.nameOk x.nm = true := by
          cases hq : nm.nameOk x.nm
          · exact absurd (.inl hq) hb
          · rfl
        have := nameOk_le this
        omega
    · rw [hm (by omega) (by omega)]
      decide
theorem right_all {l : List TM} (h : checkL l = 0) (hb : BndL l) : ∀ x ∈ l, x.nm.size ≤ 100 ∧ -9223372036854775808 ≤ x.v.n ∧ x.v.n ≤ 9223372036854775807 := by
  have hg := right_one h
  intro x hx
  have h1 := own_small (own_all l 0 (by rw [hg]) x hx)
  exact ⟨h1.1, h1.2, hb x hx⟩
theorem right_len {l : List TM} (h : checkL l = 0) : l.length ≤ 40 := by
  by_cases h40 : 40 < l.length
  · unfold checkL at h
    rw [if_pos h40] at h
    cases h
  · omega

namespace exprAgain
set_option maxRecDepth 100000 in
set_option maxHeartbeats 4000000 in
theorem walk (s : ByteArray) (hs : s.size ≤ 9223372036854775807) (w : World) (hG : GlobE w) :
    Calls Tryz.prog 6 #[.string s] w fun r w' => r = .returned (.bool true) ∧ Below w.heap.size w w' := by
  have HL := Lib.hid (fun wx (hb : Below w.heap.size w wx) => liveE_any wx (hG.below hb))
  have HB0 := Lib.hid (Below.refl w.heap.size w)
  have HG := Lib.hid (fun wx hb => hG.below (w' := wx) hb)
  by_cases h1000 : 1000 < s.size
  · have d1 : decide ((1000 : Int) < (s.size : Int)) = true := by rw [decide_eq_true_iff]; omega
    clear hG h1000
    go_enter Tryz.func6, Tryz.ntmps6
    go_wp2_with (go_at_call 8; (first | (refine (HL.out _ HB0.out).mono ?_; rintro r w1 ⟨rfl, hb1⟩) | (refine (HL.out _ hb1).mono ?_; rintro r w2 ⟨rfl, hb2⟩)))
    go_ret
    exact ⟨rfl, hb1.trans (hb2.mono hb1.size)⟩
  · have d1 : decide ((1000 : Int) < (s.size : Int)) = false := by rw [decide_eq_false_iff_not]; omega
    have HP := Lib.hid (fun wx hb => dParse_any s (by omega) wx (HG.out wx hb))
    cases hX : parseE s.data.toList with
    | inl o =>
      obtain ⟨hc, hbn⟩ := parseE_right hX
      have h40 := right_len hc
      have hall := right_all hc hbn
      rw [hX] at HP
      have HCk := Lib.hid (fun A c wx hr => dCheck_any o A c (fun x hx => by have := (hall x hx).1; omega) (by omega) wx hr)
      rw [hc] at HCk
      have HPt := Lib.hid (fun A c wx hr hb => dPrint_any o A c hall (by omega) wx hr (HG.out wx hb))
      have hpr : printE o = if 128 < (txtE (treeE o)).length then ([], 3) else (txtE (treeE o), 0) := by unfold printE; rw [if_neg (by simp [hc])]
      have HBk := Lib.hid (fun hl => parseE_back hc hbn hl)
      clear hX hG
      go_enter Tryz.func6, Tryz.ntmps6
      go_wp2_with (go_at_call 8; refine (HL.out _ HB0.out).mono ?_; rintro r w1 ⟨rfl, hb1⟩; have HB1 := Lib.hid hb1; clear hb1)
      refine (HP.out _ HB1.out).mono ?_
      rintro r w2 ⟨hb2, A1, c1, rfl, hr1⟩
      have HB2 := Lib.hid (HB1.out.trans (hb2.mono HB1.out.size))
      have HR1 := Lib.hid (hr1.wide (lo' := 0) (Nat.zero_le _) (Nat.le_refl _))
      clear hb2 hr1
      go_wp2_with fail
      refine (HCk.out _ _ _ HR1.out).mono ?_
      rintro r w3 ⟨rfl, hb3⟩
      have HB3 := Lib.hid (HB2.out.trans (hb3.mono HB2.out.size))
      have HR3 := Lib.hid ((HR1.out.below hb3 (Nat.le_refl _)).wide (Nat.le_refl _) hb3.size)
      clear hb3
      go_wp2_with fail
      refine (HPt.out _ _ _ HR3.out HB3.out).mono ?_
      rintro r w4 ⟨rfl, hb4⟩
      have HB4 := Lib.hid (HB3.out.trans (hb4.mono HB3.out.size))
      have HR4 := Lib.hid ((HR3.out.below hb4 (Nat.le_refl _)).wide (Nat.le_refl _) hb4.size)
      clear hb4
      unfold retPrint
      by_cases h128 : 128 < (txtE (treeE o)).length
      · rw [hpr, if_pos h128]
        clear hpr h128
        go_wp2_with fail
        go_ret
        exact ⟨rfl, HB4.out⟩
      · rw [hpr, if_neg h128]
        have hbk := HBk.out (by omega)
        have hsz : (⟨(txtE (treeE o)).toArray⟩ : ByteArray).size ≤ 1000000 := by
          show (txtE (treeE o)).toArray.size ≤ _
          simp; omega
        have HQ := Lib.hid (fun wx hb => dParse_any ⟨(txtE (treeE o)).toArray⟩ hsz wx (HG.out wx hb))
        rw [show (⟨(txtE (treeE o)).toArray⟩ : ByteArray).data.toList = txtE (treeE o) from by simp, hbk] at HQ
        clear hpr hbk HBk h128 hsz
        generalize txtE (treeE o) = tx at *
        go_wp2_with fail
        refine (HQ.out _ HB4.out).mono ?_
        rintro r w5 ⟨hb5, A2, c2, rfl, hr2⟩
        have HB5 := Lib.hid (HB4.out.trans (hb5.mono HB4.out.size))
        have HSm := Lib.hid (sameT_any o o A2 A1 c2 c1 w5 (by omega) (by omega) (hr2.wide (Nat.zero_le _) (Nat.le_refl _)) ((HR4.out.below hb5 (Nat.le_refl _)).wide (Nat.le_refl _) hb5.size))
        rw [show sameT o o = true from by unfold sameT; simp] at HSm
        clear hb5 hr2
        go_wp2_with (go_at_call 16; refine HSm.out.mono ?_; rintro r w6 ⟨rfl, hb6⟩)
        go_ret
        exact ⟨rfl, HB5.out.trans (hb6.mono HB5.out.size)⟩
    | inr ep =>
      obtain ⟨e, p⟩ := ep
      have he := parseE_err hX
      have he1 : (e != 0) = true := by simpa using he
      have he2 : (e == 0) = false := by simpa using he
      rw [hX] at HP
      clear hX hG he
      go_enter Tryz.func6, Tryz.ntmps6
      go_wp2_with (go_at_call 8; refine (HL.out _ HB0.out).mono ?_; rintro r w1 ⟨rfl, hb1⟩; have HB1 := Lib.hid hb1; clear hb1)
      refine (HP.out _ HB1.out).mono ?_
      rintro r w2 ⟨hb2, v1, rfl, hE1⟩
      have HB2 := Lib.hid (HB1.out.trans (hb2.mono HB1.out.size))
      have HC1 := Lib.hid (code_any (placesE p) v1 (End.num e) _ w2 hE1 (.inr (by intro h; cases h)) (Nat.le_refl _) (HG.out w2 HB2.out).g)
      rw [show codeOf (End.num e) = e from rfl] at HC1
      have hv1 : ∃ t u, v1 = .iface t u := by
        cases p with
        | none => exact ⟨_, _, hE1⟩
        | some p =>
          obtain ⟨b, u, hv, _⟩ := hE1
          exact ⟨_, _, hv⟩
      obtain ⟨t1, u1, rfl⟩ := hv1
      clear hb2 hE1
      go_wp2_with (go_at_call 20; refine HC1.out.mono ?_; rintro r w3 ⟨rfl, hb3⟩)
      go_ret
      exact ⟨rfl, HB2.out.trans (hb3.mono HB2.out.size)⟩
end exprAgain
end Go.Proofs.YtfpjepeikjfkpaaGreatDoor

/-
  What the rows' condition on the package-level variables gives the walks of stage 5; and a world that meets it.
-/
namespace Go.Proofs.YtfpjepeikjfkpaaGreatDoor
open Go.RowKit

theorem ownKnob_none : ownKnob Tryz.prog.godebug = none := by kernel_rfl
theorem laidOut_all : laidOutB Tryz.prog = true := by kernel_rfl

/-- The door's own heap meets the condition. -/
theorem door_met (os : Os) (args : Array Value) : laidMetH Tryz.prog Rows.exprBlanksRow.laid ((World.doorLaid Tryz.prog 200 os).forCall (fun _ _ => 0) ⟨#[], args, []⟩).memory :=
  laidMetH_of_parts3 (fuel := 8) (laidMet_of_run' 8 (by kernel_rfl) (by kernel_rfl)) (by kernel_rfl) (by kernel_rfl)

theorem gEt : Tryz.prog.globalNamed "errors.errorType" = some 1 := by kernel_rfl
theorem oneError : ((List.range Tryz.prog.types.size).filter fun t => Tryz.prog.rowNamed t [101, 114, 114, 111, 114]) = [34] := by kernel_rfl
theorem handleError : typeHandle Tryz.prog 34 = .pointer (some ⟨8, 34, none⟩) := by kernel_rfl

/-- An array of texts that reads as laid holds these texts. -/
theorem cells_of_texts {H : Type} {enc : TypeId × Value → H} {P : Program} {w : World} {base : Nat} {sp : Nat → Bool} {held : Bool} {fuel : Nat} {t e : TypeId} {n : Nat} {cs : List Value} {zs : List (List UInt8)} {p : List MemPlace}
    (ht : P.underlying t = some (.array n e)) (he : P.underlying e = some .string) (hce : P.cellsOf e = 1) (hct : P.cellsOf t = n)
    (h : DataW.trod enc P w base sp held fuel t cs = some (.agg (zs.map fun z => .lit (.string z)), p)) : cs = zs.map fun z => Value.string ⟨z.toArray⟩ := by
  cases fuel with
  | zero => simp [DataW.trod] at h
  | succ fuel =>
    simp only [DataW.trod, ht, hce, hct, Nat.mul_one] at h
    split at h
    · rename_i hl
      obtain ⟨xs, hm, hx⟩ := Option.map_eq_some_iff.1 h
      have hxs : xs.map (·.1) = zs.map fun z => (DataW.lit (.string z) : DataW H) := by
        have := congrArg Prod.fst hx
        simpa using this
      have hxl : xs.length = n := by simpa using Lib.mapM_length hm
      have hzl : zs.length = n := by
        have := congrArg List.length hxs
        simp at this
        omega
      apply List.ext_getElem?
      intro i
      by_cases hi : i < n
      · obtain ⟨b, hb, hf⟩ := Lib.mapM_at hm i i (by simp [hi])
        obtain ⟨z, hc, rfl, _⟩ := DataW.trod_string he hf
        have h1 : cs[i]? = some (.string z) := by
          have := congrArg (·[0]?) hc
          simpa [List.getElem?_take, List.getElem?_drop] using this
        have h2 : (xs.map (·.1))[i]? = some (DataW.lit (.string z.data.toList) : DataW H) := by simp [hb]
        rw [hxs] at h2
        simp only [List.getElem?_map, Option.map_eq_some_iff, DataW.lit.injEq, Lit.string.injEq] at h2
        obtain ⟨z', hz', rfl⟩ := h2
        simp [h1, hz']
      · rw [List.getElem?_eq_none (by omega), List.getElem?_eq_none (by simp; omega)]
    · cases h

/-- What reads as an error that is there holds one. -/
theorem iface_of_trod {H : Type} {enc : TypeId × Value → H} {P : Program} {w : World} {base : Nat} {sp : Nat → Bool} {held : Bool} {fuel : Nat} {t : TypeId} {cs : List Value} {n : String} {d : DataW H} {p : List MemPlace}
    (ht : ∃ ms, P.underlying t = some (.interface ms)) (h : DataW.trod enc P w base sp held fuel t cs = some (.iface n d, p)) : ∃ u v, cs = [.iface u v] := by
  obtain ⟨ms, ht⟩ := ht
  cases fuel with
  | zero => simp [DataW.trod] at h
  | succ fuel =>
    unfold DataW.trod at h
    rw [ht] at h
    split at h <;> simp_all

def signTexts : List (List UInt8) := [[], [], [], [45], [33], [], [42], [47], [37], [43], [45], [60], [60, 61], [62], [62, 61], [61, 61], [33, 61], [38, 38], [124, 124]]

theorem globE_of_laid {W : World} (h : laidMetH Tryz.prog Rows.exprBlanksRow.laid W) (hbig : 8 ≤ W.heap.size) : GlobE W := by
  have h' : laidMet Tryz.prog [(_, Rows.laid_math_bits_deBruijn32tab), (_, Rows.laid_math_bits_deBruijn64tab), (_, Rows.laid_internal_strconv_uint64pow10), (_, Rows.laid_strconv_ErrRange), (_, Rows.laid_strconv_ErrSyntax), (_, Rows.laid_conductor_expr_signs)] W ∧ handlesMet Tryz.prog [(_, Rows.laid_errors_errorType)] W := h
  obtain ⟨⟨ps, ⟨g0, t0, cs0, f0, p0, q0, hg0, ht0, hv0, hd0, ⟨g1, t1, cs1, f1, p1, q1, hg1, ht1, hv1, hd1, ⟨g2, t2, cs2, f2, p2, q2, hg2, ht2, hv2, hd2, ⟨g3, t3, cs3, f3, p3, q3, hg3, ht3, hv3, hd3, ⟨g4, t4, cs4, f4, p4, q4, hg4, ht4, hv4, hd4, ⟨g5, t5, cs5, f5, p5, q5, hg5, ht5, hv5, hd5, _, _⟩, _⟩, _⟩, _⟩, _⟩, _⟩, _⟩, hh⟩ := h'
  obtain ⟨name, u, ty, e1, e2, e3, e4, e5⟩ := hh _ (List.mem_singleton.2 rfl)
  have en : name = [101, 114, 114, 111, 114] := (Option.some.inj e1).symm
  subst en
  obtain rfl : u = 136 := Option.some.inj (e2.symm.trans (by kernel_rfl))
  have hm : ty ∈ (List.range Tryz.prog.types.size).filter fun t => Tryz.prog.rowNamed t [101, 114, 114, 111, 114] := List.mem_filter.2 ⟨List.mem_range.2 e3, e4⟩
  rw [oneError] at hm
  obtain rfl := List.mem_singleton.1 hm
  rw [handleError] at e5
  obtain rfl : g2 = 2 := Option.some.inj (hg2.symm.trans (by kernel_rfl))
  obtain rfl : g3 = 4 := Option.some.inj (hg3.symm.trans (by kernel_rfl))
  obtain rfl : g5 = 0 := Option.some.inj (hg5.symm.trans (by kernel_rfl))
  obtain rfl := Option.some.inj ((show (Tryz.prog.globals[2]?).map (·.type) = some 175 by kernel_rfl).symm.trans ht2)
  obtain rfl := Option.some.inj ((show (Tryz.prog.globals[4]?).map (·.type) = some 34 by kernel_rfl).symm.trans ht3)
  obtain rfl := Option.some.inj ((show (Tryz.prog.globals[0]?).map (·.type) = some 82 by kernel_rfl).symm.trans ht5)
  have hcs := Lib.cells_of_tab (k := .u64) (zs := Lib.pow10Tab) Tryz.underlying175 Tryz.underlying126 (by kernel_rfl) (by kernel_rfl) hd2
  obtain ⟨ui, vi, hci⟩ := iface_of_trod ⟨_, Tryz.underlying34⟩ hd3
  have hcx := cells_of_texts (zs := signTexts) Tryz.underlying82 Tryz.underlying9 (by kernel_rfl) (by kernel_rfl) hd5
  refine ⟨⟨?_, ?_, hbig⟩, ⟨ui, vi, ?_⟩, ?_⟩
  · simpa using World.var?_cell gEt e5 0
  · unfold World.var? at hv2
    rw [hg2, Option.bind_some] at hv2
    split at hv2
    · next cs t fz hw =>
      obtain rfl := Option.some.inj hv2
      refine ⟨t, fz, hw.trans ?_⟩
      rw [← hcs]
    · cases hv2
  · have h3 := World.var?_cell hg3 hv3 0
    rw [← Array.getElem?_toList, hci] at h3
    simpa using h3
  · unfold World.var? at hv5
    rw [hg5, Option.bind_some] at hv5
    split at hv5
    · next cs t fz hw =>
      obtain rfl := Option.some.inj hv5
      refine ⟨t, fz, hw.trans ?_⟩
      have hcx' : cs = (signTexts.map fun z => Value.string ⟨z.toArray⟩).toArray := by rw [← hcx]
      rw [hcx']
      rfl
    · cases hv5

/-- A world of the program's shape has all its package-level variables. -/
theorem big_of_shaped {W : World} (h : W.ShapedOpen Tryz.prog) : 8 ≤ W.heap.size := by
  obtain ⟨o, _, ho, _⟩ := h.2 8 (of_decide_eq_true (by kernel_rfl)) (of_decide_eq_true (by kernel_rfl))
  have := (Array.getElem?_eq_some_iff.1 ho).1
  omega

/-- A byte is a number below 256. -/
theorem u8_nat {z : Int} (h : (Lit.int .u8 z).wf = true) : ∃ n : Nat, z = (n : Int) ∧ n ≤ 255 := by
  simp [Lit.wf, IntKind.min, IntKind.max, IntKind.bits, IntKind.signed] at h
  exact ⟨z.toNat, by omega, by omega⟩

section
variable {H : Type} {enc : TypeId × Value → H}
set_option maxRecDepth 100000 in
/-- The wrap of a row with a condition X on its first world, that hands on the number of that world's blocks too. -/
theorem returnsE {a : Assume} {os : Os} {f : FuncId} {fn : Func} {s : ChangeSpec} {conds : List PathCond} {apart fresh handsOn again : Bool} {X : World → Array Value → Prop}
    (hX : ∀ (w w' : World) (args : Array Value), w.heap = w'.heap → X w args → X w' args)
    (started : os.Started) (noInit : Tryz.prog.inits.idxOf? f = none) (hfn : Tryz.prog.funcs[f]? = some fn)
    (witness : ∃ (w : World) (tape : Tape) (i : Input), w.os = os ∧ (w.forCall tape i).Shaped Tryz.prog ∧ i.vars = [] ∧ Input.okWide Tryz.prog (w.forCall tape i) .any w.heap.size f i ∧
      ((s.pre enc Tryz.prog fn conds apart (w.forCall tape i).memory i.args ∧ X (w.forCall tape i).memory i.args) ∧ sizedMet enc Tryz.prog fn (OpenSpec.ofChange s) apart (w.forCall tape i).memory i.args) ∧ a.holds Tryz.prog (lone (Frame.enter Tryz.prog f i.args .normal) [] (w.forCall tape i)))
    (contract : ∀ (W : World) (base : Nat) (args : Array Value) (ds gs : List (DataW H)) (before : List MemPlace),
      (∀ (j : Nat) t v, fn.params[j]? = some t → args[j]? = some v → Value.okWide Tryz.prog W .any base t v) →
      DataW.Whole enc Tryz.prog fn.params.toList s.vars apart W args.toList ds gs before → 8 ≤ W.heap.size →
      (DataW.weightsEach Tryz.prog (fn.params.toList ++ s.plain.varTypes Tryz.prog) (ds ++ gs)).all (· ≤ reachBytes) = true → X W args →
      a.holds Tryz.prog (lone (Frame.enter Tryz.prog f args .normal) [] W) →
      Calls Tryz.prog f args W fun e W' => ∃ v, e = .returned v ∧ s.post enc Tryz.prog fn apart fresh handsOn again W args v W') :
    ReturnsInHanded a Tryz.checked os f .any (fun w args => (s.pre enc Tryz.prog fn conds apart w args ∧ X w args) ∧ sizedMet enc Tryz.prog fn (OpenSpec.ofChange s) apart w args) (s.post enc Tryz.prog fn apart fresh handsOn again) := by
  refine returnsInHanded_of_calls (C := Tryz.checked) ownKnob_none started noInit witness ?_
  intro w tape i _ hsh _ hok hpre hholds
  have hbig := big_of_shaped hsh
  obtain ⟨_, _, _, fn', hfn', _, _, _, _, hval⟩ := hok
  have e : fn' = fn := Option.some.inj (hfn'.symm.trans hfn)
  subst e
  obtain ⟨⟨⟨ds, gs, before, hw, _⟩, hx⟩, hz⟩ := hpre
  have hw' := DataW.Whole.of_heap (w' := w.forCall tape i) (by rfl) hw
  refine (contract (w.forCall tape i) w.heap.size i.args ds gs before hval hw' hbig (hz.weights hw) (hX _ _ _ (by rfl) hx) hholds).mono fun e W' ⟨v, he, hp⟩ => ?_
  subst he
  exact ChangeSpec.post_blind hp
end
end Go.Proofs.YtfpjepeikjfkpaaGreatDoor
