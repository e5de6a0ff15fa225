import Derived.Test.YtidomoibhjgkjaaGreatDoorZC23
import Derived.Test.YtidomoibhjgkjaaGreatDoorZC33
import Derived.Test.YtidomoibhjgkjaaGreatDoorZC15
import Derived.Deep.LoopGhost
import Derived.Lib.SliceRun
import Derived.Lib.MinMax
import Derived.Laws.EntriesVeiled
/-
  Package eval: a clone of terms; what terms come to, asked through a function.
-/
namespace Go.Proofs.YtidomoibhjgkjaaGreatDoor
open Go.RowKit

theorem RowT.cellsL {w : World} {b o : Nat} {l : List TM} (h : ∀ j (hj : j < l.length), TermAt w b (o + j * 5) (l[j]'hj)) : ∀ j v, (flatT l)[j]? = some v → w.cell? ((⟨b, o, none⟩ : Addr).add j) = some v := by
  intro i v hv
  have hl := flatT_len l
  have hi : i < l.length * 5 := by
    have := (List.getElem?_eq_some_iff.1 hv).1
    omega
  have hj : i / 5 < l.length := by omega
  obtain ⟨h0, h1, h2, h3, h4⟩ := flatT_at l (i / 5) hj
  obtain ⟨c0, c1, c2, c3, c4⟩ := h (i / 5) hj
  have add : (⟨b, o, none⟩ : Addr).add i = ⟨b, o + i, none⟩ := by
    unfold Addr.add
    split <;> simp_all
  rw [add]
  have hm : i % 5 = 0 ∨ i % 5 = 1 ∨ i % 5 = 2 ∨ i % 5 = 3 ∨ i % 5 = 4 := by omega
  rcases hm with hm | hm | hm | hm | hm
  · have e : i = i / 5 * 5 := by omega
    rw [e] at hv
    rw [e, c0, ← h0, hv]
  · have e : i = i / 5 * 5 + 1 := by omega
    rw [e] at hv
    rw [e, ← Nat.add_assoc, c1, ← h1, hv]
  · have e : i = i / 5 * 5 + 2 := by omega
    rw [e] at hv
    rw [e, ← Nat.add_assoc, c2, ← h2, hv]
  · have e : i = i / 5 * 5 + 3 := by omega
    rw [e] at hv
    rw [e, ← Nat.add_assoc, c3, ← h3, hv]
  · have e : i = i / 5 * 5 + 4 := by omega
    rw [e] at hv
    rw [e, ← Nat.add_assoc, c4, ← h4, hv]
theorem flatT_ones (l : List TM) : ∀ v ∈ flatT l, v.oneCell' = true := by
  intro v hv
  unfold flatT at hv
  obtain ⟨x, _, hx⟩ := List.mem_flatMap.1 hv
  exact cellsT_one x v hx

set_option maxRecDepth 100000 in
set_option maxHeartbeats 2000000 in
theorem cloneT_any (l : List TM) (b o c lo hi : Nat) (w : World) (h0 : 0 < l.length) (hl : l.length ≤ 1000) (hr : RowT w lo hi (some ⟨b, o, none⟩) l) (hhi : hi ≤ w.heap.size) :
    Calls Tryz.prog 51 #[.slice (some ⟨b, o, none⟩) l.length c] w fun e w' => ∃ g cap, e = .returned (.slice (some ⟨g, 0, none⟩) l.length cap) ∧ RowT w' w.heap.size w'.heap.size (some ⟨g, 0, none⟩) l ∧ Below w.heap.size w w' := by
  obtain ⟨i, z, hi0, hz0, hzs, hz2, hz3⟩ := infoTerm
  have HC : Hid (∀ j v, (flatT l)[j]? = some v → w.cell? ((⟨b, o, none⟩ : Addr).add j) = some v) := Lib.hid (by
    obtain ⟨b', o', e, _, _, hc⟩ := hr h0
    injection e with e
    injection e with e1 e2
    subst e1 e2
    exact RowT.cellsL hc)
  have HL : Hid ((flatT l).length = l.length * 5) := Lib.hid (flatT_len l)
  have H1 := Lib.hid (flatT_ones l)
  have q22 : ∀ (w : World) (a : Option Addr) (n c n' c' : Nat), (binOp .eql 22 (.slice a n c) (.slice none n' c')).run Tryz.prog w = .ok (.bool a.isNone) w := fun w a n c n' c' => Lib.run_eql_slice_nil w _ _ a n c n' c' Tryz.underlying22
  clear hr
  go_enter Tryz.func51, Tryz.ntmps51
  go_wp2_with (at_builtin; refine wpList_append_own _ rfl _ _ 22 rfl w.heap.size 47 i z 5 56 Tryz.underlying22 hi0 hz0 hz2 hz3 hzs (by omega) _ _ _ rfl (World.ownsRow_made w #[] 0 (Nat.le_refl _) (Nat.zero_le _) (by simp)) ⟨b, o, none⟩ l.length c (flatT l) rfl ?qc1 ?qc2 ?qc3 ?qc4 ?qc5 ?qc6 ?_)
  case qc1 => exact HL.out
  case qc2 =>
    intro j u hj
    exact Lib.cell?_alloc_some _ (HC.out j u hj)
  case qc3 => exact H1.out
  case qc4 => unfold maxLen; omega
  case qc5 => omega
  case qc6 => simp
  intro v' w1 hown hgrow hnil
  have hb1 : Below w.heap.size w w1 := ((Below.refl _ w).alloc (Nat.le_refl _) _).grown hgrow (by simp) (by intro k hk; simp [Value.ownBlock] at hk; omega)
  have HO := Lib.hid hown
  clear hown hgrow hnil
  go_wp2
  go_ret
  rcases HO.out.2 with ⟨_, hn⟩ | ⟨g, cap, cur, rfl, hg, hh, hcap, hm, hcs, htk⟩
  · omega
  · have hT : OwnT w1 w.heap.size (.slice (some ⟨g, 0, none⟩) l.length cap) l := by
      refine ⟨flatT_len l, .inr ⟨g, cap, cur, rfl, hg, hh, hcap, hm, hcs, ?_⟩⟩
      rw [← htk]
    exact ⟨g, cap, rfl, hT.reads, hb1⟩

/-! ### Eval -/
/-- What Eval gives. -/
def RetEv (x : V × Nat × Option Er) (w : World) (r : Ending) (w' : World) : Prop :=
  ∃ k n s u, r = .returned (.tuple #[.agg #[.int .i64 k, .int .i64 n, .string s], .int .i64 (x.2.1 : Int), u]) ∧ x.1 = ⟨k, n, s⟩ ∧ Below w.heap.size w w' ∧ ErrO w' x.2.2 u
theorem runH_cons (ask : Asks) (t : TM) (l : List TM) (st : List V) (f : Nat) : runH ask (t :: l) st (f + 1) = match stepH ask t st with | .inl st' => runH ask l st' f | .inr e => (.inr e, leftH e.1 f) := rfl
theorem maxZero (f : Int) : max f 0 = (f.toNat : Int) := by omega

set_option maxRecDepth 100000 in
set_option maxHeartbeats 8000000 in
theorem gEval_any (l : List TM) (A : Option Addr) (c gf : Nat) (caps : Array Value) (ask : Asks) (N : ByteArray → Prop) (fuel : Int) (w : World) (hl : l.length ≤ 1000) (hnm : ∀ t ∈ l, t.nm.size ≤ 5000 ∧ okV t.v) (hr : RowT w 0 w.heap.size A l)
    (hA : AskC gf caps ask N w.heap.size w) (hN : ∀ t ∈ l, t.op = 1 ∨ t.op = 2 → N t.nm) (hf : fuel ≤ 9223372036854775807) (hf0 : -9223372036854775808 ≤ fuel) (hG : GlobW w) :
    Calls Tryz.prog 21 #[.slice A l.length c, .func (.func gf) #[] caps, .int .i64 fuel] w (RetEv (ofH ask l fuel.toNat) w) := by
  have hX0 := Boxed.new w 0 0 ⟨#[]⟩
  have hB0 := box_below w #[.int .i64 0, .int .i64 0, .string ⟨#[]⟩] 27
  have HCk := Lib.hid (dCheck_any l A c (fun x hx => (hnm x hx).1) (by omega) _ (hr.below hB0 (Nat.le_refl _) |>.wide (Nat.le_refl _) hB0.size))
  have hmx : max fuel 0 = (fuel.toNat : Int) := maxZero fuel
  have hfn : fuel.toNat ≤ 9223372036854775807 := by omega
  obtain ⟨F, hF⟩ : ∃ F, fuel.toNat = F := ⟨_, rfl⟩
  rw [hF] at hmx hfn ⊢
  by_cases hck : checkL l = 0
  · have hgo := right_go hck
    have h40 : l.length ≤ 40 := by
      by_cases h : l.length ≤ 40
      · exact h
      · unfold checkL at hck; rw [if_pos (by omega)] at hck; cases hck
    have h0l : 0 < l.length := by
      cases l with
      | nil => cases hgo
      | cons t l => simp
    obtain ⟨ab, ao, rfl, _, _, _⟩ := hr h0l
    obtain ⟨R, hR⟩ : ∃ R : Ending → World → Prop, RetEv (ofH ask l F) w = R := ⟨_, rfl⟩
    rw [hR]
    have HEnd1 : Hid (∀ k n s f w', runH ask l [] F = (.inl [⟨k, n, s⟩], f) → Below w.heap.size w w' → R (.returned (.tuple #[.agg #[.int .i64 k, .int .i64 n, .string s], .int .i64 (f : Int), .nilIface])) w') := Lib.hid (fun k n s f w' h hb => by
      rw [← hR]
      unfold ofH
      rw [if_neg (by simp [hck]), h]
      exact ⟨k, n, s, _, rfl, rfl, hb, rfl⟩)
    have HEnd2 : Hid (∀ e f w' u, runH ask l [] F = (.inr e, f) → Below w.heap.size w w' → ErrO w' (some e) u → R (.returned (.tuple #[.agg #[.int .i64 0, .int .i64 0, .string ⟨#[]⟩], .int .i64 (f : Int), u])) w') := Lib.hid (fun e f w' u h hb hu => by
      rw [← hR]
      unfold ofH
      rw [if_neg (by simp [hck]), h]
      exact ⟨0, 0, ⟨#[]⟩, _, rfl, rfl, hb, hu⟩)
    rw [hck] at HCk
    have HX0 := Lib.hid hX0
    have HB0 := Lib.hid hB0
    have HR0 := Lib.hid hr
    have HGO := Lib.hid hgo
    have HA := Lib.hid hA
    have HN := Lib.hid hN
    have HG := Lib.hid hG
    have HNM := Lib.hid hnm
    clear hR hck hX0 hB0 hnm hr hA hN hG hF hgo
    go_enter Tryz.func21, Tryz.ntmps21
    go_wp2_with fail
    refine HCk.out.mono ?_
    rintro r w1 ⟨rfl, hb1⟩
    dsimp only
    -- the run
    have hx1 := HX0.out.below hb1
    have hB1 := HB0.out.trans (hb1.mono HB0.out.size)
    obtain ⟨gv, hgv⟩ : ∃ gv : Value, .func (.func gf) #[] caps = gv := ⟨_, rfl⟩
    have hc2 : RunC (w1.alloc (.cells #[.func (.func gf) #[] caps, .slice none 0 0] 91)) w1.heap.size gv (.slice none 0 0) := by rw [← hgv]; exact heap_alloc_new w1 _
    have hb2 := box_below w1 #[.func (.func gf) #[] caps, .slice none 0 0] 91
    have hs2 := lt_alloc w1 (.cells #[.func (.func gf) #[] caps, .slice none 0 0] 91)
    have hx2 := hx1.below hb2
    have hB2 := hB1.trans (hb2.mono hB1.size)
    have hsb : w.heap.size < w1.heap.size := hx1.lt
    obtain ⟨w2, hw2⟩ : ∃ y, w1.alloc (.cells #[.func (.func gf) #[] caps, .slice none 0 0] 91) = y := ⟨_, rfl⟩
    rw [hw2] at hc2 hs2 hx2 hB2
    obtain ⟨b, hb⟩ : ∃ y, w1.heap.size = y := ⟨_, rfl⟩
    rw [hb] at hc2 hs2 hsb
    have HCl := Lib.hid (cloneT_any l ab ao c 0 w.heap.size w2 h0l (by omega) (HR0.out.below hB2 (Nat.le_refl _)) hB2.size)
    have HW2 := Lib.hid hw2
    have HBb := Lib.hid hb
    have HGV := Lib.hid hgv
    have HC2 := Lib.hid hc2
    have HX2 := Lib.hid hx2
    have HB2 := Lib.hid hB2
    clear HX0 HB0 HCk hb1 hx1 hB1 hc2 hb2 hx2 hB2 hw2 hb hgv HR0
    go_upto_region 6 with fail
    rw [HW2.out, HBb.out]
    go_wp2_with fail
    refine HCl.out.mono ?_
    rintro r w3 ⟨g, cap, rfl, hrow, hb3⟩
    dsimp only
    have hm3 : RunM w3 b w3.heap.size gv [] := ⟨⟨none, 0, HC2.out.keep (hb3.block _ HC2.out.lt), OwnV.nil _ _⟩, Nat.lt_of_lt_of_le hs2 hb3.size, Nat.le_refl _⟩
    have HX3 := Lib.hid (HX2.out.below hb3)
    have HB3 := Lib.hid (HB2.out.trans (hb3.mono HB2.out.size))
    have HR3 := Lib.hid hrow
    have HM3 := Lib.hid hm3
    obtain ⟨lo, hlo⟩ : ∃ lo, w3.heap.size = lo := ⟨_, rfl⟩
    have hblo : b < lo := by rw [← hlo]; exact hm3.lo1
    rw [hlo] at HM3
    have HLO := Lib.hid hlo
    clear HX2 HB2 HC2 HCl HW2 HBb hrow hb3 hm3 hlo
    go_wp2_with fail
    go_loopg [9, 13, 14, 30] l.length (fun q lf _ _ i wr => ∃ j st f, j + q = l.length ∧ i = .int .i64 (j : Nat) ∧ lf = .int .i64 (f : Nat) ∧ f ≤ F ∧ RunM wr b lo gv st ∧ Foot b lo w3 wr ∧ runH ask l [] F = runH ask (l.drop j) st f ∧ checkGo st.length (l.drop j) = (0, 1) ∧ (∀ v ∈ st, okV v) ∧ st.length ≤ j)
    case atStart => exact ⟨0, [], F, by omega, rfl, rfl, Nat.le_refl _, HM3.out, Foot.refl _ _ _, rfl, HGO.out, by simp, Nat.le_refl _⟩
    case round =>
      obtain ⟨j, st, f, hk, rfl, rfl, hfF, hm, hft, hrun, hchk, hok, hsj⟩ := hrel
      have hbw : Below w.heap.size w wr := HB3.out.trans (hft.below (by omega) (by have := HB3.out.size; have := HLO.out; omega))
      have HBW := Lib.hid hbw
      have HK := Lib.hid hk
      have HM := Lib.hid hm
      have HFT := Lib.hid hft
      have HRUN := Lib.hid hrun
      clear hk hm hft hrun hbw
      by_cases hj : j < l.length
      · have hlt : decide ((j : Int) < (l.length : Int)) = true := by simpa using hj
        have hlt2 : decide (j < l.length) = true := by simpa using hj
        obtain ⟨gb, go, eg, hg1, hg2, hrw⟩ := HR3.out h0l
        injection eg with eg
        injection eg with eg1 eg2
        subst eg1 eg2
        have hta := hrw j hj
        rw [Nat.zero_add] at hta
        have hgb : g ≠ b := by omega
        have hglo : g < lo := by have := HLO.out; omega
        have cel : ∀ o, wr.cell? ⟨g, o, none⟩ = w3.cell? ⟨g, o, none⟩ := fun o => HFT.out.cell hglo hgb
        obtain ⟨c0, c1, c2, c3, c4⟩ := hta
        rw [← cel] at c0 c1 c2 c3 c4
        clear cel
        have hmem := List.getElem_mem hj
        have hnm' := HNM.out _ hmem
        have hNt := HN.out _ hmem
        rw [List.drop_eq_getElem_cons hj] at hchk
        have HDR := Lib.hid (List.drop_eq_getElem_cons hj)
        generalize l[j] = t at *
        rw [checkGo] at hchk
        have h1 : ownT t = 0 := by
          by_cases h1 : ownT t = 0
          · exact h1
          · rw [if_pos h1] at hchk; exact absurd (Prod.mk.inj hchk).1 h1
        rw [if_neg (by simp [h1])] at hchk
        have h2 : takesT t.op ≤ st.length := by
          by_cases h2 : st.length < takesT t.op
          · rw [if_pos h2] at hchk; cases hchk
          · omega
        rw [if_neg (by omega)] at hchk
        have hma := HM.out.alloc (.cells #[.int .i64 t.op, .int .i64 t.v.k, .int .i64 t.v.n, .string t.v.s, .string t.nm] 47)
        have hba := HBW.out.alloc HBW.out.size (.cells #[.int .i64 t.op, .int .i64 t.v.k, .int .i64 t.v.n, .string t.v.s, .string t.nm] 47)
        have hfa := HFT.out.alloc (by have := HM.out.lo2; exact this) (.cells #[.int .i64 t.op, .int .i64 t.v.k, .int .i64 t.v.n, .string t.v.s, .string t.nm] 47)
        rw [← HGV.out] at hma
        have HSt := Lib.hid (gStep_any b lo gf caps ask N w.heap.size w t h1 st h2 hok (by omega) (f : Int) _ hma HA.out hNt hba hba.size)
        have HOK := Lib.hid (fun st' (h : stepH ask t st = .inl st') => okV_step hnm'.2 hok (fun h1 v hv => HA.out.ok t.nm v (hNt (.inl h1)) hv) h)
        have HLEN := Lib.hid (fun st' (h : stepH ask t st = .inl st') => stepH_len h2 h)
        have HFA := Lib.hid hfa
        by_cases hf0 : f = 0
        · subst hf0
          rw [if_pos (by decide)] at HSt
          have hrun' := HRUN.out
          rw [HDR.out] at hrun'
          have HR2 : Hid (runH ask l [] F = (.inr (numE 60 []), 0)) := Lib.hid hrun'
          clear hrun' hma hba hfa hok hchk hnm' hNt
          go_wp2_with fail
          refine HSt.out.mono ?_
          rintro r w5 ⟨u, rfl, hf5, hu5⟩
          dsimp only
          have hu5 : ErrO w5 (some (numE 60 [])) u := hu5
          have HF5 := Lib.hid (HFA.out.trans hf5)
          have HB5 := Lib.hid (HB3.out.trans (HF5.out.below (by omega) (by have := HB3.out.size; have := HLO.out; omega)))
          have HU5 := Lib.hid hu5
          have HG5 := Lib.hid (HG.out.below HB5.out HG.out.big)
          have hx5 : Boxed w5 w.heap.size V0 := (HF5.out.block _ (by have := HX3.out.lt; have := HLO.out; omega) (by omega)).trans HX3.out
          have HX5 := Lib.hid hx5
          have HCo : Hid (Calls Tryz.prog 13 #[u] w5 fun r w' => r = .returned (.int .i64 (60)) ∧ Below w5.heap.size w5 w') := Lib.hid (codeO_any _ u w5 hu5 HG5.out)
          obtain ⟨T, y, rfl⟩ := hu5.iface
          clear hf5 hu5 HSt hx5
          go_wp2_with fail
          refine HCo.out.mono ?_
          rintro r w6 ⟨rfl, hb6⟩
          dsimp only
          have hx6 := HX5.out.below hb6
          obtain ⟨r0, r1, r2⟩ := hx6.cells
          have f0 := hx6.frozen 0
          have f1 := hx6.frozen 1
          have f2 := hx6.frozen 2
          obtain ⟨t0, t1, t2⟩ := (hx6.set3' 0 0 ⟨#[]⟩).cells
          have HP := Lib.hid (Below.set3' (HB5.out.trans (hb6.mono HB5.out.size)) (Nat.le_refl _) (.int .i64 0) (.int .i64 0) (.string ⟨#[]⟩))
          have HQ := Lib.hid (ErrO.put3 (y0 := .int .i64 0) (y1 := .int .i64 0) (y2 := .string ⟨#[]⟩) hx6.three (HU5.out.below hb6))
          clear hb6 hx6 HX5 HU5 HCo
          go_wp2_with (go_at_call 53; refine (Is_lib _ _ _).mono ?_; rintro r w7 ⟨rfl, rfl⟩)
          refine bodyPost_ret (v := .tuple #[.agg #[.int .i64 0, .int .i64 0, .string ⟨#[]⟩], .int .i64 (((0 : Nat) : Int)), .iface T y]) (by simp [results, Tryz.results21, go_sem, t0, t1, t2]) rfl ?_
          exact HEnd2.out _ _ _ _ HR2.out HP.out HQ.out
        · obtain ⟨m, rfl⟩ : ∃ m, f = m + 1 := ⟨f - 1, by omega⟩
          have q1 : ((m + 1 : Nat) : Int) - 1 = (m : Int) := by omega
          rw [if_neg (by omega)] at HSt
          have hrun' := HRUN.out
          rw [HDR.out, runH_cons] at hrun'
          obtain ⟨X, hX⟩ : ∃ X, stepH ask t st = X := ⟨_, rfl⟩
          rw [hX] at HSt HOK HLEN hrun'
          have HCHK := Lib.hid hchk
          have HMF := Lib.hid hfF
          clear hma hba hfa hok hchk hnm' hNt hX hf0 hfF
          cases X with
          | inr e =>
            obtain ⟨e, ps⟩ := e
            by_cases h60 : codeOf e = 60
            · have HR2 : Hid (runH ask l [] F = (.inr (e, ps), m + 1)) := Lib.hid (by
                rw [hrun']
                show ((Sum.inr (e, ps), leftH e m) : (List V ⊕ Er) × Nat) = _
                rw [leftH, if_pos h60])
              have d60 : ((codeOf e) == 60) = true := by rw [beq_iff_eq]; exact h60
              clear hrun' h60
              go_wp2_with fail
              refine HSt.out.mono ?_
              rintro r w5 ⟨u, rfl, hf5, hu5⟩
              dsimp only
              have hu5 : ErrO w5 (some ((e, ps))) u := hu5
              have HF5 := Lib.hid (HFA.out.trans hf5)
              have HB5 := Lib.hid (HB3.out.trans (HF5.out.below (by omega) (by have := HB3.out.size; have := HLO.out; omega)))
              have HU5 := Lib.hid hu5
              have HG5 := Lib.hid (HG.out.below HB5.out HG.out.big)
              have hx5 : Boxed w5 w.heap.size V0 := (HF5.out.block _ (by have := HX3.out.lt; have := HLO.out; omega) (by omega)).trans HX3.out
              have HX5 := Lib.hid hx5
              have HCo : Hid (Calls Tryz.prog 13 #[u] w5 fun r w' => r = .returned (.int .i64 (codeOf e)) ∧ Below w5.heap.size w5 w') := Lib.hid (codeO_any _ u w5 hu5 HG5.out)
              obtain ⟨T, y, rfl⟩ := hu5.iface
              clear hf5 hu5 HSt hx5
              go_wp2_with fail
              refine HCo.out.mono ?_
              rintro r w6 ⟨rfl, hb6⟩
              dsimp only
              have hx6 := HX5.out.below hb6
              obtain ⟨r0, r1, r2⟩ := hx6.cells
              have f0 := hx6.frozen 0
              have f1 := hx6.frozen 1
              have f2 := hx6.frozen 2
              obtain ⟨t0, t1, t2⟩ := (hx6.set3' 0 0 ⟨#[]⟩).cells
              have HP := Lib.hid (Below.set3' (HB5.out.trans (hb6.mono HB5.out.size)) (Nat.le_refl _) (.int .i64 0) (.int .i64 0) (.string ⟨#[]⟩))
              have HQ := Lib.hid (ErrO.put3 (y0 := .int .i64 0) (y1 := .int .i64 0) (y2 := .string ⟨#[]⟩) hx6.three (HU5.out.below hb6))
              clear hb6 hx6 HX5 HU5 HCo
              go_wp2_with (go_at_call 53; refine (Is_lib _ _ _).mono ?_; rintro r w7 ⟨rfl, rfl⟩)
              refine bodyPost_ret (v := .tuple #[.agg #[.int .i64 0, .int .i64 0, .string ⟨#[]⟩], .int .i64 (((m + 1 : Nat) : Int)), .iface T y]) (by simp [results, Tryz.results21, go_sem, t0, t1, t2]) rfl ?_
              exact HEnd2.out _ _ _ _ HR2.out HP.out HQ.out
            · have HR2 : Hid (runH ask l [] F = (.inr (e, ps), m)) := Lib.hid (by
                rw [hrun']
                show ((Sum.inr (e, ps), leftH e m) : (List V ⊕ Er) × Nat) = _
                rw [leftH, if_neg h60])
              have hmw : wrap64 (m : Int) = (m : Int) := IntWalk.wrap64_in _ (by have := HMF.out; omega)
              have d60 : ((codeOf e) == 60) = false := by rw [beq_eq_false_iff_ne]; exact h60
              clear hrun' h60
              go_wp2_with fail
              refine HSt.out.mono ?_
              rintro r w5 ⟨u, rfl, hf5, hu5⟩
              dsimp only
              have hu5 : ErrO w5 (some ((e, ps))) u := hu5
              have HF5 := Lib.hid (HFA.out.trans hf5)
              have HB5 := Lib.hid (HB3.out.trans (HF5.out.below (by omega) (by have := HB3.out.size; have := HLO.out; omega)))
              have HU5 := Lib.hid hu5
              have HG5 := Lib.hid (HG.out.below HB5.out HG.out.big)
              have hx5 : Boxed w5 w.heap.size V0 := (HF5.out.block _ (by have := HX3.out.lt; have := HLO.out; omega) (by omega)).trans HX3.out
              have HX5 := Lib.hid hx5
              have HCo : Hid (Calls Tryz.prog 13 #[u] w5 fun r w' => r = .returned (.int .i64 (codeOf e)) ∧ Below w5.heap.size w5 w') := Lib.hid (codeO_any _ u w5 hu5 HG5.out)
              obtain ⟨T, y, rfl⟩ := hu5.iface
              clear hf5 hu5 HSt hx5
              go_wp2_with fail
              refine HCo.out.mono ?_
              rintro r w6 ⟨rfl, hb6⟩
              dsimp only
              have hx6 := HX5.out.below hb6
              obtain ⟨r0, r1, r2⟩ := hx6.cells
              have f0 := hx6.frozen 0
              have f1 := hx6.frozen 1
              have f2 := hx6.frozen 2
              obtain ⟨t0, t1, t2⟩ := (hx6.set3' 0 0 ⟨#[]⟩).cells
              have HP := Lib.hid (Below.set3' (HB5.out.trans (hb6.mono HB5.out.size)) (Nat.le_refl _) (.int .i64 0) (.int .i64 0) (.string ⟨#[]⟩))
              have HQ := Lib.hid (ErrO.put3 (y0 := .int .i64 0) (y1 := .int .i64 0) (y2 := .string ⟨#[]⟩) hx6.three (HU5.out.below hb6))
              clear hb6 hx6 HX5 HU5 HCo
              go_wp2_with (go_at_call 53; refine (Is_lib _ _ _).mono ?_; rintro r w7 ⟨rfl, rfl⟩)
              refine bodyPost_ret (v := .tuple #[.agg #[.int .i64 0, .int .i64 0, .string ⟨#[]⟩], .int .i64 ((m : Int)), .iface T y]) (by simp [results, Tryz.results21, go_sem, t0, t1, t2, hmw]) rfl ?_
              exact HEnd2.out _ _ _ _ HR2.out HP.out HQ.out
          | inl st' =>
            have HR2 := Lib.hid (show runH ask l [] F = runH ask (l.drop (j + 1)) st' m from hrun')
            have HO2 := Lib.hid (HOK.out st' rfl)
            have HL2 := Lib.hid (HLEN.out st' rfl)
            have hmw : wrap64 (m : Int) = (m : Int) := IntWalk.wrap64_in _ (by have := HMF.out; omega)
            clear hrun' HOK HLEN
            go_wp2_with fail
            refine HSt.out.mono ?_
            rintro r w5 ⟨u, rfl, hf5, hu5⟩
            dsimp only
            obtain ⟨rfl, hm5⟩ := hu5
            rw [HGV.out] at hm5
            have HF5 := Lib.hid (HFA.out.trans hf5)
            have HM5 := Lib.hid hm5
            clear hf5 hm5 HSt
            go_wp2_with fail
            refine (code_none w5).mono ?_
            rintro r w6 ⟨rfl, hb6⟩
            dsimp only
            have HM6 := Lib.hid (HM5.out.below hb6)
            have HF6 := Lib.hid (HF5.out.trans (Foot.of_below (b := b) hb6 HM5.out.lo2))
            clear hb6 HM5 HF5
            go_wp2_with (go_at_call 53; refine (Is_lib _ _ _).mono ?_; rintro r w7 ⟨rfl, rfl⟩)
            go_roundg (gk - 1)
            case measure => have := HK.out; omega
            case rel => exact ⟨j + 1, st', m, by have := HK.out; omega, by go_num, by first | (simp only [hmw]; done) | (simp [hmw]; done), Nat.le_of_succ_le HMF.out, HM6.out, HF6.out, HR2.out, by rw [HL2.out]; exact HCHK.out, HO2.out, by rw [HL2.out]; omega⟩
      · have hjl : j = l.length := by have := HK.out; omega
        have hlt : decide ((j : Int) < (l.length : Int)) = false := by simpa using hj
        have hlt2 : decide (j < l.length) = false := by simpa using hj
        have hrun' := HRUN.out
        rw [List.drop_eq_nil_of_le (by omega)] at hrun' hchk
        have hst1 : st.length = 1 := by
          simp only [checkGo, Prod.mk.injEq, true_and] at hchk
          exact hchk
        obtain ⟨v, rfl⟩ := List.length_eq_one_iff.1 hst1
        obtain ⟨sv, hcr, hRr⟩ := HM.out.runs
        have HTk := Lib.hid (gTake_any b lo gv v [] wr wr sv hRr hcr (Foot.refl _ _ _) (by simp))
        obtain ⟨k, n, s⟩ := v
        have HR2 := Lib.hid (show runH ask l [] F = (.inl [⟨k, n, s⟩], f) from hrun')
        have hxr : Boxed wr w.heap.size V0 := (HFT.out.block _ (by have := HX3.out.lt; have := HLO.out; omega) (by omega)).trans HX3.out
        have HXr := Lib.hid hxr
        clear hrun' hchk hst1 hcr hRr hok hsj hxr hjl
        go_wp2_with fail
        refine HTk.out.mono ?_
        rintro r w5 ⟨sv2, rfl, hc5, hf5, hR5⟩
        simp only [V.val]
        have hx5 : Boxed w5 w.heap.size V0 := (hf5.block _ HXr.out.lt (by omega)).trans HXr.out
        have HB5 := HBW.out.trans (hf5.below (by omega) HBW.out.size)
        obtain ⟨r0, r1, r2⟩ := hx5.cells
        have f0 := hx5.frozen 0
        have f1 := hx5.frozen 1
        have f2 := hx5.frozen 2
        obtain ⟨t0, t1, t2⟩ := (hx5.set3' k n s).cells
        have HP := Lib.hid (Below.set3' HB5 (Nat.le_refl _) (.int .i64 k) (.int .i64 n) (.string s))
        clear hx5 HB5 HXr HTk hc5 hf5 hR5
        go_wp2
        refine bodyPost_ret (v := .tuple #[.agg #[.int .i64 k, .int .i64 n, .string s], .int .i64 (f : Int), .nilIface]) (by simp [results, Tryz.results21, go_sem, t0, t1, t2]) rfl ?_
        exact HEnd1.out _ _ _ _ _ HR2.out HP.out
  · obtain ⟨R, hR⟩ : ∃ R : Ending → World → Prop, RetEv (ofH ask l F) w = R := ⟨_, rfl⟩
    rw [hR]
    have HEnd : Hid (∀ w', Below w.heap.size w w' → R (.returned (.tuple #[.agg #[.int .i64 0, .int .i64 0, .string ⟨#[]⟩], .int .i64 (F : Int), .iface 33 (.int .i64 (checkL l))])) w') := Lib.hid (fun w' hb => by
      rw [← hR]
      unfold ofH
      rw [if_pos hck]
      exact ⟨0, 0, ⟨#[]⟩, _, rfl, rfl, hb, ⟨rfl, .inr (by intro h; cases h)⟩⟩)
    have HO := Lib.hid (fun W => of_num (checkL l) W hck)
    have HX0 := Lib.hid hX0
    have HB0 := Lib.hid hB0
    have d : ((checkL l) == 0) = false := by rw [beq_eq_false_iff_ne]; exact hck
    clear hR hck hX0 hB0 hnm hr hA hN hG hF
    generalize checkL l = ck at *
    go_enter Tryz.func21, Tryz.ntmps21
    go_wp2_with fail
    refine HCk.out.mono ?_
    rintro r w1 ⟨rfl, hb1⟩
    dsimp only
    have hx1 := HX0.out.below hb1
    have HB1 := Lib.hid (HB0.out.trans (hb1.mono HB0.out.size))
    obtain ⟨r0, r1, r2⟩ := hx1.cells
    have f0 := hx1.frozen 0
    have f1 := hx1.frozen 1
    have f2 := hx1.frozen 2
    obtain ⟨t0, t1, t2⟩ := (hx1.set3' 0 0 ⟨#[]⟩).cells
    have HP := Lib.hid (Below.set3' HB1.out (Nat.le_refl _) (.int .i64 0) (.int .i64 0) (.string ⟨#[]⟩))
    clear HX0 HB0 hb1 hx1 HCk
    go_wp2_with (go_at_call 45; refine (HO.out _).mono ?_; rintro r w5 ⟨rfl, rfl⟩)
    refine bodyPost_ret (v := .tuple #[.agg #[.int .i64 0, .int .i64 0, .string ⟨#[]⟩], .int .i64 (F : Int), .iface 33 (.int .i64 ck)]) (by simp [results, Tryz.results21, go_sem, t0, t1, t2]) rfl ?_
    exact HEnd.out _ HP.out
end Go.Proofs.YtidomoibhjgkjaaGreatDoor
