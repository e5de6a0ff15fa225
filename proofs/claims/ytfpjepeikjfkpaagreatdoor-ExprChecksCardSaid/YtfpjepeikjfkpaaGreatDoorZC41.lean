import Derived.Test.YtfpjepeikjfkpaaGreatDoorZC39
import Derived.Test.YtfpjepeikjfkpaaGreatDoorZC40
/-
  Package expr: Print of any terms.
-/
namespace Go.Proofs.YtfpjepeikjfkpaaGreatDoor
open Go.RowKit

theorem newsX (w : World) (e : TypeId) (x : Nat × List UInt8) : ∀ j u, (cellsX x)[j]? = some u → (w.alloc (.cells #[.int .i64 (x.1 : Int), .string ⟨x.2.toArray⟩] e)).cell? ((⟨w.heap.size, 0, none⟩ : Addr).add j) = some u := fun j u hu => by
  have add : (⟨w.heap.size, 0, none⟩ : Addr).add j = ⟨w.heap.size, j, none⟩ := by unfold Addr.add; split <;> simp_all
  rw [add, cell_of_row _ w.heap.size _ _ e (0, 0) (heap_alloc_new w _)]
  simpa [cellsX] using hu

theorem one_step {n : Nat} {t : TM} {l : List TM} (h : checkGo n (t :: l) = (0, 1)) : ownT t = 0 ∧ takesT t.op ≤ n ∧ checkGo (n + 1 - takesT t.op) l = (0, 1) := by
  rw [checkGo] at h
  by_cases h1 : ownT t = 0
  · rw [if_neg (by simp [h1])] at h
    by_cases h2 : n < takesT t.op
    · rw [if_pos h2] at h
      cases h
    · rw [if_neg h2] at h
      exact ⟨h1, by omega, h⟩
  · rw [if_pos h1] at h
    injection h with h _
    exact absurd h h1
theorem small_one {t : TM} (h : ownT t = 0) (hnm : t.nm.size ≤ 100) (h0 : -9223372036854775808 ≤ t.v.n) (h1 : t.v.n ≤ 9223372036854775807) {st : List Ex} (hn : takesT t.op ≤ st.length) (hst : ∀ x ∈ st, SmallT x) : ∀ x ∈ stepE st t, SmallT x := by
  refine small_step h (fun e => ?_) hnm ⟨h0, h1⟩ hn hst
  refine print_len ?_ h0 h1
  unfold ownT at h
  split at h
  · cases h
  · try rw [if_pos e] at h
    by_cases hr : rightV t.v = 0
    · exact hr
    · rw [if_pos hr] at h
      exact absurd h hr
theorem post_len : ∀ (st : List Ex), st.length ≤ (postS st).length
  | [] => Nat.le_refl _
  | t :: st => by
    have h1 := post_len st
    have h2 := post_pos t
    rw [postS, List.length_append, List.length_cons]
    omega
theorem right_one {l : List TM} (h0 : checkL l = 0) : checkGo 0 l = (0, 1) := by
  have h40 : ¬ 40 < l.length := fun h => by unfold checkL at h0; rw [if_pos h] at h0; cases h0
  unfold checkL at h0
  rw [if_neg h40] at h0
  by_cases g1 : (checkGo 0 l).1 = 0
  · rw [if_neg (by simp [g1])] at h0
    by_cases g2 : (checkGo 0 l).2 = 0
    · rw [if_pos g2] at h0; cases h0
    · rw [if_neg g2] at h0
      by_cases g3 : 1 < (checkGo 0 l).2
      · rw [if_pos g3] at h0; cases h0
      · exact Prod.ext g1 (by show (checkGo 0 l).2 = 1; omega)
  · rw [if_pos g1] at h0; exact absurd h0 g1

def retPrint (x : List UInt8 × Int) : Ending := .returned (.tuple #[.string ⟨x.1.toArray⟩, .int .i64 x.2])
set_option maxRecDepth 100000 in
set_option maxHeartbeats 8000000 in
theorem dPrint_any (l : List TM) (A : Option Addr) (c : Nat) (hnm : ∀ x ∈ l, x.nm.size ≤ 100 ∧ -9223372036854775808 ≤ x.v.n ∧ x.v.n ≤ 9223372036854775807) (hll : l.length ≤ 1000000) (w : World) (hr : RowT w 0 w.heap.size A l) (hG : GlobE w) :
    Calls Tryz.prog 17 #[.slice A l.length c] w fun r w' => r = retPrint (printE l) ∧ Below w.heap.size w w' := by
  have HC := Lib.hid (dCheck_any l A c (fun x hx => by have := (hnm x hx).1; omega) hll w hr)
  by_cases h0 : checkL l = 0
  · rw [h0] at HC
    have hgo0 := right_one h0
    have h40 : ¬ 40 < l.length := fun h => by unfold checkL at h0; rw [if_pos h] at h0; cases h0
    have hpr : printE l = if 128 < (txtE (treeE l)).length then ([], 3) else (txtE (treeE l), 0) := by unfold printE; rw [if_neg (by simp [h0])]
    have HPr := Lib.hid hpr
    have HR := Lib.hid hr
    have HG := Lib.hid hG
    have HGo0 := Lib.hid hgo0
    clear hpr hr hG h0 hgo0
    go_enter Tryz.func17, Tryz.ntmps17
    go_wp2_with (go_at_call 10; refine HC.out.mono ?_; rintro r w0 ⟨rfl, hb0⟩; have HB0 := Lib.hid hb0; clear hb0)
    obtain ⟨i, z, hi, hz0, hz2, hz1, hzs⟩ := infoWord
    have HI := Lib.hid hi
    clear hi
    go_loopg [5, 17] l.length (fun q v i wr => ∃ (j : Nat) (st : List Ex), j + q = l.length ∧ i = .int .i64 (j : Int) ∧ checkGo st.length (l.drop j) = (0, 1) ∧ treesE [] l = treesE st (l.drop j) ∧ (postS st).length = j ∧ (∀ x ∈ st, SmallT x) ∧ (st = [] → v = .slice none 0 0) ∧ OwnX wr w.heap.size v (wordsE st) ∧ Below w.heap.size w wr)
    case atStart => exact ⟨0, [], by omega, rfl, HGo0.out, rfl, rfl, (fun x hx => by cases hx), fun _ => rfl, OwnX.nil _ _, HB0.out⟩
    case round =>
      obtain ⟨j, st, hk, rfl, hgo, htr, hps, hsm, hnil, hown, hb⟩ := hrel
      obtain ⟨V, cV, hv⟩ := hown.form
      rw [wordsE_len] at hv
      subst hv
      have HK := Lib.hid hk
      have HB := Lib.hid hb
      have HO := Lib.hid hown
      have HTr := Lib.hid htr
      have HPs := Lib.hid hps
      have HSm := Lib.hid hsm
      have hpl := wordsE_len st
      have hj40 : j ≤ 40 := by omega
      have hsl : st.length ≤ j := by rw [← hps]; exact post_len st
      clear hb hk hown htr hps hsm
      by_cases hj : j < l.length
      · have hlt : decide ((j : Int) < (l.length : Int)) = true := by simpa using hj
        have hlt2 : decide (j < l.length) = true := by simpa using hj
        obtain ⟨b, o, rfl, c0, c1, c2, c3, c4⟩ := (HR.out.below HB.out (Nat.le_refl _)).at_ hj
        obtain ⟨hnx, hv0, hv1⟩ := hnm _ (List.getElem_mem hj)
        rw [List.drop_eq_getElem_cons hj] at hgo
        have HDr := Lib.hid (List.drop_eq_getElem_cons hj)
        generalize l[j] = x at *
        obtain ⟨hox, hm, hgo⟩ := one_step hgo
        have HTk := Lib.hid (fun w => (dTakes_any x.op w).mono fun _ _ h => And.intro h.1 h.2.symm)
        have HSt := Lib.hid (fun w => (dStrength_any x.op w).mono fun _ _ h => And.intro h.1 h.2.symm)
        rw [takesD_own hox] at HTk
        have hst := words_step hox (st := st) hm
        obtain ⟨hpost, hlen⟩ := step_post hox (st := st) hm
        have hsmx := small_one hox hnx hv0 hv1 hm HSm.out
        obtain ⟨f, hf⟩ : ∃ f, st.length - takesT x.op = f := ⟨_, rfl⟩
        rw [hf] at hst
        have hfi : (st.length : Int) - (takesT x.op : Int) = (f : Int) := by omega
        have htk2 : takesT x.op ≤ 2 := by unfold takesT; split; omega; split <;> omega
        have hdl : ((wordsE st).drop f).length = takesT x.op := by rw [List.length_drop, hpl]; omega
        have HJ := Lib.hid (fun A c wx (hr : RowX wx wx.heap.size A ((wordsE st).drop f)) (hb : Below w.heap.size w wx) => write_any x ((wordsE st).drop f) A c hox hv0 hv1 hnx hdl (fun p hp => by
          have h := word_len (n := 100) HSm.out (by have := HPs.out; omega) p (List.mem_of_mem_drop hp)
          exact ⟨h.1, by omega⟩) wx hr (HG.out.below hb))
        obtain ⟨st', hst'⟩ : ∃ st', stepE st x = st' := ⟨_, rfl⟩
        have htr' : ∀ r, treesE st (x :: r) = treesE st' r := fun r => by rw [← hst']; rfl
        rw [hst'] at hst hlen hpost hsmx
        have htr2 : treesE [] l = treesE st' (l.drop (j + 1)) := by rw [HTr.out, HDr.out, htr']
        rw [← hlen] at hgo
        have HGo := Lib.hid hgo
        have HTr2 := Lib.hid htr2
        have HPs2 := Lib.hid (show (postS st').length = j + 1 by rw [hpost, List.length_append, HPs.out]; rfl)
        have HSm2 := Lib.hid hsmx
        have hne' : ¬ st' = [] := by
          intro e
          have h1 := wordsE_len st'
          rw [hst, List.length_append, List.length_singleton, e] at h1
          simp at h1
        have HNe := Lib.hid hne'
        have hl' : st'.length = f + 1 := by rw [hlen]; omega
        have HL' := Lib.hid hl'
        clear hgo htr2 htr' hst' hne' hl' hpost hsmx
        rw [hdl, show takesT x.op = st.length - f from by omega] at HJ
        obtain ⟨pj, hpj⟩ : ∃ pj : Nat × List UInt8, pj = (strD x.op, writeD x ((wordsE st).drop f)) := ⟨_, rfl⟩
        rw [← hpj] at hst
        have HSt' := Lib.hid hst
        have e1 : strD x.op = pj.1 := by rw [hpj]
        have e2 : writeD x ((wordsE st).drop f) = pj.2 := by rw [hpj]
        rw [e1] at HSt
        rw [e2] at HJ
        clear hst hlen hpj e1 e2 hox
        generalize takesT x.op = tk at *
        have hbn := HB.out.alloc HB.out.size (.cells (cellsT x).toArray 44)
        have hnsz : (wr.alloc (.cells (cellsT x).toArray 44)).heap.size = wr.heap.size + 1 := by simp
        have hown1 := HO.out.below (by simpa using Below.alloc (Below.refl wr.heap.size wr) (Nat.le_refl _) (.cells (cellsT x).toArray 44))
        obtain ⟨op, ⟨vk, vn, vs⟩, nm⟩ := x
        simp only [termVal, cellsT] at c0 c1 c2 c3 c4 HTk HSt HJ hbn hown1 hnsz
        obtain ⟨ps, pt⟩ := pj
        simp only at HSt HJ
        go_upto_region 12 with (go_at_call 23; refine (HTk.out _).mono ?_; rintro r w' ⟨rfl, rfl⟩)
        obtain ⟨w1, hw1⟩ : ∃ wy, wr.alloc (.cells #[.int .i64 op, .int .i64 vk, .int .i64 vn, .string vs, .string nm] 44) = wy := ⟨_, rfl⟩
        rw [hw1] at hbn hown1 hnsz ⊢
        have m0 : w1.cell? ⟨wr.heap.size, 0, none⟩ = some (.int .i64 op) := by rw [← hw1]; simp [go_sem]
        have m1 : w1.cell? ⟨wr.heap.size, 1, none⟩ = some (.int .i64 vk) := by rw [← hw1]; simp [go_sem]
        have m2 : w1.cell? ⟨wr.heap.size, 2, none⟩ = some (.int .i64 vn) := by rw [← hw1]; simp [go_sem]
        have m3 : w1.cell? ⟨wr.heap.size, 3, none⟩ = some (.string vs) := by rw [← hw1]; simp [go_sem]
        have m4 : w1.cell? ⟨wr.heap.size, 4, none⟩ = some (.string nm) := by rw [← hw1]; simp [go_sem]
        have HB1 := Lib.hid hbn
        have HO1 := Lib.hid hown1
        clear hw1 hbn hown1
        have HD1 := Lib.hid (Below.refl w1.heap.size w1).drew
        by_cases hn : st = []
        · have hv := hnil hn
          injection hv with hv1 hv2 hv3
          subst hv1 hv3
          subst hn
          obtain rfl : f = 0 := by simp only [List.length_nil] at hf; omega
          rw [show (([] : List Ex).length - 0) = 0 from rfl] at HJ
          have HJ2 := Lib.hid (fun wx (hb : Below w1.heap.size w1 wx) => HJ.out none 0 wx (fun h => absurd h (by simp [wordsE])) (HB1.out.trans (hb.mono HB1.out.size)))
          clear hnil
          go_region_law ((first
            | (refine step_append_lies _ rfl (.tmp 29) (.tmp 39) 55 rfl w.heap.size 58 i z 2 24 Tryz.underlying55 HI.out hz0 hz1 hzs hz2 (by omega) (.slice none 0 0) 0 (flatX ([])) (by simp [Act.eval]) (World.ownsRow_nil _ _ _ _) ⟨w3.heap.size, 0, none⟩ 1 1 (cellsX (ps, pt)) (by simp [Act.eval]) (by rfl) (newsX w3 _ (ps, pt)) (cellsX_one _) (by omega) (by unfold maxLen; omega) (by omega) (by have := HB3.out.size; simp; omega) (w3.heap.size + 1) (by simp) ?_; intro g1 cap1 w4 hown' hgrow hat hlt')
            | (go_simp; go_wp2_with (first | (go_at_call 31; refine (HSt.out _).mono ?_; rintro r w' ⟨rfl, rfl⟩) | (go_at_call 32; refine (HJ2.out _ HD1.out).mono ?_; rintro r w3 ⟨rfl, hb3'⟩; have hb3 : Below w1.heap.size w1 w3 := (Below.refl _ w1).drew.trans hb3'; have HB3 := Lib.hid (HB1.out.trans (hb3.mono HB1.out.size)); clear hb3')))))
          all_goals
            have hb4 : Below w.heap.size w w4 := (HB3.out.alloc HB3.out.size _).grown hgrow (by have := HB3.out.size; simp; omega) (fun g' hg' => by simp [Value.ownBlock] at hg')
            have ho4 : OwnX w4 w.heap.size (.slice (some ⟨g1, 0, none⟩) (0 + 1) cap1) (wordsE st') := by
              unfold OwnX
              rw [wordsE_len, HL'.out, HSt'.out, flatX_append, flatX_one]
              exact hown'
            go_wp2
            go_roundg (gk - 1)
            case measure => have := HK.out; omega
            case rel => exact ⟨j + 1, st', by have := HK.out; omega, by go_num, HGo.out, HTr2.out, HPs2.out, HSm2.out, fun h => absurd h HNe.out, ho4, hb4⟩
        · have hn0 : 0 < st.length := List.length_pos_iff.2 hn
          clear hnil
          obtain ⟨g, rfl, hg1, hg2, hnc, _⟩ := HO1.out.reads (by omega)
          rw [hpl] at hnc
          have hfn : f ≤ st.length := by omega
          have hRw : ∀ wx, Below w1.heap.size w1 wx → RowX wx wx.heap.size (some ⟨g, f * 2, none⟩) ((wordsE st).drop f) := fun wx hbx => by
            obtain ⟨g', e, hq'⟩ := (HO1.out.below hbx).rest (by omega) f
            injection e with e
            injection e with e
            subst e
            exact hq'
          have hOc : ∀ wx, Below w1.heap.size w1 wx → World.ownsRow wx w.heap.size 58 2 (.slice (some ⟨g, 0, none⟩) f cV) f (flatX ((wordsE st).take f)) := fun wx hbx => by
            have h := (HO1.out.below hbx).cut f (by omega) (by omega)
            have e : ((wordsE st).take f).length = f := by rw [List.length_take]; omega
            unfold OwnX at h
            rwa [e] at h
          have HRw := Lib.hid hRw
          have HOc := Lib.hid hOc
          clear hRw hOc
          have hfc : f ≤ cV := by omega
          have hfn2 : (f : Int) ≤ (st.length : Int) := by omega
          by_cases hcf : cV = f
          · subst hcf
            rw [show st.length - cV = 0 from by omega] at HJ
            have HJ2 := Lib.hid (fun wx (hb : Below w1.heap.size w1 wx) => HJ.out (some ⟨g, 0, none⟩) 0 wx (fun h => absurd h (by rw [List.length_drop, hpl]; omega)) (HB1.out.trans (hb.mono HB1.out.size)))
            go_region_law ((first
              | (refine step_append_lies _ rfl (.tmp 29) (.tmp 39) 55 rfl w.heap.size 58 i z 2 24 Tryz.underlying55 HI.out hz0 hz1 hzs hz2 (by omega) (.slice (some ⟨g, 0, none⟩) cV cV) cV (flatX ((wordsE st).take cV)) (by simp [Act.eval]) (World.ownsRow.alloc (HOc.out _ hb3) _) ⟨w3.heap.size, 0, none⟩ 1 1 (cellsX (ps, pt)) (by simp [Act.eval]) (by rfl) (newsX w3 _ (ps, pt)) (cellsX_one _) (by omega) (by unfold maxLen; omega) (by omega) (by have := HB3.out.size; simp; omega) (w3.heap.size + 1) (by simp) ?_; intro g1 cap1 w4 hown' hgrow hat hlt')
              | (go_simp; go_wp2_with (first | (go_at_call 31; refine (HSt.out _).mono ?_; rintro r w' ⟨rfl, rfl⟩) | (go_at_call 32; refine (HJ2.out _ HD1.out).mono ?_; rintro r w3 ⟨rfl, hb3'⟩; have hb3 : Below w1.heap.size w1 w3 := (Below.refl _ w1).drew.trans hb3'; have HB3 := Lib.hid (HB1.out.trans (hb3.mono HB1.out.size)); clear hb3')))))
            all_goals
              have hb4 : Below w.heap.size w w4 := (HB3.out.alloc HB3.out.size _).grown hgrow (by have := HB3.out.size; simp; omega) (fun g' hg' => by simp [Value.ownBlock] at hg'; omega)
              have ho4 : OwnX w4 w.heap.size (.slice (some ⟨g1, 0, none⟩) (cV + 1) cap1) (wordsE st') := by
                unfold OwnX
                rw [wordsE_len, HL'.out, HSt'.out, flatX_append, flatX_one]
                exact hown'
              go_wp2
              go_roundg (gk - 1)
              case measure => have := HK.out; omega
              case rel => exact ⟨j + 1, st', by have := HK.out; omega, by go_num, HGo.out, HTr2.out, HPs2.out, HSm2.out, fun h => absurd h HNe.out, ho4, hb4⟩
          · have HJ2 := Lib.hid (fun wx (hb : Below w1.heap.size w1 wx) => HJ.out (some ⟨g, f * 2, none⟩) (cV - f) wx (HRw.out wx hb) (HB1.out.trans (hb.mono HB1.out.size)))
            go_region_law ((first
              | (refine step_append_lies _ rfl (.tmp 29) (.tmp 39) 55 rfl w.heap.size 58 i z 2 24 Tryz.underlying55 HI.out hz0 hz1 hzs hz2 (by omega) (.slice (some ⟨g, 0, none⟩) f cV) f (flatX ((wordsE st).take f)) (by simp [Act.eval]) (World.ownsRow.alloc (HOc.out _ hb3) _) ⟨w3.heap.size, 0, none⟩ 1 1 (cellsX (ps, pt)) (by simp [Act.eval]) (by rfl) (newsX w3 _ (ps, pt)) (cellsX_one _) (by omega) (by unfold maxLen; omega) (by omega) (by have := HB3.out.size; simp; omega) (w3.heap.size + 1) (by simp) ?_; intro g1 cap1 w4 hown' hgrow hat hlt')
              | (go_simp; go_wp2_with (first | (go_at_call 31; refine (HSt.out _).mono ?_; rintro r w' ⟨rfl, rfl⟩) | (go_at_call 32; refine (HJ2.out _ HD1.out).mono ?_; rintro r w3 ⟨rfl, hb3'⟩; have hb3 : Below w1.heap.size w1 w3 := (Below.refl _ w1).drew.trans hb3'; have HB3 := Lib.hid (HB1.out.trans (hb3.mono HB1.out.size)); clear hb3')))))
            all_goals
              have hb4 : Below w.heap.size w w4 := (HB3.out.alloc HB3.out.size _).grown hgrow (by have := HB3.out.size; simp; omega) (fun g' hg' => by simp [Value.ownBlock] at hg'; omega)
              have ho4 : OwnX w4 w.heap.size (.slice (some ⟨g1, 0, none⟩) (f + 1) cap1) (wordsE st') := by
                unfold OwnX
                rw [wordsE_len, HL'.out, HSt'.out, flatX_append, flatX_one]
                exact hown'
              go_wp2
              go_roundg (gk - 1)
              case measure => have := HK.out; omega
              case rel => exact ⟨j + 1, st', by have := HK.out; omega, by go_num, HGo.out, HTr2.out, HPs2.out, HSm2.out, fun h => absurd h HNe.out, ho4, hb4⟩
      · have hlt : decide ((j : Int) < (l.length : Int)) = false := by simpa using hj
        have hlt2 : decide (j < l.length) = false := by simpa using hj
        rw [List.drop_eq_nil_of_le (by omega), checkGo] at hgo
        injection hgo with _ hone
        obtain ⟨t, rfl⟩ := List.length_eq_one_iff.1 hone
        have htr := HTr.out
        rw [List.drop_eq_nil_of_le (by omega)] at htr
        have htr : treesE [] l = [t] := htr
        have htt : treeE l = t := by unfold treeE; rw [htr]; rfl
        have hpr := HPr.out
        rw [htt] at hpr
        have hsz := (HSm.out t (by simp)).len.1
        have hps := HPs.out
        have hps1 : (postS [t]).length = (postE t).length := by simp [postS]
        have hT : (txtE t).length ≤ 1000000 := by
          have : 1100 * (postE t).length ≤ 1100 * 100 := Nat.mul_le_mul_left _ (by omega)
          omega
        obtain ⟨g, rfl, _, _, _, hc⟩ := HO.out.reads (by simp [wordsE])
        obtain ⟨_, kk⟩ := hc 0 (by simp [wordsE])
        have k1 : wr.cell? ⟨g, 1, none⟩ = some (.string ⟨(txtE t).toArray⟩) := kk
        clear kk hc hps1 hps hsz htt htr hone
        show Code.wp _ _ _ _ _
        generalize txtE t = tx at *
        by_cases h128 : 128 < tx.length
        · rw [if_pos h128] at hpr
          have HPr2 := Lib.hid hpr
          have d2 : decide (128 < tx.length) = true := by simpa using h128
          have d1 : decide ((128 : Int) < (tx.length : Int)) = true := by rw [decide_eq_true_iff]; omega
          clear hpr
          go_wp2
          rw [HPr2.out]
          exact bodyPost_ret (v := .tuple #[.string ⟨#[]⟩, .int .i64 3]) (by simp [results, Tryz.results17, go_sem]) rfl ⟨rfl, HB.out⟩
        · rw [if_neg h128] at hpr
          have HPr2 := Lib.hid hpr
          have d2 : decide (128 < tx.length) = false := by simpa using h128
          have d1 : decide ((128 : Int) < (tx.length : Int)) = false := by rw [decide_eq_false_iff_not]; omega
          clear hpr
          go_wp2
          rw [HPr2.out]
          exact bodyPost_ret (v := .tuple #[.string ⟨tx.toArray⟩, .int .i64 0]) (by simp [results, Tryz.results17, go_sem]) rfl ⟨rfl, HB.out⟩
  · have e : printE l = ([], checkL l) := by unfold printE; rw [if_pos h0]
    rw [e]
    generalize checkL l = x at *
    have e0 : (x == 0) = false := by rw [beq_eq_false_iff_ne]; exact h0
    have e1 : (x != 0) = true := by rw [bne, e0]; rfl
    clear hr hG
    go_enter Tryz.func17, Tryz.ntmps17
    go_wp2_with fail
    refine HC.out.mono ?_
    rintro r w1 ⟨rfl, hb1⟩
    have HB1 := Lib.hid hb1
    clear hb1
    go_wp2_with fail
    exact bodyPost_ret (v := .tuple #[.string ⟨#[]⟩, .int .i64 x]) (by simp [results, Tryz.results17, go_sem]) rfl ⟨rfl, HB1.out⟩
end Go.Proofs.YtfpjepeikjfkpaaGreatDoor
