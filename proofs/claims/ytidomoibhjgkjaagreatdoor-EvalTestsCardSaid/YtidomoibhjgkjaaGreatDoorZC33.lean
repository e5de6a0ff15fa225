import Derived.Test.YtidomoibhjgkjaaGreatDoorZC32
import Derived.Deep.RegionLaw
import Derived.Deep.AppendLies
/-
  Package expr: Check of any terms.
-/
namespace Go.Proofs.YtidomoibhjgkjaaGreatDoor
open Go.RowKit

theorem newsQ (w : World) (e : TypeId) (x : Nat × Nat) : ∀ j u, (cellsQ x)[j]? = some u → (w.alloc (.cells #[.int .i64 (x.1 : Int), .int .i64 (x.2 : Int)] e)).cell? ((⟨w.heap.size, 0, none⟩ : Addr).add j) = some u := fun j u hu => by
  have add : (⟨w.heap.size, 0, none⟩ : Addr).add j = ⟨w.heap.size, j, none⟩ := by unfold Addr.add; split <;> simp_all
  rw [add, cell_of_row _ w.heap.size _ _ e (0, 0) (heap_alloc_new w _)]
  simpa [cellsQ] using hu

theorem goJ_le (op : Int) (B : Nat) : ∀ (l : List (Nat × Nat)) (j acc : Nat), (∀ p ∈ l, p.2 ≤ B) → acc ≤ B + 1 → goJ op j acc l ≤ B + 1
  | [], _, _, _, h => h
  | p :: l, j, acc, hp, h => goJ_le op B l _ _ (fun q hq => hp q (List.mem_cons_of_mem _ hq)) (by
      have h1 := hp p (List.mem_cons_self ..)
      unfold wrapN
      split <;> omega)
theorem joinD_le {op : Int} {B : Nat} {l : List (Nat × Nat)} (h : ∀ p ∈ l, p.2 ≤ B) : (joinD op l).2 ≤ B + 2 := by
  have h1 := goJ_le op B l 0 0 h (by omega)
  show wrapN (upD op) (goJ op 0 0 l) ≤ _
  unfold wrapN
  split <;> omega

set_option maxRecDepth 100000 in
set_option maxHeartbeats 4000000 in
theorem dCheck_any (l : List TM) (A : Option Addr) (c : Nat) (hnm : ∀ x ∈ l, x.nm.size ≤ 5000) (hll : l.length ≤ 1000000) (w : World) (hr : RowT w 0 w.heap.size A l) :
    Calls Tryz.prog 50 #[.slice A l.length c] w fun r w' => r = .returned (.int .i64 (checkL l)) ∧ Below w.heap.size w w' := by
  by_cases h40 : 40 < l.length
  · have e : checkL l = 3 := by unfold checkL; rw [if_pos h40]
    have d : decide ((40 : Int) < (l.length : Int)) = true := by rw [decide_eq_true_iff]; omega
    rw [e]
    clear e
    go_enter Tryz.func50, Tryz.ntmps50
    go_wp2
    go_ret
    exact ⟨rfl, Below.refl _ _⟩
  · have d : decide ((40 : Int) < (l.length : Int)) = false := by rw [decide_eq_false_iff_not]; omega
    have HR := Lib.hid hr
    go_enter Tryz.func50, Tryz.ntmps50
    go_wp2
    obtain ⟨i, z, hi, hz0, hz2, hz1, hzs⟩ := infoPart
    have HI := Lib.hid hi
    clear hi
    go_loopg [3, 13] l.length (fun q v i wr => ∃ (j : Nat) (st : List Ex), j + q = l.length ∧ i = .int .i64 (j : Int) ∧ checkGo 0 l = checkGo st.length (l.drop j) ∧ treesE [] l = treesE st (l.drop j) ∧ st.length ≤ j ∧ (∀ p ∈ prtsE st, p.2 ≤ 2 * j) ∧ (st = [] → v = .slice none 0 0) ∧ OwnQ wr w.heap.size v (prtsE st) ∧ Below w.heap.size w wr)
    case atStart => exact ⟨0, [], by omega, rfl, rfl, rfl, Nat.le_refl _, fun _ h => absurd h (by simp [prtsE]), fun _ => rfl, OwnQ.nil _ _, Below.refl _ _⟩
    case round =>
      obtain ⟨j, st, hk, rfl, hgo, htr, hsj, hdp, hnil, hown, hb⟩ := hrel
      obtain ⟨V, cV, hv⟩ := hown.form
      rw [prtsE_len] at hv
      subst hv
      have HK := Lib.hid hk
      have HB := Lib.hid hb
      have HO := Lib.hid hown
      have HDp := Lib.hid hdp
      have HTr := Lib.hid htr
      have hpl := prtsE_len st
      clear hb hk hown hdp htr
      by_cases hj : j < l.length
      · have hlt : decide ((j : Int) < (l.length : Int)) = true := by simpa using hj
        have hlt2 : decide (j < l.length) = true := by simpa using hj
        obtain ⟨b, o, rfl, c0, c1, c2, c3, c4⟩ := (HR.out.below HB.out (Nat.le_refl _)).at_ hj
        have hnx := hnm _ (List.getElem_mem hj)
        rw [List.drop_eq_getElem_cons hj, checkGo] at hgo
        have HDr := Lib.hid (List.drop_eq_getElem_cons hj)
        generalize l[j] = x at *
        have HRt := Lib.hid (fun w => dRight_any x (by omega) w)
        have HTk := Lib.hid (fun w => (dTakes_any x.op w).mono fun _ _ h => And.intro h.1 h.2.symm)
        have hbn := HB.out.alloc HB.out.size (.cells (cellsT x).toArray 47)
        have HBN := Lib.hid hbn
        have HX := Lib.hid (rfl : x = x)
        clear hbn hnx
        by_cases he : ownT x = 0
        · rw [if_neg (by simp [he])] at hgo
          rw [he] at HRt
          rw [takesD_own he] at HTk
          by_cases hm : st.length < takesT x.op
          · rw [if_pos hm] at hgo
            have HL := Lib.hid (show checkL l = 6 by unfold checkL; rw [if_neg h40, hgo]; rfl)
            have hd : decide ((st.length : Int) - (takesT x.op : Int) < 0) = true := by rw [decide_eq_true_iff]; omega
            have htk2 : takesT x.op ≤ 2 := by unfold takesT; split; omega; split <;> omega
            clear hgo hnil
            generalize takesT x.op = tk at *
            obtain ⟨op, ⟨vk, vn, vs⟩, nm⟩ := x
            simp only [termVal, cellsT] at c0 c1 c2 c3 c4 HRt HTk HBN
            go_upto_region 10 with (go_at_call 83; refine (HRt.out _).mono ?_; rintro r w1 ⟨rfl, hb1⟩; have c5 := (hb1.cell (p := ⟨wr.heap.size, 0, none⟩) (by simp)).trans (show _ = some (Value.int .i64 op) by simp [go_sem]); have HB1 := Lib.hid (HBN.out.trans (hb1.mono HBN.out.size)); clear hb1)
            go_wp2_with (go_at_call 84; refine (HTk.out _).mono ?_; rintro r w' ⟨rfl, rfl⟩)
            go_ret
            rw [HL.out]
            exact ⟨rfl, HB1.out⟩
          · rw [if_neg hm] at hgo
            have hst := prts_step he (st := st) (by omega)
            have hlen := (step_post he (st := st) (by omega)).2
            obtain ⟨f, hf⟩ : ∃ f, st.length - takesT x.op = f := ⟨_, rfl⟩
            rw [hf] at hst
            have hfi : (st.length : Int) - (takesT x.op : Int) = (f : Int) := by omega
            have hf0 : decide ((f : Int) < 0) = false := by rw [decide_eq_false_iff_not]; omega
            have htk2 : takesT x.op ≤ 2 := by unfold takesT; split; omega; split <;> omega
            have HJ := Lib.hid (fun A c wx hr => joined_any x.op ((prtsE st).drop f) A c (by rw [List.length_drop, hpl]; omega) (fun p hp => by
              have hp1 := List.mem_of_mem_drop hp
              have hp2 := hp1
              unfold prtsE at hp2
              rw [List.mem_reverse, List.mem_map] at hp2
              obtain ⟨t, ht, rfl⟩ := hp2
              exact ⟨strD_le _, by have := HDp.out _ hp1; omega⟩) wx hr)
            obtain ⟨st', hst'⟩ : ∃ st', stepE st x = st' := ⟨_, rfl⟩
            have htr' : ∀ r, treesE st (x :: r) = treesE st' r := fun r => by rw [← hst']; rfl
            rw [hst'] at hst hlen
            have hbd : ∀ p ∈ prtsE st', p.2 ≤ 2 * (j + 1) := by
              intro p hp
              rw [hst, List.mem_append] at hp
              rcases hp with hp | hp
              · have := HDp.out p (List.mem_of_mem_take hp)
                omega
              · rw [List.mem_singleton] at hp
                subst hp
                have := joinD_le (op := x.op) (fun p hp => HDp.out p (List.mem_of_mem_drop hp) : ∀ p ∈ (prtsE st).drop f, p.2 ≤ 2 * j)
                omega
            have htr2 : treesE [] l = treesE st' (l.drop (j + 1)) := by rw [HTr.out, HDr.out, htr']
            rw [← hlen] at hgo
            have HGo := Lib.hid hgo
            have HTr2 := Lib.hid htr2
            have HBd := Lib.hid hbd
            have hne' : ¬ st' = [] := by
              intro e
              have h1 := prtsE_len st'
              rw [hst, List.length_append, List.length_singleton, e] at h1
              simp at h1
            have HNe := Lib.hid hne'
            have hl' : st'.length = f + 1 := by rw [hlen]; omega
            have HL' := Lib.hid hl'
            clear hgo htr2 hbd htr' hst' hne' hl'
            have hdl : ((prtsE st).drop f).length = takesT x.op := by rw [List.length_drop, hpl]; omega
            rw [hdl, show takesT x.op = st.length - f from by omega] at HJ
            generalize hjd : joinD x.op ((prtsE st).drop f) = pj at *
            have HSt := Lib.hid hst
            clear hst hlen
            generalize takesT x.op = tk at *
            obtain ⟨op, ⟨vk, vn, vs⟩, nm⟩ := x
            simp only [termVal, cellsT] at c0 c1 c2 c3 c4 HRt HTk HBN HJ
            by_cases hn : st = []
            · have hv := hnil hn
              injection hv with hv1 hv2 hv3
              subst hv1 hv3
              subst hn
              obtain rfl : f = 0 := by simp only [List.length_nil] at hf; omega
              obtain rfl : tk = 0 := by simp only [List.length_nil] at hm; omega
              rw [show (([] : List Ex).length - 0) = 0 from rfl] at HJ
              have HJ2 := Lib.hid (fun wx => HJ.out none 0 wx (fun h => absurd h (by simp [prtsE])))
              clear hnil
              go_upto_region 10 with (go_at_call 83; refine (HRt.out _).mono ?_; rintro r w1 ⟨rfl, hb1⟩; have c5 := (hb1.cell (p := ⟨wr.heap.size, 0, none⟩) (by simp)).trans (show _ = some (Value.int .i64 op) by simp [go_sem]); have HB1 := Lib.hid (HBN.out.trans (hb1.mono HBN.out.size)); clear hb1)
              go_upto_region 13 with (go_at_call 84; refine (HTk.out _).mono ?_; rintro r w' ⟨rfl, rfl⟩)
              go_region_law ((first
                | (refine step_append_lies _ rfl (.tmp 32) (.tmp 39) 127 rfl w.heap.size 129 i z 2 16 Tryz.underlying127 HI.out hz0 hz1 hzs hz2 (by omega) (.slice none 0 0) 0 (flatQ []) (by simp [Act.eval]) (World.ownsRow_nil _ _ _ _) ⟨w3.heap.size, 0, none⟩ 1 1 (cellsQ pj) (by simp [Act.eval]) (by rfl) (newsQ w3 _ pj) (cellsQ_one _) (by omega) (by unfold maxLen; omega) (by omega) (by have := HB3.out.size; simp; omega) (w3.heap.size + 1) (by simp) ?_; intro g1 cap1 w4 hown' hgrow hat hlt')
                | (go_simp; go_wp2_with (go_at_call 85; refine (HJ2.out _).mono ?_; rintro r w3 ⟨rfl, hb3'⟩; have hb3 : Below w1.heap.size w1 w3 := (Below.refl _ w1).drew.trans hb3'; have HB3 := Lib.hid (HB1.out.trans (hb3.mono HB1.out.size)); clear hb3'))))
              all_goals
                have hb4 : Below w.heap.size w w4 := (HB3.out.alloc HB3.out.size _).grown hgrow (by have := HB3.out.size; simp; omega) (fun g' hg' => by simp [Value.ownBlock] at hg')
                have ho4 : OwnQ w4 w.heap.size (.slice (some ⟨g1, 0, none⟩) (0 + 1) cap1) (prtsE st') := by
                  unfold OwnQ
                  rw [prtsE_len, HL'.out, HSt.out, flatQ_append, flatQ_one]
                  exact hown'
                go_wp2
                go_roundg (gk - 1)
                case measure => have := HK.out; omega
                case rel => exact ⟨j + 1, st', by have := HK.out; omega, by go_num, HGo.out, HTr2.out, by have := HL'.out; omega, HBd.out, fun h => absurd h HNe.out, ho4, hb4⟩
            · have hn0 : 0 < st.length := List.length_pos_iff.2 hn
              clear hnil
              go_upto_region 10 with (go_at_call 83; refine (HRt.out _).mono ?_; rintro r w1 ⟨rfl, hb1⟩; have c5 := (hb1.cell (p := ⟨wr.heap.size, 0, none⟩) (by simp)).trans (show _ = some (Value.int .i64 op) by simp [go_sem]); have HB1 := Lib.hid (HBN.out.trans (hb1.mono HBN.out.size)); have HO1 := Lib.hid ((HO.out.below (by simpa using Below.alloc (Below.refl _ _) (Nat.le_refl _) _)).below hb1); clear hb1)
              obtain ⟨g, rfl, hg1, hg2, hnc, _⟩ := HO1.out.reads (by omega)
              rw [hpl] at hnc
              have hfn : f ≤ st.length := by omega
              have hRw : ∀ wx, Below w1.heap.size w1 wx → RowQ wx wx.heap.size (some ⟨g, f * 2, none⟩) ((prtsE st).drop f) := fun wx hbx => by
                obtain ⟨g', e, hq'⟩ := (HO1.out.below hbx).rest (by omega) f
                injection e with e
                injection e with e
                subst e
                exact hq'
              have hOc : ∀ wx, Below w1.heap.size w1 wx → World.ownsRow wx w.heap.size 129 2 (.slice (some ⟨g, 0, none⟩) f cV) f (flatQ ((prtsE st).take f)) := fun wx hbx => by
                have h := (HO1.out.below hbx).cut f (by omega) (by omega)
                have e : ((prtsE st).take f).length = f := by rw [List.length_take]; omega
                unfold OwnQ at h
                rwa [e] at h
              have HRw := Lib.hid hRw
              have HOc := Lib.hid hOc
              clear hRw hOc
              go_upto_region 13 with (go_at_call 84; refine (HTk.out _).mono ?_; rintro r w' ⟨rfl, rfl⟩)
              have hfc : f ≤ cV := by omega
              have hfn2 : (f : Int) ≤ (st.length : Int) := by omega
              by_cases hcf : cV = f
              · subst hcf
                rw [show st.length - cV = 0 from by omega] at HJ
                have HJ2 := Lib.hid (fun wx (hb : Below w1.heap.size w1 wx) => HJ.out (some ⟨g, 0, none⟩) 0 wx (fun h => absurd h (by rw [List.length_drop, hpl]; omega)))
                go_region_law ((first
                  | (refine step_append_lies _ rfl (.tmp 32) (.tmp 39) 127 rfl w.heap.size 129 i z 2 16 Tryz.underlying127 HI.out hz0 hz1 hzs hz2 (by omega) (.slice (some ⟨g, 0, none⟩) cV cV) cV (flatQ ((prtsE st).take cV)) (by simp [Act.eval]) (World.ownsRow.alloc (HOc.out _ hb3) _) ⟨w3.heap.size, 0, none⟩ 1 1 (cellsQ pj) (by simp [Act.eval]) (by rfl) (newsQ w3 _ pj) (cellsQ_one _) (by omega) (by unfold maxLen; omega) (by omega) (by have := HB3.out.size; simp; omega) (w3.heap.size + 1) (by simp) ?_; intro g1 cap1 w4 hown' hgrow hat hlt')
                  | (go_simp; go_wp2_with (go_at_call 85; refine (HJ2.out _ (Below.refl _ _).drew).mono ?_; rintro r w3 ⟨rfl, hb3'⟩; have hb3 : Below w1.heap.size w1 w3 := (Below.refl _ w1).drew.trans hb3'; have HB3 := Lib.hid (HB1.out.trans (hb3.mono HB1.out.size)); clear hb3'))))
                all_goals
                  have hb4 : Below w.heap.size w w4 := (HB3.out.alloc HB3.out.size _).grown hgrow (by have := HB3.out.size; simp; omega) (fun g' hg' => by simp [Value.ownBlock] at hg'; omega)
                  have ho4 : OwnQ w4 w.heap.size (.slice (some ⟨g1, 0, none⟩) (cV + 1) cap1) (prtsE st') := by
                    unfold OwnQ
                    rw [prtsE_len, HL'.out, HSt.out, flatQ_append, flatQ_one]
                    exact hown'
                  go_wp2
                  go_roundg (gk - 1)
                  case measure => have := HK.out; omega
                  case rel => exact ⟨j + 1, st', by have := HK.out; omega, by go_num, HGo.out, HTr2.out, by have := HL'.out; omega, HBd.out, fun h => absurd h HNe.out, ho4, hb4⟩
              · have HJ2 := Lib.hid (fun wx (hb : Below w1.heap.size w1 wx) => HJ.out (some ⟨g, f * 2, none⟩) (cV - f) wx (HRw.out wx hb))
                go_region_law ((first
                  | (refine step_append_lies _ rfl (.tmp 32) (.tmp 39) 127 rfl w.heap.size 129 i z 2 16 Tryz.underlying127 HI.out hz0 hz1 hzs hz2 (by omega) (.slice (some ⟨g, 0, none⟩) f cV) f (flatQ ((prtsE st).take f)) (by simp [Act.eval]) (World.ownsRow.alloc (HOc.out _ hb3) _) ⟨w3.heap.size, 0, none⟩ 1 1 (cellsQ pj) (by simp [Act.eval]) (by rfl) (newsQ w3 _ pj) (cellsQ_one _) (by omega) (by unfold maxLen; omega) (by omega) (by have := HB3.out.size; simp; omega) (w3.heap.size + 1) (by simp) ?_; intro g1 cap1 w4 hown' hgrow hat hlt')
                  | (go_simp; go_wp2_with (go_at_call 85; refine (HJ2.out _ (Below.refl _ _).drew).mono ?_; rintro r w3 ⟨rfl, hb3'⟩; have hb3 : Below w1.heap.size w1 w3 := (Below.refl _ w1).drew.trans hb3'; have HB3 := Lib.hid (HB1.out.trans (hb3.mono HB1.out.size)); clear hb3'))))
                all_goals
                  have hb4 : Below w.heap.size w w4 := (HB3.out.alloc HB3.out.size _).grown hgrow (by have := HB3.out.size; simp; omega) (fun g' hg' => by simp [Value.ownBlock] at hg'; omega)
                  have ho4 : OwnQ w4 w.heap.size (.slice (some ⟨g1, 0, none⟩) (f + 1) cap1) (prtsE st') := by
                    unfold OwnQ
                    rw [prtsE_len, HL'.out, HSt.out, flatQ_append, flatQ_one]
                    exact hown'
                  go_wp2
                  go_roundg (gk - 1)
                  case measure => have := HK.out; omega
                  case rel => exact ⟨j + 1, st', by have := HK.out; omega, by go_num, HGo.out, HTr2.out, by have := HL'.out; omega, HBd.out, fun h => absurd h HNe.out, ho4, hb4⟩
        · rw [if_pos he] at hgo
          have HL := Lib.hid (show checkL l = ownT x by unfold checkL; rw [if_neg h40, hgo, if_pos he])
          clear hgo hnil
          have hd : (ownT x != 0) = true := by simpa using he
          generalize ownT x = e at *
          obtain ⟨op, ⟨vk, vn, vs⟩, nm⟩ := x
          simp only [termVal, cellsT] at c0 c1 c2 c3 c4 HRt HBN
          go_wp2_with (go_at_call 83; refine (HRt.out _).mono ?_; rintro r w1 ⟨rfl, hb1⟩; have HB1 := Lib.hid (HBN.out.trans (hb1.mono HBN.out.size)); clear hb1)
          go_ret
          rw [HL.out]
          exact ⟨rfl, HB1.out⟩
      · have hlt : decide ((j : Int) < (l.length : Int)) = false := by simpa using hj
        have hlt2 : decide (j < l.length) = false := by simpa using hj
        rw [List.drop_eq_nil_of_le (by omega), checkGo] at hgo
        have htr := HTr.out
        rw [List.drop_eq_nil_of_le (by omega)] at htr
        have htr : treesE [] l = st := htr
        have hcl : checkL l = if st.length = 0 then 6 else if 1 < st.length then 8 else if 12 < deepE (st.headD (.val V0)) then 50 else 0 := by
          unfold checkL treeE
          rw [if_neg h40, hgo, htr, if_neg (by simp)]
        clear hgo htr
        by_cases h0 : st.length = 0
        · have HL := Lib.hid (show checkL l = 6 from by rw [hcl, if_pos h0])
          rw [h0]
          clear hcl
          go_wp2
          go_ret
          first | exact ⟨rfl, HB.out⟩ | (rw [HL.out]; exact ⟨rfl, HB.out⟩)
        by_cases h1 : 1 < st.length
        · have HL := Lib.hid (show checkL l = 8 from by rw [hcl, if_neg h0, if_pos h1])
          have q0 : ((st.length : Int) == 0) = false := by rw [beq_eq_false_iff_ne]; omega
          have q0' : (st.length == 0) = false := by rw [beq_eq_false_iff_ne]; omega
          have q1 : decide ((1 : Int) < (st.length : Int)) = true := by rw [decide_eq_true_iff]; omega
          have q1' : decide (1 < st.length) = true := by rw [decide_eq_true_iff]; omega
          clear hcl
          go_wp2
          go_ret
          first | exact ⟨rfl, HB.out⟩ | (rw [HL.out]; exact ⟨rfl, HB.out⟩)
        · have e1 : st.length = 1 := by omega
          obtain ⟨t, rfl⟩ := List.length_eq_one_iff.1 e1
          obtain ⟨g, rfl, _, _, _, hc⟩ := HO.out.reads (by simp [prtsE])
          obtain ⟨k0, kk⟩ := hc 0 (by simp [prtsE])
          have k1 : wr.cell? ⟨g, 1, none⟩ = some (.int .i64 (deepE t : Int)) := kk
          clear kk
          rw [if_neg h0, if_neg h1] at hcl
          have hcl : checkL l = if 12 < deepE t then 50 else 0 := hcl
          clear k0 hc h0 h1 e1
          show Code.wp _ _ _ _ _
          generalize deepE t = dd at *
          by_cases h12 : 12 < dd
          · have HL := Lib.hid (show checkL l = 50 from by rw [hcl, if_pos h12])
            have q2 : decide ((12 : Int) < (dd : Int)) = true := by rw [decide_eq_true_iff]; omega
            clear hcl
            go_wp2
            go_ret
            first | exact ⟨rfl, HB.out⟩ | (rw [HL.out]; exact ⟨rfl, HB.out⟩)
          · have HL := Lib.hid (show checkL l = 0 from by rw [hcl, if_neg h12])
            have q2 : decide ((12 : Int) < (dd : Int)) = false := by rw [decide_eq_false_iff_not]; omega
            clear hcl
            go_wp2
            go_ret
            first | exact ⟨rfl, HB.out⟩ | (rw [HL.out]; exact ⟨rfl, HB.out⟩)
end Go.Proofs.YtidomoibhjgkjaaGreatDoor
