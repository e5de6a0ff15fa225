/-
  Package value: variables: Set.
-/
import Derived.Test.YtepniiaojhiogaaDoorVDV
namespace Go.Proofs.YtepniiaojhiogaaDoor
open Go.RowKit

theorem set_pred (nm : ByteArray) (k n : Int) (s : ByteArray) (B : Nat) (w : World) (hx : BoxN w B (nm, ⟨k, n, s⟩)) :
    PredV 59 #[.pointer (some ⟨B, 0, none⟩)] (fun y => blt nm.data.toList y.1.data.toList) w := fun W x hb => by
  have hB := (hx.below hb).lt
  obtain ⟨e0, _, _, _⟩ := (hx.below hb).cells
  have hne : B ≠ W.heap.size := by omega
  obtain ⟨nm2, k2, n2, s2⟩ := x
  show Calls Tryd.prog 59 #[.agg #[.string nm2, .int .i64 k2, .int .i64 n2, .string s2], .pointer (some ⟨B, 0, none⟩)] W fun e w' => e = .returned (.bool (blt nm.data.toList nm2.data.toList)) ∧ _
  have e1 : Op.bytesLess nm.toList nm2.toList = blt nm.data.toList nm2.data.toList := by rw [ByteArray.toList_eq, ByteArray.toList_eq]
  have e2 : Op.bytesLess nm2.toList nm.toList = blt nm2.data.toList nm.data.toList := by rw [ByteArray.toList_eq, ByteArray.toList_eq]
  have h3 : (blt nm.data.toList nm2.data.toList = true ∧ blt nm2.data.toList nm.data.toList = false ∧ (nm2.toList == nm.toList) = false) ∨ (blt nm.data.toList nm2.data.toList = false ∧ blt nm2.data.toList nm.data.toList = true ∧ (nm2.toList == nm.toList) = false) ∨ (blt nm.data.toList nm2.data.toList = false ∧ blt nm2.data.toList nm.data.toList = false ∧ (nm2.toList == nm.toList) = true) := by
    rw [ByteArray.toList_eq, ByteArray.toList_eq]
    rcases blt_tri nm.data.toList nm2.data.toList with h | h | h
    · exact .inl ⟨h, blt_asymm h, beq_eq_false_iff_ne.2 (fun e => by rw [e, blt_self] at h; cases h)⟩
    · rw [h]; exact .inr (.inr ⟨blt_self _, blt_self _, beq_self_eq_true _⟩)
    · exact .inr (.inl ⟨blt_asymm h, h, beq_eq_false_iff_ne.2 (fun e => by rw [e, blt_self] at h; cases h)⟩)
  generalize blt nm.data.toList nm2.data.toList = p at *
  generalize blt nm2.data.toList nm.data.toList = q at *
  rcases h3 with ⟨rfl, rfl, h⟩ | ⟨rfl, rfl, h⟩ | ⟨rfl, rfl, h⟩
  all_goals
    go_enter Tryd.func59, Tryd.ntmps59
    go_wp2
    go_ret
    exact ⟨rfl, hb.alloc hb.size _⟩

set_option maxRecDepth 100000 in
set_option maxHeartbeats 4000000 in
theorem vSet_any : SetC := by
  intro l A c x w hsh hl40 hx1 hx2 hc hcm hz hr
  have HR := Lib.hid hr
  obtain ⟨nm, k, n, s⟩ := x
  simp only at hx1 hx2
  have hb0 : Below w.heap.size w (w.alloc (.cells #[.string nm, .int .i64 k, .int .i64 n, .string s] 47)) := box_below _ _ _
  have hx0 := BoxN.new w nm k n s
  generalize hw0 : w.alloc (.cells #[.string nm, .int .i64 k, .int .i64 n, .string s] 47) = w0 at hb0 hx0
  have HB0 := Lib.hid hb0
  have HX0 := Lib.hid hx0
  have HW0 := Lib.hid hw0
  have HFind := Lib.hid (find_any l A c 0 w.heap.size nm w0 (by omega) (hr.below hb0 (Nat.le_refl _)) hb0.size)
  have hl5 : l.length ≤ 1000 := by omega
  obtain ⟨e0, e1, e2, e3⟩ := hx0.cells
  clear hr hsh hb0 hx0 hw0
  show Calls Tryd.prog 27 #[.slice A l.length c, .agg #[.string nm, .int .i64 k, .int .i64 n, .string s]] w _
  go_enter Tryd.func27, Tryd.ntmps27
  go_upto_region 1 with fail
  rw [HW0.out]
  go_wp2_with fail
  refine HFind.out.mono ?_
  rintro e w1 ⟨⟨z, rfl, hz⟩, hb⟩
  have HX1 := Lib.hid (HX0.out.below hb)
  have HB1 := Lib.hid (HB0.out.trans (hb.mono HB0.out.size))
  have hbox : w.heap.size < w1.heap.size := HX1.out.lt
  clear hb HFind e0 e1 e2 e3
  rcases hz with ⟨j, hj, rfl, he, hbef⟩ | ⟨rfl, hno⟩
  · have HS := Lib.hid (setL_put (x := (nm, ⟨k, n, s⟩)) hj hbef he)
    have HE := Lib.hid he
    have hlt : decide ((0 : Int) ≤ (j : Int)) = true := by simp
    have hlt2 : decide (j < l.length) = true := by simpa using hj
    have hlt3 : decide ((j : Int) < (l.length : Int)) = true := by simpa using hj
    obtain ⟨b, o, rfl, _⟩ := (HR.out.below HB1.out (Nat.le_refl _)).at_ hj
    have HCl := Lib.hid (clone_any l b o c 0 w.heap.size w1 (by omega) hl5 (HR.out.below HB1.out (Nat.le_refl _)) HB1.out.size)
    clear hbef he
    go_wp2_with fail
    refine HCl.out.mono ?_
    rintro e w2 ⟨g, cap, rfl, hg, hcap, hcapm, hrow, hb2⟩
    obtain ⟨e0, e1, e2, e3⟩ := (HX1.out.below hb2).cells
    obtain ⟨v0, v1, v2, v3⟩ := hrow.at_ hj
    have f1 := hrow.frozen (j * 4 + 1)
    have f2 := hrow.frozen (j * 4 + 2)
    have f3 := hrow.frozen (j * 4 + 3)
    have hlg := hrow.lt
    have HRow := Lib.hid hrow
    have HB2 := Lib.hid (HB1.out.trans (hb2.mono HB1.out.size))
    have hgw : w.heap.size ≤ g := by have := HB1.out.size; omega
    have HGW := Lib.hid hgw
    clear hrow hb2 HCl
    go_wp2_with fail
    go_ret
    have hst := HRow.out.store j ⟨k, n, s⟩ hj
    have hbs := ((HB2.out.setCell (p := ⟨g, j * 4 + 1, none⟩) HGW.out (.int .i64 k)).setCell (p := ⟨g, j * 4 + 2, none⟩) HGW.out (.int .i64 n)).setCell (p := ⟨g, j * 4 + 3, none⟩) HGW.out (.string s)
    rw [HE.out] at hst
    rw [HS.out]
    exact ⟨some ⟨g, 0, none⟩, cap, by simp, by simp; omega, hcapm, fun h => (by cases h), hst.reads.wide (Nat.zero_le _) hst.lt, hbs⟩
  · have hlt : decide ((0 : Int) ≤ (-1 : Int)) = false := by decide
    have eg : ∀ args w, (callFunc 59 args).run Tryd.prog w = .ok (.enter 59 args) w := enters_of Tryd.func59 (by kernel_rfl) rfl
    have HI := Lib.hid (index_any (fun y => blt nm.data.toList y.1.data.toList) 59 #[.pointer (some ⟨w.heap.size, 0, none⟩)] eg l A c 0 w.heap.size w1 (set_pred nm k n s w.heap.size w1 HX1.out) (by omega) (HR.out.below HB1.out (Nat.le_refl _)) HB1.out.size)
    clear eg
    go_wp2_with fail
    refine HI.out.mono ?_
    rintro e wr ⟨⟨z, rfl, hz⟩, hb2⟩
    have HXr := Lib.hid (HX1.out.below hb2)
    have HBr := Lib.hid (HB1.out.trans (hb2.mono HB1.out.size))
    have hboxr : w.heap.size < wr.heap.size := HXr.out.lt
    have hPl : ∃ p, p ≤ l.length ∧ (z = (p : Int) ∧ p < l.length ∨ z = -1 ∧ p = l.length) ∧ setL l (nm, ⟨k, n, s⟩) = l.take p ++ (nm, ⟨k, n, s⟩) :: l.drop p := by
      rcases hz with ⟨j, hj, e, h1, h2⟩ | ⟨e, h⟩
      · exact ⟨j, by omega, .inl ⟨e, hj⟩, setL_ins (x := (nm, ⟨k, n, s⟩)) (by omega) hno h2 (fun _ => h1)⟩
      · exact ⟨l.length, Nat.le_refl _, .inr ⟨e, rfl⟩, setL_ins (x := (nm, ⟨k, n, s⟩)) (Nat.le_refl _) hno (fun i hi _ => h i hi) (fun h => absurd h (by omega))⟩
    obtain ⟨p, hp, hzp, hset⟩ := hPl
    have HS := Lib.hid hset
    have HZ := Lib.hid hzp
    clear hb2 hno hz HI hset hzp
    have hmk : ∀ w, (Instr.makeSlice 45 (.int .i64 ((l.length : Int) + 1)) (.int .i64 ((l.length : Int) + 1))).run Tryd.prog w = .ok (.slice (some ⟨w.heap.size, 0, none⟩) (l.length + 1) (l.length + 1)) (w.alloc (.cells (flatV (List.replicate (l.length + 1) varZero)).toArray 47)) := fun w => by
      have := make_vars (l.length + 1) (by omega) w
      simpa using this
    have hpi : (p : Int) ≤ (l.length : Int) := by omega
    have hpc : (p : Int) ≤ (c : Int) := by omega
    have hp0 : (0 : Int) ≤ (p : Int) := by omega
    have hb1 : Below w.heap.size w (wr.alloc (.cells (flatV (List.replicate (l.length + 1) varZero)).toArray 47)) := HBr.out.alloc HBr.out.size _
    have HRow1 := Lib.hid (RowOf.made wr (l.length + 1))
    have HR1 := Lib.hid (HR.out.below hb1 (Nat.le_refl _))
    have HX2 := Lib.hid (HXr.out.below ((Below.refl _ _).alloc (Nat.le_refl _) (.cells (flatV (List.replicate (l.length + 1) varZero)).toArray 47)))
    have HB2 := Lib.hid hb1
    have hne : (some wr.heap.size : Option Nat) ≠ some w.heap.size := by intro h; injection h; omega
    clear hb1
    have hrs : ∀ (rows : List VN), rows = (List.replicate (l.length + 1) varZero).take 0 ++ l.take p ++ (List.replicate (l.length + 1) varZero).drop (0 + (l.take p).length) → rows.length = l.length + 1 ∧ rows.take p = l.take p := fun rows e => by
      subst e
      have h1 : (l.take p).length = p := by rw [List.length_take]; omega
      constructor
      · simp; omega
      · simp only [List.take_zero, List.nil_append]
        rw [List.take_append_of_le_length (by omega), List.take_of_length_le (by omega)]
    have HRS := Lib.hid hrs
    clear hrs
    have hcm' : c ≤ 9223372036854775807 := by unfold maxLen at hcm; omega
    rcases HZ.out with ⟨rfl, hpl⟩ | ⟨rfl, hpl⟩
    all_goals
      (try have hn0 : decide ((p : Int) < 0) = false := by simp)
      go_upto_region 9 with fail
      (try rw [show (Value.int .i64 (l.length : Int)) = .int .i64 (p : Int) by rw [hpl]])
      clear hpl
      go_wp2_with (refine wpList_copy_vars _ rfl (.tmp 35) (.tmp 38) rfl wr.heap.size 0 (List.replicate (l.length + 1) varZero) (l.take p) 0 w.heap.size _ _ _ _ _ _ rfl rfl (by rw [List.length_take]; omega) (by rw [List.length_take]; omega) (by rw [List.length_take]; simp; omega) (fun _ => by simp) HRow1.out (HR1.out.take p) ?_; intro w4 hrow4 hgr4
                   obtain ⟨rows, hrows⟩ : ∃ rows, rows = (List.replicate (l.length + 1) varZero).take 0 ++ l.take p ++ (List.replicate (l.length + 1) varZero).drop (0 + (l.take p).length) := ⟨_, rfl⟩
                   rw [← hrows] at hrow4
                   obtain ⟨hlen4, htk4⟩ := HRS.out rows hrows
                   have HLen4 := Lib.hid hlen4
                   have HTk4 := Lib.hid htk4
                   have hpr : p < rows.length := by omega
                   obtain ⟨e0, e1, e2, e3⟩ := (HX2.out.grown hgr4 hne).cells
                   have hv4 := hrow4.at_ hpr
                   generalize rows[p]'hpr = y4 at hv4
                   obtain ⟨v0, v1, v2, v3⟩ := hv4
                   have f0 := hrow4.frozen (p * 4)
                   have f1 := hrow4.frozen (p * 4 + 1)
                   have f2 := hrow4.frozen (p * 4 + 2)
                   have f3 := hrow4.frozen (p * 4 + 3)
                   have HB4 := Lib.hid (HB2.out.grown hgr4 HB2.out.size (by intro i hi; injection hi; have := HBr.out.size; omega))
                   have HR4 := Lib.hid (HR.out.below HB4.out (Nat.le_refl _))
                   have HRow4 := Lib.hid hrow4
                   have hplt : (p : Int) < (l.length : Int) + 1 := by omega
                   clear hrow4 hgr4 hrows hlen4 htk4)
      obtain ⟨w5, hw5⟩ : ∃ wy, (((w4.setCell ⟨wr.heap.size, p * 4, none⟩ (.string nm)).setCell ⟨wr.heap.size, p * 4 + 1, none⟩ (.int .i64 k)).setCell ⟨wr.heap.size, p * 4 + 2, none⟩ (.int .i64 n)).setCell ⟨wr.heap.size, p * 4 + 3, none⟩ (.string s) = wy := ⟨_, rfl⟩
      rw [hw5]
      have hg0 : w.heap.size ≤ wr.heap.size := HBr.out.size
      have HRow5 := Lib.hid (show RowOf w5 wr.heap.size (rows.set p (nm, ⟨k, n, s⟩)) by rw [← hw5]; exact HRow4.out.store p (nm, ⟨k, n, s⟩) hpr)
      have hb5 : Below w.heap.size w w5 := by rw [← hw5]; exact Below.store4 HB4.out hg0 _ _ _ _ _ _ _ _
      have HR5 := Lib.hid ((HR.out.below hb5 (Nat.le_refl _)).drop p c hc hp)
      have HB5 := Lib.hid hb5
      have hs1 := fun w => slice_from (some ⟨wr.heap.size, 0, none⟩) (l.length + 1) (l.length + 1) (p + 1) ((p : Int) + 1) (by omega) (by omega) (Nat.le_refl _) (by omega) (by intro h; cases h) w
      have hs2 := fun w => slice_from A l.length c p (p : Int) rfl hp hc hcm' hz w
      have hfin : ((rows.set p (nm, ⟨k, n, s⟩)).take (p + 1) ++ l.drop p ++ (rows.set p (nm, ⟨k, n, s⟩)).drop (p + 1 + (l.drop p).length)) = setL l (nm, ⟨k, n, s⟩) := by
        have hlen := HLen4.out
        have hd : (rows.set p (nm, ⟨k, n, s⟩)).drop (p + 1 + (l.drop p).length) = [] := List.drop_of_length_le (by rw [List.length_set, List.length_drop]; omega)
        rw [HS.out, hd, List.append_nil, List.take_succ_eq_append_getElem (by rw [List.length_set]; omega), List.getElem_set_self, List.take_set_of_le (Nat.le_refl _), HTk4.out, List.append_assoc]
        rfl
      have HFin := Lib.hid hfin
      clear hw5 hb5 hfin v0 v1 v2 v3 f0 f1 f2 f3 e0 e1 e2 e3
      have hw1 : IntKind.i64.wrap ((p : Int) + 1) = (p : Int) + 1 := IntWalk.i64_in _ (by omega)
      go_still_tail 7, (by kernel_rfl)
      change wpList _ _ _ _ _ w5.drew
      clear hs1 hs2 hw1
      refine wpList_copy_vars w5.drew rfl (.tmp 47) (.tmp 50) rfl wr.heap.size (p + 1) (rows.set p (nm, ⟨k, n, s⟩)) (l.drop p) 0 w.heap.size _ _ _ _ (fromA (some ⟨wr.heap.size, 0, none⟩) (l.length + 1) (p + 1)) (fromA A c p) rfl rfl (by rw [List.length_drop]) (by rw [List.length_drop]; first | exact Nat.le_refl _ | omega) (by have := HLen4.out; rw [List.length_drop, List.length_set]; omega)
        (fun h => by rw [List.length_drop] at h; rw [fromA, if_neg (by omega)]; simp [addr_add]) HRow5.out HR5.out ?_
      intro w6 hrow6 hgr6
      rw [HFin.out] at hrow6
      have HRow6 := Lib.hid hrow6
      have HB6 := Lib.hid (Below.grown HB5.out.drew hgr6 HB5.out.size (by intro i hi; injection hi with hi; omega))
      have hlast : (setL l (nm, ⟨k, n, s⟩)).length = l.length + 1 := by rw [HS.out]; simp; omega
      have HLast := Lib.hid hlast
      clear hrow6 hgr6 hlast
      go_wp2_with fail
      go_ret
      refine ⟨some ⟨wr.heap.size, 0, none⟩, l.length + 1, by rw [HLast.out]; rfl, by rw [HLast.out]; exact Nat.le_refl _, by unfold maxLen; omega, fun h => (by cases h), HRow6.out.reads.wide (Nat.zero_le _) HRow6.out.lt, HB6.out⟩
end Go.Proofs.YtepniiaojhiogaaDoor
