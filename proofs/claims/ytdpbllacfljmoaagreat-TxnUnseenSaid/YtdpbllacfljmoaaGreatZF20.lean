import Derived.Test.YtdpbllacfljmoaaGreatZF19
import Derived.Test.YtdpbllacfljmoaaGreatZF16
import Derived.BigQuiet
import Derived.RegionTactic
import Derived.Test.YtdpbllacfljmoaaGreatZF18
set_option maxRecDepth 100000
set_option maxHeartbeats 16000000
set_option linter.unusedVariables false
namespace Go.Proofs.YtdpbllacfljmoaaGreat
open Go.RowKit
def RetM (ks fresh : List KeyS) (kv : Value) (w : World) (e : Ending) (w' : World) : Prop :=
 ∃ v' out, e = .returned v' ∧ OwnG 9 1 q0w w' 0 v' out ∧ q2s out ∧ (∀ x, x ∈ out ↔ x ∈ ks ∨ x ∈ fresh) ∧ w.grownBy w' kv.ownBlock ∧ (v'.ownBlock = kv.ownBlock ∨ v'.ownBlock = some w.heap.size)
theorem q68 (ks : List KeyS) (kv : Value) (w : World) (hk1 : ks.length ≤ 1048576) (ho : OwnG 9 1 q0w w 0 kv ks) (hri : q2s ks) :
  Calls Tryz.prog 243 #[kv, .slice none 0 0] w (RetM ks [] kv w) := by
 have HQ : Hid (RetM ks [] kv w (.returned kv) w) := qh ⟨kv, ks, rfl, ho, hri, fun x => by simp, ⟨rfl, rfl, rfl, Nat.le_refl _, fun _ _ _ => rfl⟩, .inl rfl⟩
 have HO := qh ho
 obtain ⟨A0, c0, rfl, f1, f2, f3, _⟩ := OwnG.form ho
 obtain ⟨i0, z, hi0, _, _, hz2, _⟩ := qdo
 clear ho f1 f2 f3 hri
 go_enter Tryz.func243, Tryz.ntmps243
 go_wp2_with (at_builtin; refine wpList_append_own_none rfl _ _ _ rfl 0 _ i0 1 Tryz.underlying163 hi0 _ ks.length (q0g q0w ks) rfl HO.out rfl ?_)
 go_loopg [6, 7] 0 (fun q e i wr => e = .int .i64 ks.length ∧ i = .int .i64 (-1) ∧ wr = w)
 case atStart => exact ⟨rfl, rfl, rfl⟩
 case round =>
  obtain ⟨rfl, rfl, hw⟩ := hrel
  subst hw
  go_wp2
  go_ret
  exact HQ.out
theorem flatK (l : List KeyS) : q0g q0w l = l.map keyV := by
 induction l with
 | nil => rfl
 | cons x l ih => rw [q0k, ih]; rfl
theorem q3G {w : World} {lo : Nat} {v : Value} {l : List KeyS} (h : OwnG 9 1 q0w w lo v l) (hn : 0 < l.length) :
  ∃ g cap cur, v = .slice (some ⟨g, 0, none⟩) l.length cap ∧ w.heap[g]? = some (.cells cur 9 (0, 0)) ∧ l.length ≤ cap ∧ cap ≤ maxLen ∧ cur.size = cap ∧ cur.toList.take l.length = l.map keyV := by
 rcases h.2 with ⟨_, h0⟩ | ⟨g, cap, cur, hv, _, hg, h1, h2, h3, h4⟩
 ·omega
 ·refine ⟨g, cap, cur, hv, hg, h1, h2, by omega, ?_⟩
  rw [Nat.mul_one] at h4
  rw [h4, flatK]
theorem qdS {w : World} {v : Value} {l : List KeyS} {g cap : Nat} {cur : Array Value} (hv : v = .slice (some ⟨g, 0, none⟩) l.length cap) (hg : w.heap[g]? = some (.cells cur 9 (0, 0))) (h1 : l.length ≤ cap) (h2 : cap ≤ maxLen) (h3 : cur.size = cap)
  (h4 : cur.toList.take l.length = l.map keyV) : OwnG 9 1 q0w w 0 v l := by
 refine ⟨by rw [kF.flat_len], .inr ⟨g, cap, cur, hv, Nat.zero_le _, hg, h1, h2, by omega, ?_⟩⟩
 rw [Nat.mul_one, h4, flatK]
theorem qgo {w : World} {l : List KeyS} {g n : Nat} {cur : Array Value} (hg : w.heap[g]? = some (.cells cur 9 (0, 0))) (h : ∀ i (hi : i < l.length), i < n → cur[i]? = some (keyV (l[i]'hi))) : RowG q0w w g (g + 1) (some ⟨g, 0, none⟩) (l.take n) :=
 RowG.block hg fun j u hu => by
  have hj := (List.getElem?_eq_some_iff.1 hu).1
  rw [kF.flat_len, List.length_take] at hj
  have e := kF.flat_at (l.take n) j (by rw [List.length_take]; omega) 0 (by omega)
  rw [Nat.mul_one, Nat.add_zero] at e
  rw [e] at hu
  rw [h j (by omega) (by omega), ← hu, List.getElem_take]
  rfl
theorem q9U (ks fresh : List KeyS) (kv : Value) (ad : Addr) (c lo hi : Nat) (w : World) (hk1 : ks.length ≤ 1048576) (hf1 : fresh.length ≤ 1048576) (hf0 : 0 < fresh.length) (ho : OwnG 9 1 q0w w 0 kv ks)
  (hr : RowG q0w w lo hi (some ad) fresh) (hhi : hi ≤ w.heap.size) (hsep : ∀ b, kv.ownBlock = some b → b < lo ∨ hi ≤ b) (hri : q2s ks) (hrf : q2s fresh) (hd : ∀ x ∈ ks, ∀ y ∈ fresh, x ≠ y) :
  Calls Tryz.prog 243 #[kv, .slice (some ad) fresh.length c] w (RetM ks fresh kv w) := by
 have HO := qh ho
 have HR := qh hr
 have HK1 := qh hk1
 have HF1 := qh hf1
 have HF0 := qh hf0
 have HHi := qh hhi
 have HSep := qh hsep
 have HRi := qh hri
 have HRf := qh hrf
 have HD := qh hd
 obtain ⟨A0, c0, rfl, f1, f2, f3, _⟩ := OwnG.form ho
 have HOB : Hid (∀ w', w.grownBy w' (Value.slice A0 ks.length c0).ownBlock → w.grownBy w' (Value.slice A0 ks.length c0).ownBlock) := qh fun _ h => h
 clear ho f1 f2 f3 hri hr hhi hsep hrf hd hf0
 go_enter Tryz.func243, Tryz.ntmps243
 go_wp2_with (at_builtin; refine q13 _ rfl _ _ 163 9 16 kF qdo Tryz.underlying163 rfl 0 _ ks rfl HO.out lo hi ad fresh.length c fresh rfl rfl HR.out (by have := HK1.out; have := HF1.out; unfold maxLen; omega) (by have := HK1.out; have := HF1.out; omega) (Nat.zero_le _) ?_; intro v1 w1 ho1 hg1 hat1; have HO1 := qh ho1; have HG1 := qh hg1; have HA1 := qh hat1; clear ho1 hg1 hat1)
 obtain ⟨g, cap, cur0, hv1, hg0, hc1, hc2, hc3, hc4⟩ := q3G HO1.out (by rw [List.length_append]; have := HF0.out; omega)
 have HN : Hid ((ks ++ fresh).length = ks.length + fresh.length) := qh List.length_append
 obtain ⟨N, hN⟩ : ∃ N, ks.length + fresh.length = N := ⟨_, rfl⟩
 rw [HN.out, hN] at hv1 hc1 hc4
 subst hv1
 have HG0 := qh hg0
 have HC4 := qh hc4
 have HC3 := qh hc3
 have HC2 := qh hc2
 have hsg : g < lo ∨ hi ≤ g := by
  rcases HA1.out with h | h
  ·exact HSep.out g (h.symm.trans rfl)
  ·simp only [Value.ownBlock, Option.some.injEq] at h
   have := HHi.out
   omega
 have hr1 : RowG q0w w1 lo hi (some ad) fresh := RowG.grown HR.out HG1.out HHi.out (fun b hb => HSep.out b hb)
 have hi1 : hi ≤ w1.heap.size := Nat.le_trans HHi.out HG1.out.size
 have HSg := qh hsg
 have HR1 := qh hr1
 have HI1 := qh hi1
 clear hg0 hc4 hc3 hc2 hsg hr1 hi1
 go_loopg [6, 7] fresh.length (fun q e i wr => ∃ (en : Nat) (x : Int) (M : List KeyS) (cur : Array Value), e = .int .i64 en ∧ i = .int .i64 x ∧ x = (q : Int) - 1 ∧ en ≤ ks.length ∧ q ≤ fresh.length ∧ en + q + M.length = N ∧ wr.heap[g]? = some (.cells cur 9 (0, 0)) ∧ cur.size = cap ∧ MArr ks cur en q M ∧ MInv ks fresh en q M ∧ w1.grownBy wr (some g))
 case atStart => exact ⟨ks.length, _, [], cur0, rfl, rfl, rfl, Nat.le_refl _, Nat.le_refl _, by simpa using hN, HG0.out, HC3.out, MArr.start (by rw [hN]; exact HC4.out), MInv.start ks fresh, ⟨rfl, rfl, rfl, Nat.le_refl _, fun _ _ _ => rfl⟩⟩
 case round =>
  obtain ⟨en, x, M, cur, rfl, rfl, hx, h1, h2, h3, h4, h5, h6, h7, h8⟩ := hrel
  have H4 := qh h4
  have H5 := qh h5
  have H6 := qh h6
  have H7 := qh h7
  have H8 := qh h8
  clear h4 h5 h6 h7 h8
  rcases Nat.eq_zero_or_pos gk with h0 | h0
  ·subst h0
   obtain rfl : x = -1 := by omega
   clear hx
   have HQ := qh (show RetM ks fresh (.slice A0 ks.length c0) w (.returned (.slice (some ⟨g, 0, none⟩) N cap)) wr from
    ⟨_, ks.take en ++ M, rfl, qdS (by rw [List.length_append, List.length_take, Nat.min_eq_left h1]; rw [show en + M.length = N by omega]) H4.out (by rw [List.length_append, List.length_take, Nat.min_eq_left h1]; omega) HC2.out H5.out (by
      have e : (ks.take en ++ M).length = N := by rw [List.length_append, List.length_take, Nat.min_eq_left h1]; omega
      rw [e]
      exact H6.out.done h1 (by omega) (by rw [H5.out]; exact hc1)), H7.out.rise_all HRi.out, H7.out.mem_all,
     ⟨H8.out.os.trans HG1.out.os, H8.out.tape.trans HG1.out.tape, H8.out.output.trans HG1.out.output, Nat.le_trans HG1.out.size H8.out.size, fun b hb hne => by
      refine (H8.out.block b (Nat.lt_of_lt_of_le hb HG1.out.size) fun e => ?_).trans (HG1.out.block b hb hne)
      injection e with e
      subst e
      rcases HA1.out with h | h
      ·exact hne (h.symm ▸ rfl)
      ·simp only [Value.ownBlock, Option.some.injEq] at h
       omega⟩, HA1.out⟩)
   go_wp2
   go_ret
   exact HQ.out
  ·obtain ⟨r, hr⟩ : ∃ r, gk = r + 1 := ⟨gk - 1, by omega⟩
   subst hr
   obtain rfl : x = (r : Int) := by omega
   clear hx
   have hrl : r < fresh.length := by omega
   obtain ⟨a, ha⟩ := qaq (ks.take en) (fresh[r]'hrl) (List.Pairwise.sublist (List.take_sublist _ _) HRi.out)
   have HA := qh ha
   have hae : a ≤ en := by have := ha.1; rw [List.length_take] at this; omega
   have d0 : decide ((0 : Int) ≤ (r : Int)) = true := by rw [decide_eq_true_iff]; omega
   have d1 : (0 : Int) ≤ (en : Int) := by omega
   have d2 : (en : Int) ≤ (cap : Int) := by omega
   have d3 : decide ((r : Int) < (fresh.length : Int)) = true := by rw [decide_eq_true_iff]; omega
   have d4 : decide (r < fresh.length) = true := by rw [decide_eq_true_iff]; omega
   have d5 : (0 : Int) ≤ (r : Int) := by omega
   have d6 : (r : Int) < (fresh.length : Int) := by omega
   have hfr : RowG q0w wr lo hi (some ad) fresh := RowG.grown HR1.out H8.out HI1.out (fun b hb => by cases hb; exact HSg.out)
   obtain ⟨fb, fo, had, _, hfb, hcell⟩ := hfr.at_ kF hrl
   injection had with had
   subst had
   have q0 := hcell 0 _ rfl
   simp only [Nat.add_zero, Nat.mul_one] at q0
   have hfg : fb ≠ g := by
    rcases HSg.out with h | h <;> omega
   have hlen : (ks.take en).length = en := by rw [List.length_take]; omega
   have HSearch : Hid (∀ n, Calls Tryz.prog 177 #[.slice (some ⟨g, 0, none⟩) en cap, .string (bs (fresh[r]'hrl))] (wr.drewN n) fun e w' => e = .returned (.tuple #[.int .i64 a, .bool ((ks.take en)[a]? == some (fresh[r]'hrl))]) ∧ w' = wr.drewN n) := qh fun n => by
    have h := q8v (ks.take en) (some ⟨g, 0, none⟩) cap g (g + 1) (fresh[r]'hrl) (wr.drewN n) (by rw [hlen]; have := HK1.out; omega) ((qgo H4.out fun i hi hin => H6.out.low i hi hin).keep (w' := wr.drewN n) fun _ _ _ => rfl) (List.Pairwise.sublist (List.take_sublist _ _) HRi.out) a HA.out
    rw [hlen] at h
    exact h
   generalize ((ks.take en)[a]? == some (fresh[r]'hrl)) = is at *
   have HSt := qh (H7.out.step HRi.out HRf.out HD.out h1 hrl HA.out)
   have HAr := qh (MArr.step (f := fresh[r]'hrl) H6.out hae h1 (by rw [H5.out]; omega))
   clear hcell ha
   generalize fresh[r] = f at *
   go_wp2_with fail
   go_quiet ((go_at_call 177; exact Calls.quiet_of_same (HSearch.out _)))
   obtain ⟨w5, hw5⟩ : ∃ y, wr.drewN nq = y := ⟨_, rfl⟩
   rw [hw5]
   have hg5 : w5.heap[g]? = some (.cells cur 9 (0, 0)) := by rw [← hw5]; exact H4.out
   obtain ⟨t, ht⟩ : ∃ t, a + r = t := ⟨_, rfl⟩
   obtain ⟨s, hs⟩ : ∃ s, t + 1 = s := ⟨_, rfl⟩
   have hab : a ≤ 1048576 := by have := HK1.out; omega
   have hrb : r ≤ 1048576 := by have := HF1.out; omega
   have htb : t ≤ 2097152 := by omega
   have hsb : s ≤ 2097153 := by omega
   have e1 : (a : Int) + (r : Int) = (t : Int) := by omega
   have e2 : (t : Int) + 1 = (s : Int) := by omega
   have k1 : (0 : Int) ≤ (s : Int) := by omega
   have k2 : (s : Int) ≤ (N : Int) := by omega
   have k3 : (N : Int) ≤ (cap : Int) := by omega
   have k4 : (0 : Int) ≤ (a : Int) := by omega
   have k5 : (a : Int) ≤ (en : Int) := by omega
   have hcl : (((ks.take en).drop a).map keyV).length = en - a := by rw [List.length_map, List.length_drop, hlen]
   obtain ⟨arr, harr⟩ : ∃ y, (cur.toList.take (a + (r + 1)) ++ (((ks.take en).drop a).map keyV) ++ cur.toList.drop (a + (r + 1) + (((ks.take en).drop a).map keyV).length)).toArray = y := ⟨_, rfl⟩
   have hcs : cur.toList.length = cur.size := by simp
   have harl : arr.size = cap := by
    rw [← harr]
    simp only [List.size_toArray, List.length_append, List.length_take, List.length_drop, hcl, hcs, H5.out]
    omega
   have hcell5 : ∀ j v, (((ks.take en).drop a).map keyV)[j]? = some v → w5.drew.cell? ((⟨g, a, none⟩ : Addr).add j) = some v := fun j v hj => by
    have hjl := (List.getElem?_eq_some_iff.1 hj).1
    rw [hcl] at hjl
    rw [q0Q, cell_of_row w5.drew g _ _ _ _ hg5]
    rw [H6.out.low (a + j) (by omega) (by omega)]
    rw [← hj, List.getElem?_map, List.getElem?_drop, List.getElem?_take_of_lt (by omega), List.getElem?_eq_getElem (by omega)]
    rfl
   have hone : ∀ v ∈ ((ks.take en).drop a).map keyV, v.oneCell' = true := fun v hv => by
    obtain ⟨x, _, rfl⟩ := List.mem_map.1 hv
    rfl
   have hcopy : ∀ ty, (Builtin.copy_ #[163, 163] ty #[.slice (if cap = s then some ⟨g, 0, none⟩ else some ⟨g, s, none⟩) (N - s) (cap - s), .slice (some ⟨g, a, none⟩) (en - a) (cap - a)]).run Tryz.prog w5.drew = .ok (.int .i64 ((en - a : Nat) : Int)) (w5.drew.setRow g arr) := fun ty => by
    by_cases hcs2 : cap = s
    ·rw [if_pos hcs2]
     have h0 : en - a = 0 := by omega
     have hnil : ((ks.take en).drop a).map keyV = [] := List.eq_nil_of_length_eq_zero (by rw [hcl, h0])
     have h := run_copy_row Tryz.prog w5.drew 163 163 ty 9 g 0 (N - s) (cap - s) ⟨g, a, none⟩ (en - a) (cap - a) cur 9 [] Tryz.underlying163 (by kernel_rfl) hg5 (by rw [h0]; exact (Nat.min_eq_left (Nat.zero_le _)).symm) (by simp) (by simp) (by simp)
     have ha2 : arr = (cur.toList.take 0 ++ [] ++ cur.toList.drop (0 + ([] : List Value).length)).toArray := by
      rw [← harr, hnil]
      simp
     rw [ha2, h, h0]
     rfl
    ·rw [if_neg hcs2]
     have h := run_copy_row Tryz.prog w5.drew 163 163 ty 9 g s (N - s) (cap - s) ⟨g, a, none⟩ (en - a) (cap - a) cur 9 (((ks.take en).drop a).map keyV) Tryz.underlying163 (by kernel_rfl) hg5 (by rw [hcl]; exact (Nat.min_eq_left (by omega)).symm) hcell5 (by rw [hcl, H5.out]; omega) hone
     have e5 : a + (r + 1) = s := by omega
     rw [e5] at harr
     rw [h, harr, hcl]
     rfl
   have q5 : w5.drew.cell? ⟨fb, fo + r, none⟩ = some (.string (bs f)) := by rw [← hw5]; exact q0
   obtain ⟨w6, hw6⟩ : ∃ y, w5.drew.setRow g arr = y := ⟨_, rfl⟩
   have hg6 : w6.heap[g]? = some (.cells arr 9 (0, 0)) := by rw [← hw6]; exact setRow_heap _ g cur arr _ _ hg5
   have q6 : w6.cell? ⟨fb, fo + r, none⟩ = some (.string (bs f)) := by rw [← hw6, cell_setRow_other _ _ _ _ hfg]; exact q5
   have hgr6 : w1.grownBy w6 (some g) := by
    have h := H8.out
    rw [← hw6, ← hw5]
    exact ⟨h.os, h.tape, h.output, by simp; exact h.size, fun b hb hne => by
     rw [setRow_other _ _ _ _ (fun e => hne (by rw [e]))]
     exact h.block b hb hne⟩
   have f6 := q02 hg6 t
   have z6 : w6.cell? ⟨g, t, none⟩ = some (arr[t]'(by rw [harl]; omega)) := by
    rw [cell_of_row w6 g t _ _ _ hg6]
    exact Array.getElem?_eq_getElem _
   have hgs : (w6.setCell ⟨g, t, none⟩ (.string (bs f))).heap[g]? = some (.cells (arr.setIfInBounds t (.string (bs f))) 9 (0, 0)) := by
    rw [setCell_eq_setRow w6 g t arr _ _ _ hg6]
    exact setRow_heap _ g _ _ _ _ hg6
   have hgr7 : w1.grownBy (w6.setCell ⟨g, t, none⟩ (.string (bs f))) (some g) := by
    rw [setCell_eq_setRow w6 g t arr _ _ _ hg6]
    exact ⟨hgr6.os, hgr6.tape, hgr6.output, by simp; exact hgr6.size, fun b hb hne => by
     rw [setRow_other _ _ _ _ (fun e => hne (by rw [e]))]
     exact hgr6.block b hb hne⟩
   generalize arr[t] = zz at *
   have HGS := qh hgs
   have HG7 := qh hgr7
   have HAr2 := qh (show MArr ks (arr.setIfInBounds t (.string (bs f))) a r (f :: ((ks.take en).drop a ++ M)) by have h := HAr.out; rw [harr, ht] at h; exact h)
   have HArl := qh (show (arr.setIfInBounds t (.string (bs f))).size = cap by rw [Array.size_setIfInBounds, harl])
   have HLen := qh (show a + r + (f :: ((ks.take en).drop a ++ M)).length = N by simp only [List.length_cons, List.length_append, List.length_drop, hlen]; omega)
   have k6 : decide ((t : Int) < (N : Int)) = true := by rw [decide_eq_true_iff]; omega
   have k7 : decide (t < N) = true := by rw [decide_eq_true_iff]; omega
   have HW6 := qh hw6
   clear hw5 hw6 hgs hgr6 hgr7 hg6 hone hcell5 harl hcs harr hcl HAr q5 q0 hg5 H4 H5 H6 H7 H8
   go_wp2_with fail
   go_region
   generalize (if cap = s then some (⟨g, 0, none⟩ : Addr) else some ⟨g, s, none⟩) = AA
   rw [HW6.out]
   go_wp2
   go_roundg r
   case measure => omega
   case rel => exact ⟨a, (r : Int) - 1, _, _, rfl, by go_num, rfl, by omega, by omega, HLen.out, HGS.out, HArl.out, HAr2.out, HSt.out, HG7.out⟩
open Go.RowKit
section
variable {w w' : World} {p : Nat} {F D : Nat → Prop} {B : Nat} {kv : Value} {cv : KeyS → Value} {L : LimS} {m r v : Int} {now : Nat} {g : KeyS → List Ver} {ks : List KeyS} {z : Sz}
theorem RawS.keysNew (h : RawS w p F D B kv cv L m r v now g ks z) {kv' : Value} {ks' : List KeyS} {n0 : Nat} (hn : ∀ b, F b → b < n0) (hb : w'.heap[p]? = some (.cells (boxS L m r v now B kv' z) 165 (0, 0))) (ho : OwnG 9 1 q0w w' 0 kv' ks')
  (hs : w.heap.size ≤ w'.heap.size) (hv : ∀ b, kv'.ownBlock = some b → kv.ownBlock = some b ∨ (n0 ≤ b ∧ b < w'.heap.size)) (hk : ∀ b, F b → b ≠ p → kv.ownBlock ≠ some b → w'.heap[b]? = w.heap[b]?) :
  RawS w' p (fun b => F b ∨ (n0 ≤ b ∧ b < w'.heap.size)) D B kv' cv L m r v now g ks' z := by
 have new : ∀ b, F b → ¬ (n0 ≤ b) := fun b hb h2 => by have := hn b hb; omega
 have hkD : ∀ b, D b → w'.heap[b]? = w.heap[b]? := fun b hb => hk b (h.FD b hb) (fun e => h.Dp (e ▸ hb)) fun e => (h.kvp b e).2.2 hb
 refine ⟨hb, h.map.keep (hk B h.FB (Ne.symm h.pB) fun e => (h.kvp B e).2.1 rfl), ho, fun k hg => (h.chain k hg).keep hkD (fun _ hb => hb) fun b hb => hk b (h.Fc k hg b hb) (h.cvp k hg b hb).1 (h.cvp k hg b hb).2.2.2, .inl h.Fp, .inl h.FB, fun b hb => ?_, fun k hg b hb => .inl (h.Fc k hg b hb), fun b hb => .inl (h.FD b hb), fun b hb => ?_, h.pB, fun b hb => ?_, fun k hg b hb => ?_, h.apart, h.Dp, h.DB⟩
 ·rcases hv b hb with h1 | h1
  ·exact .inl (h.Fk b h1)
  ·exact .inr h1
 ·rcases hb with h1 | h1
  ·exact Nat.lt_of_lt_of_le (h.lt b h1) hs
  ·exact h1.2
 ·rcases hv b hb with h1 | h1
  ·exact h.kvp b h1
  ·exact ⟨fun e => new p h.Fp (e ▸ h1.1), fun e => new B h.FB (e ▸ h1.1), fun e => new b (h.FD b e) h1.1⟩
 ·obtain ⟨k1, k2, k3, k4⟩ := h.cvp k hg b hb
  refine ⟨k1, k2, k3, fun e => ?_⟩
  rcases hv b e with h1 | h1
  ·exact k4 h1
  ·exact new b (h.Fc k hg b hb) h1.1
def qgz (w : World) (p : Nat) (F : Nat → Prop) (B : Nat) (L : LimS) (m r v : Int) (now : Nat) (K : KsS) (w' : World) : Prop :=
 ∃ F' D' kv' cv', RawS w' p F' D' B kv' cv' L m r v now (q03 K) (K.map Prod.fst) (szS K) ∧ Mut F w w' ∧ ∀ b, F' b → F b ∨ w.heap.size ≤ b
end
theorem q5u (g : Nat) (t : TypeId) : ∀ (vs : List Value) (o : Nat) (w : World) (cur : Array Value), w.heap[g]? = some (.cells cur t (0, 0)) →
  ∃ cur' : Array Value, (w.setCells g o vs).heap[g]? = some (.cells cur' t (0, 0)) ∧ cur'.size = cur.size ∧ (∀ i, i < o → cur'[i]? = cur[i]?) ∧ (∀ b, b ≠ g → (w.setCells g o vs).heap[b]? = w.heap[b]?) ∧ (w.setCells g o vs).heap.size = w.heap.size ∧
   (w.setCells g o vs).os = w.os ∧ (w.setCells g o vs).tape = w.tape ∧ (w.setCells g o vs).output = w.output
 | [], o, w, cur, h => ⟨cur, h, rfl, fun _ _ => rfl, fun _ _ => rfl, rfl, rfl, rfl, rfl⟩
 | v :: vs, o, w, cur, h => by
  have h1 : (w.setCell ⟨g, o, none⟩ v).heap[g]? = some (.cells (cur.setIfInBounds o v) t (0, 0)) := by
   rw [setCell_eq_setRow w g o cur t _ v h]
   exact setRow_heap w g cur _ _ _ h
  obtain ⟨cur', k1, k2, k3, k4, k5, k6, k7, k8⟩ := q5u g t vs (o + 1) (w.setCell ⟨g, o, none⟩ v) _ h1
  refine ⟨cur', k1, by rw [k2, Array.size_setIfInBounds], fun i hi => ?_, fun b hb => ?_, ?_, k6, k7, k8⟩
  ·rw [k3 i (by omega), Array.getElem?_setIfInBounds_ne (by omega)]
  ·exact (k4 b hb).trans (q0b hb _ _)
  ·exact k5.trans (by simp [World.setCell])
theorem qfo {cur : Array Value} {kept ks : List KeyS} {key : KeyS} {n : Nat} (hn : (kept ++ ks.drop kept.length).length = n) (hl : kept.length < n) (h : cur.toList.take n = (kept ++ ks.drop kept.length).map keyV) (hc : n ≤ cur.size) :
  (cur.toList.take kept.length ++ [keyV key] ++ cur.toList.drop (kept.length + 1)).take n = ((kept ++ [key]) ++ ks.drop (kept ++ [key]).length).map keyV ∧ ((kept ++ [key]) ++ ks.drop (kept ++ [key]).length).length = n := by
 have hkl : ks.length = n := by rw [List.length_append, List.length_drop] at hn; omega
 have e1 : cur.toList.take kept.length = kept.map keyV := by
  have := congrArg (List.take kept.length) h
  rw [List.take_take, Nat.min_eq_left (by omega), List.map_append, List.take_append_of_le_length (by simp)] at this
  rw [this, List.take_of_length_le (by simp)]
 have e2 : (cur.toList.drop (kept.length + 1)).take (n - (kept.length + 1)) = (ks.drop (kept.length + 1)).map keyV := by
  have := congrArg (List.drop (kept.length + 1)) h
  rw [List.drop_take] at this
  rw [this, List.map_append, List.drop_append, List.drop_of_length_le (by simp), List.nil_append, List.length_map, Nat.add_sub_cancel_left, ← List.map_drop, List.drop_drop]
 constructor
 ·rw [e1, List.append_assoc, List.take_append, List.take_of_length_le (by simp; omega), List.length_map]
  rw [List.take_append, List.take_of_length_le (by simp; omega), List.length_singleton]
  have e3 : n - kept.length - 1 = n - (kept.length + 1) := by omega
  rw [e3, e2, List.length_append, List.length_singleton]
  simp
 ·simp only [List.length_append, List.length_drop, List.length_singleton]
  omega
end Go.Proofs.YtdpbllacfljmoaaGreat
