import Derived.Test.YtdpbllacfljmoaaGreatZF32
import Derived.Test.YtdpbllacfljmoaaGreatZF35
import Derived.Test.YtdpbllacfljmoaaGreatZF33
import Derived.Test.YtdpbllacfljmoaaGreatZF11
import Derived.Deep.LoopGhost
import Derived.IntWalk
import Derived.Maps.AppendAt
import Derived.Deep.DeepCutAuto
set_option maxRecDepth 100000
set_option maxHeartbeats 16000000
set_option linter.unusedVariables false
namespace Go.Proofs.YtdpbllacfljmoaaGreat
open Go.RowKit
theorem q1c (w : World) {o : Oper} {a : Act} {K : Act → World → Prop} {Q : Exit → Act → World → Prop} (s x : Operand)
  (ho : o.op = .call { callee := .builtin .append, args := #[s, x], argTypes := #[52, 52] })
  (base : Nat) (v : Value) (ms : List MR) (hs : a.eval s = v) (hown : OwnG 86 6 q0d w base v ms)
  (lo up : Nat) (A : Option Addr) (m c : Nat) (ms' : List MR) (hx : a.eval x = .slice A m c) (hm : m = ms'.length) (hnil : A = none → c = 0) (hr : RowG q0d w lo up A ms')
  (hlen : ms.length + ms'.length ≤ 1000000) (hbase : base ≤ w.heap.size)
  (h : ∀ v' w', OwnG 86 6 q0d w' base v' (ms ++ ms') → w.grownBy w' v.ownBlock → (v'.ownBlock = v.ownBlock ∨ v'.ownBlock = some w.heap.size) → K (a.put o.dst v') w') : o.wp Tryz.prog a w K Q := by
 subst hm
 obtain ⟨i, z, hi0, hz0, hzs, hz2, hz3⟩ := qdJ
 rcases A with _ | ad
 ·have h0 : ms' = [] := by
   rcases Nat.eq_zero_or_pos ms'.length with h0 | h0
   ·exact List.eq_nil_of_length_eq_zero h0
   ·obtain ⟨b, o, hA, _⟩ := hr h0
    cases hA
  subst h0
  obtain rfl := hnil rfl
  have hrun := run_append_owned_none (P := Tryz.prog) (w := w) base 52 o.type 86 i 6 Tryz.underlying52 hi0 v ms.length (q0g q0d ms) hown
  have hK := h v w (by rw [List.append_nil]; exact hown) ⟨rfl, rfl, rfl, Nat.le_refl _, fun _ _ _ => rfl⟩ (.inl rfl)
  unfold Oper.wp
  rw [List.length_nil] at hx
  simp [execOp, ho, resolve, invoke, builtin, hs, hx, hrun, Result.andThen]
  exact hK
 ·obtain ⟨v', w', hrun, h1, h2, _, h5⟩ := run_append_own_at (P := Tryz.prog) w base 52 o.type 86 i z 6 80 Tryz.underlying52 hi0 hz0 hz2 hz3 hzs (by omega) v ms.length (q0g q0d ms) hown ad ms'.length c (q0g q0d ms') (mrF.flat_len ms') (by
   intro j u hu
   have h0 : 0 < ms'.length := by
    have h1 := (List.getElem?_eq_some_iff.1 hu).1
    rw [mrF.flat_len] at h1
    omega
   obtain ⟨b, o', hA, _, _, hc⟩ := hr h0
   injection hA with hA
   subst hA
   rw [q0Q]
   exact hc j u hu) (mrF.flat_one ms') (by unfold maxLen; omega) (by omega) hbase
  have hK := h v' w' (by
   unfold OwnG
   rw [List.length_append, q0Z]
   exact h1) h2 h5
  unfold Oper.wp
  simp [execOp, ho, resolve, invoke, builtin, hs, hx, hrun, Result.andThen]
  exact hK
theorem OkMR.apart {w : World} {hi : Nat} {v : Value} {x : MR} (h : OkMR w hi x) (hh : hi ≤ w.heap.size) (hv : ∀ g, v.ownBlock = some g → hi ≤ g) : ApMR w v x :=
 ⟨h.below (Below.refl hi w) (Nat.le_refl _) hh, fun g o e hn q => by have := (q7o h.reads.2.2.2 e hn).2; have := hv g q; omega, fun g o e hn q => by have := (q7o h.writes.2.2.2 e hn).2; have := hv g q; omega⟩
def Value.asAddr3 : Value → Option Addr
 | .slice A _ _ => A
 | _ => none
theorem OwnG.rowG3 {w : World} {lo : Nat} {v : Value} {ms : List MR} (h : OwnG 86 6 q0d w lo v ms) : RowG q0d w 0 w.heap.size (Value.asAddr3 v) ms := by
 obtain ⟨A, c, rfl, _, _, _, k⟩ := h.form
 exact k.wide (Nat.zero_le _) (Nat.le_refl _)
theorem q66 (K : q9u) (l : List RecS) (A : Option Addr) (c : Nat) (n marks : Int) (w : World) (hl : okRs l) (hn1 : -9223372036854775808 ≤ n) (hn2 : n ≤ 9223372036854775807) (hm1 : -9223372036854775808 ≤ marks) (hm2 : marks ≤ 9223372036854775807) (h : ChR w w.heap.size A c l) :
  Calls Tryz.prog 138 #[.slice A l.length c, .int .i64 n, .int .i64 marks] w (q4p (fitR (jI marks) n.toNat l) w) := by
 obtain ⟨hlc, hcm, hnil, ms, hms, hrow, hokm⟩ := h
 have hlen0 : ms.length = l.length := by rw [← hms, List.length_map]
 have HM0 := qh hms
 have HO := qh hl
 have HN1 := qh hm1
 have HN2 := qh hm2
 have HMx := q8C n
 have HP := qh (q5C n)
 have HNt := qh (qf0 n)
 have hl1 : ms.length ≤ 1000 := by rw [hlen0]; exact hl.1
 have hfn : fitN n ≤ 9223372036854775807 := by unfold fitN; omega
 have HL1 := qh hl1
 have HRow := qh hrow
 have HOk := qh (fun x hx => hokm x hx)
 have HNil := qh hnil
 have HCm := qh hcm
 have hokr : ∀ x ∈ ms, okR x.r := fun x hx => hl.mem (by rw [← hms]; exact List.mem_map_of_mem hx)
 have HOr := qh hokr
 have hlcm : ms.length ≤ c := by rw [hlen0]; exact hlc
 rw [← hlen0]
 clear hms hl hm1 hm2 hrow hokm hnil hcm hlen0 hokr hlc
 by_cases hk : ms.length ≤ fitN n
 ·have hwr : IntKind.i64.wrap ((ms.length : Int) - (fitN n : Int)) = (ms.length : Int) - (fitN n : Int) := IntWalk.i64_in _ ⟨by omega, by omega⟩
  have d1 : decide ((ms.length : Int) - (fitN n : Int) ≤ 0) = true := by rw [decide_eq_true_iff]; omega
  have HE := qh (show fitR (jI marks) n.toNat l = l from q3R (by rw [← HM0.out, List.length_map]; have := HNt.out; omega))
  have HCall := qh (q6a ms A c w HL1.out hlcm HNil.out HRow.out fun x hx => ⟨HOr.out x hx, HOk.out x hx⟩)
  clear hk hlcm
  go_enter Tryz.func138, Tryz.ntmps138
  go_wp2_with fail
  refine HCall.out.mono ?_
  rintro r w1 ⟨ms', v', rfl, hm, ho, hfr, hb⟩
  have HH := qh (And.intro hm (And.intro ho (And.intro hfr hb)))
  clear hm ho hfr hb
  go_wp2_with fail
  go_ret
  obtain ⟨hm, ho, hfr, hb⟩ := HH.out
  rw [HE.out]
  exact ⟨v', ms', rfl, by rw [hm, HM0.out], ho, fun x hx => ⟨(hfr x hx).1, (hfr x hx).2⟩, hb⟩
 ·obtain ⟨k, hkk⟩ : ∃ k, k = ms.length - fitN n := ⟨_, rfl⟩
  have hp := HP.out
  have hk0 : 0 < k := by omega
  have hkl : k < ms.length := by omega
  have hsub : (ms.length : Int) - (fitN n : Int) = (k : Int) := by omega
  have HK3 := qh (show ms.length = fitN n + k by omega)
  have hwr : IntKind.i64.wrap ((ms.length : Int) - (fitN n : Int)) = (k : Int) := by rw [hsub]; exact IntWalk.i64_in _ ⟨by omega, by omega⟩
  have d1 : decide ((k : Int) ≤ 0) = false := by rw [decide_eq_false_iff_not]; omega
  have d2 : decide (k ≤ 0) = false := by rw [decide_eq_false_iff_not]; omega
  have d3 : decide (k = 0) = false := by rw [decide_eq_false_iff_not]; omega
  have h0 : 0 < ms.length := by omega
  obtain ⟨b, o, rfl, _, hbl, hcell⟩ := HRow.out.at_ mrF h0
  obtain ⟨x, rest, hm⟩ : ∃ x rest, ms = x :: rest := by
   match ms, h0 with
   | x :: rest, _ => exact ⟨x, rest, rfl⟩
  have hrl : rest.length + 1 = ms.length := by rw [hm]; rfl
  have e0 : ms[0] = x := by subst hm; rfl
  rw [e0] at hcell
  have a0 := hcell 0 _ rfl
  have a1 := hcell 1 _ rfl
  have a2 := hcell 2 _ rfl
  have a3 := hcell 3 _ rfl
  have a4 := hcell 4 _ rfl
  have a5 := hcell 5 _ rfl
  simp only [Nat.zero_mul, Nat.add_zero] at a0 a1 a2 a3 a4 a5
  have hcm := HCm.out
  unfold maxLen at hcm
  have hc1 : ¬ c = 1 := by omega
  have HRs := qh (show RowG q0d w 0 w.heap.size (some ⟨b, o + 6, none⟩) rest from by
   have h := HRow.out.drop mrF 1 c (by omega) hlcm
   rw [if_neg hc1, hm] at h
   exact h)
  have HRk := qh (show RowG q0d w 0 w.heap.size (if c = k + 1 then some ⟨b, o, none⟩ else some ⟨b, o + (k + 1) * 6, none⟩) (ms.drop (k + 1)) from by
   have h := HRow.out.drop mrF (k + 1) c (by omega) hlcm
   by_cases e : c = k + 1
   ·rw [if_pos e]; rw [if_pos e] at h; exact h
   ·rw [if_neg e]; rw [if_neg e] at h; exact h)
  have HFold := qh (show fitR (jI marks) n.toNat l = ((rest.map MR.r).take k).foldl (q2B (jI marks)) x.r :: (ms.drop (k + 1)).map MR.r from by
   rw [← HM0.out, hm, List.map_cons, q8D k x.r (rest.map MR.r) (by rw [List.length_map]; omega) (by rw [List.length_map]; have := HNt.out; have := HK3.out; omega), List.drop_succ_cons, List.map_drop])
  have HMany := qh (show q0C (x.r :: rest.map MR.r) ≤ 1000 from by
   have h := HO.out.2
   rw [← HM0.out, hm] at h
   exact h)
  have HOkx := qh (HOk.out x (by rw [hm]; simp))
  have HOks := qh (fun y (hy : y ∈ rest) => HOk.out y (by rw [hm]; simp [hy]))
  have HDr := qh (fun y (hy : y ∈ ms.drop (k + 1)) => And.intro (HOr.out y (List.mem_of_mem_drop hy)) (HOk.out y (List.mem_of_mem_drop hy)))
  have HDl := qh (show (ms.drop (k + 1)).length = ms.length - (k + 1) from List.length_drop)
  have hrk : k ≤ rest.length := by omega
  have HRk' := qh hrk
  obtain ⟨w1, hw1⟩ : ∃ y, w.alloc (.cells #[.int .u64 x.r.first, .int .u64 x.r.last, .int .u64 x.r.began, .int .u64 x.r.out, .slice x.A x.r.reads.length x.c, .slice x.B x.r.writes.length x.d] 86) = y := ⟨_, rfl⟩
  have hb1 : Below w.heap.size w w1 := by rw [← hw1]; exact (Below.refl _ w).alloc (Nat.le_refl _) _
  have hx1 : w1.heap[w.heap.size]? = some (.cells #[.int .u64 x.r.first, .int .u64 x.r.last, .int .u64 x.r.began, .int .u64 x.r.out, .slice x.A x.r.reads.length x.c, .slice x.B x.r.writes.length x.d] 86 (0, 0)) := by rw [← hw1]; exact heap_alloc_new w _
  have HB1 := qh hb1
  have HX1 := qh hx1
  have HW1 := qh hw1
  clear hb1 hx1 hw1 hcell e0 hkk hk hsub hrl hm hp hrk
  go_enter Tryz.func138, Tryz.ntmps138
  go_upto_region 5 with fail
  rw [HW1.out]
  clear HW1 a0 a1 a2 a3 a4 a5
  go_wp2_with fail
  go_loopg [28] k (fun q i wr => ∃ (j : Nat) (u : MR), j + q = k ∧ i = .int .i64 j ∧ u.r = ((rest.map MR.r).take j).foldl (q2B (jI marks)) x.r ∧ wr.heap[w.heap.size]? = some (.cells #[.int .u64 u.r.first, .int .u64 u.r.last, .int .u64 u.r.began, .int .u64 u.r.out, .slice u.A u.r.reads.length u.c, .slice u.B u.r.writes.length u.d] 86 (0, 0)) ∧ OkMR wr wr.heap.size u ∧ (0 < j → FrMR wr w.heap.size wr.heap.size u) ∧ Below w.heap.size w wr)
  case atStart => exact ⟨0, x, by omega, rfl, rfl, HX1.out, HOkx.out.below HB1.out (Nat.le_refl _) HB1.out.size, (fun h => absurd h (Nat.lt_irrefl 0)), HB1.out⟩
  case round =>
   obtain ⟨j, u, hk, rfl, hu, hxu, hok, hfu, hb⟩ := hrel
   obtain ⟨wo, hwo⟩ : ∃ y, y = wr := ⟨_, rfl⟩
   subst hwo
   have HK := qh hk
   have HU := qh hu
   have HXu := qh hxu
   have HOku := qh hok
   have HFu := qh hfu
   have HB := qh hb
   clear hk hu hxu hok hfu hb
   by_cases hj : j < k
   ·have hlt : decide ((j : Int) < (k : Int)) = true := by simpa using hj
    have hlt3 : decide (j < k) = true := by simpa using hj
    have hjr : j < rest.length := by have := HRk'.out; omega
    obtain ⟨b9, o9, e9, _, _, hcl⟩ := HRs.out.at_ mrF hjr
    obtain ⟨rfl, rfl⟩ : b = b9 ∧ o + 6 = o9 := by simpa using e9
    obtain ⟨y, hy⟩ : ∃ y, rest[j] = y := ⟨_, rfl⟩
    have hym : y ∈ rest := by rw [← hy]; exact List.getElem_mem hjr
    have hjm : j < (rest.map MR.r).length := by rw [List.length_map]; exact hjr
    have hmn := qda marks (a := x.r) hjm
    have hft := qdb (J := jI marks) (a := x.r) hjm
    rw [List.getElem_map, hy, ← HU.out] at hmn hft
    have hmn2 := Nat.le_trans hmn HMany.out
    have HFt := qh hft
    rw [hy] at hcl
    have g := fun (q : Nat) => HB.out.cell (p := ⟨b, q, none⟩) hbl
    have c0 := (g _).trans (hcl 0 _ rfl)
    have c1 := (g _).trans (hcl 1 _ rfl)
    have c2 := (g _).trans (hcl 2 _ rfl)
    have c3 := (g _).trans (hcl 3 _ rfl)
    have c4 := (g _).trans (hcl 4 _ rfl)
    have c5 := (g _).trans (hcl 5 _ rfl)
    simp only [Nat.add_zero] at c0
    obtain ⟨wt, hwt⟩ : ∃ z, wo.alloc (.cells #[.int .u64 y.r.first, .int .u64 y.r.last, .int .u64 y.r.began, .int .u64 y.r.out, .slice y.A y.r.reads.length y.c, .slice y.B y.r.writes.length y.d] 86) = z := ⟨_, rfl⟩
    have hbt : Below wo.heap.size wo wt := by rw [← hwt]; exact (Below.refl _ wo).alloc (Nat.le_refl _) _
    have hyt : wt.heap[wo.heap.size]? = some (.cells #[.int .u64 y.r.first, .int .u64 y.r.last, .int .u64 y.r.began, .int .u64 y.r.out, .slice y.A y.r.reads.length y.c, .slice y.B y.r.writes.length y.d] 86 (0, 0)) := by rw [← hwt]; exact heap_alloc_new wo _
    have hut : wt.heap[w.heap.size]? = some (.cells #[.int .u64 u.r.first, .int .u64 u.r.last, .int .u64 u.r.began, .int .u64 u.r.out, .slice u.A u.r.reads.length u.c, .slice u.B u.r.writes.length u.d] 86 (0, 0)) := q01 HXu.out hbt (q00 HXu.out)
    have hjn := q74 K u y marks wt (by omega) (by omega) HN1.out HN2.out (HOku.out.below hbt (Nat.le_refl _) hbt.size) ((HOks.out y hym).below (HB.out.trans (hbt.mono HB.out.size)) (Nat.le_refl _) (Nat.le_trans HB.out.size hbt.size))
    unfold q0u at hjn
    have HJn := qh hjn
    have HWt := qh hwt
    have HBt := qh hbt
    have HUt := qh hut
    have HC := qh (And.intro (q0O hut) (q0O hyt))
    clear hjn hwt hbt hyt hut hcl g e9 hy hym hmn hft hmn2
    go_upto_region 8 with fail
    rw [HWt.out]
    clear HWt c0 c1 c2 c3 c4 c5
    obtain ⟨⟨z0, z1, z2, z3, z4, z5⟩, ⟨y0, y1, y2, y3, y4, y5⟩⟩ := HC.out
    go_wp2_with fail
    refine HJn.out.mono ?_
    rintro r w2 ⟨v, hv, rfl, hok2, hb2⟩
    clear z0 z1 z2 z3 z4 z5 y0 y1 y2 y3 y4 y5 HC HJn
    have HV := qh hv
    have HOk2 := qh hok2
    have HB2 := qh (HB.out.trans ((HBt.out.trans (hb2.mono HBt.out.size)).mono HB.out.size))
    have HBx := qh (q01 HUt.out hb2 (q00 HUt.out))
    clear hv hok2 hb2
    obtain ⟨a0, a1, a2, a3, a4, a5, q0, q1, q2, q3, q4, q5, g0, g1, g2, g3, g4, g5⟩ := (Box6.of HBx.out).cells
    unfold q0u
    go_wp2_with fail
    go_roundg (gk - 1)
    case measure => have := HK.out; omega
    case rel =>
     have hns := fun o s => qai HBx.out o s
     refine ⟨j + 1, v, by have := HK.out; omega, by go_num, HV.out.trans HFt.out.symm, Box6.set (Box6.of HBx.out), ?_, fun _ => ?_, HB2.out.set6' (Nat.le_refl _)⟩
     ·rw [show (World.setCell _ _ _).heap.size = w2.heap.size from q39]
      exact ⟨HOk2.out.ok.first, HOk2.out.ok.last, HOk2.out.ok.began, HOk2.out.ok.out, HOk2.out.ok.reads.set6z hns, HOk2.out.ok.writes.set6z hns⟩
     ·rw [show (World.setCell _ _ _).heap.size = w2.heap.size from q39]
      exact (HOk2.out.set6f hns).wide (by have := HB.out.size; have := HBt.out.size; omega)
   ·have hj' : j = k := by have := HK.out; omega
    have hlt : decide ((j : Int) < (k : Int)) = false := by simpa using hj
    have hlt2 : decide (j < k) = false := by simpa using hj
    have HUk := qh (show u.r = ((rest.map MR.r).take k).foldl (q2B (jI marks)) x.r from by rw [HU.out, hj'])
    clear hj'
    have hxo := HXu.out
    obtain ⟨S, hS1, hS2⟩ : ∃ S : World → Prop, (∀ W : World, Below wo.heap.size wo W → S W) ∧ ∀ W : World, S W → W.cell? ⟨w.heap.size, 0, none⟩ = some (.int .u64 u.r.first) ∧ W.cell? ⟨w.heap.size, 1, none⟩ = some (.int .u64 u.r.last) ∧ W.cell? ⟨w.heap.size, 2, none⟩ = some (.int .u64 u.r.began) ∧ W.cell? ⟨w.heap.size, 3, none⟩ = some (.int .u64 u.r.out) ∧ W.cell? ⟨w.heap.size, 4, none⟩ = some (.slice u.A u.r.reads.length u.c) ∧ W.cell? ⟨w.heap.size, 5, none⟩ = some (.slice u.B u.r.writes.length u.d) := ⟨fun W => Below wo.heap.size wo W, fun _ h => h, fun W h => q0O (q01 hxo h (q00 hxo))⟩
    have HKp := qh hS1
    have HRd := qh hS2
    clear hS1 hS2 hxo
    have hk1 : (k : Int) + 1 ≤ (ms.length : Int) := by omega
    have hk2 : k + 1 ≤ ms.length := by omega
    have hk4 : k + 1 ≤ c := by omega
    have hk5 : (k : Int) + 1 ≤ (c : Int) := by omega
    have hwk : IntKind.i64.wrap ((k : Int) + 1) = (k : Int) + 1 := IntWalk.i64_in _ ⟨by omega, by omega⟩
    have hwt2 : ((k : Int) + 1).toNat = k + 1 := by omega
    have hwz : (0 : Int) ≤ (k : Int) + 1 := by omega
    have HCall := qh (fun (AK : Option Addr) (m d : Nat) (W : World) (hm : m = (ms.drop (k + 1)).length) (hd : m ≤ d) (hn : AK = none → d = 0) (hr : RowG q0d w 0 w.heap.size AK (ms.drop (k + 1))) (h : Below wo.heap.size wo W) => (show Calls Tryz.prog 201 #[.slice AK m d] W fun r w' => ∃ ms' v', r = .returned v' ∧ ms'.map MR.r = (ms.drop (k + 1)).map MR.r ∧ OwnG 86 6 q0d w' W.heap.size v' ms' ∧ (∀ x ∈ ms', FrMR w' W.heap.size w'.heap.size x ∧ ApMR w' v' x) ∧ Below W.heap.size W w' from by
     subst hm
     have hbw := HB.out.trans (h.mono HB.out.size)
     exact q6a (ms.drop (k + 1)) AK d W (by rw [HDl.out]; omega) hd hn ((hr.below hbw (Nat.le_refl _)).wide (Nat.le_refl _) hbw.size) fun y hy => ⟨(HDr.out y hy).1, (HDr.out y hy).2.below hbw (Nat.le_refl _) hbw.size⟩))
    by_cases hck : c = k + 1
    ·go_wp2_with fail
     refine wp_region_held_drew (S := S) (by kernel_rfl) ?_ (fun hGd => ?_)
     ·exact HKp.out _ (Below.refl _ _).drew
     refine tkH (i := 0) (v := ?_) (fun w hSw => ?_) ?_
     rotate_left
     ·obtain ⟨z0, z1, z2, z3, z4, z5⟩ := HRd.out _ hSw; go_simp <;> with_reducible rfl
     (try simp only [Act.put, qA, qB, qC])
     refine tkS (i := 2) (v := ?_) ?_
     (try simp only [Act.put, qA, qB, qC])
     refine tkS (i := 3) (v := ?_) ?_
     (try simp only [Act.put, qA, qB, qC])
     refine tkS (i := 4) (v := ?_) ?_
     (try simp only [Act.put, qA, qB, qC])
     refine tkS (i := 5) (v := ?_) ?_
     (try simp only [Act.put, qA, qB, qC])
     refine q2g (i := 1) (j := 6) (by kernel_rfl) rfl rfl (fun K' hK => ?_) (fun K' hK => ?_)
     ·go_simp
      (first | (refine hK.out _ _ ?_ (fun hG2 => ?_)) | (go_wp2_with fail; refine hK.out _ _ ?_ (fun hG2 => ?_)))
      ·exact HKp.out _ (by first | exact ((Below.refl _ _).alloc (Nat.le_refl _) _).drew | exact (Below.refl _ _).drew.alloc (Nat.le_refl _) _)
      clear hK K' hGd
      have hGd := hG2
      clear hG2
      (try simp only [Act.put, qA, qB, qC])
      obtain ⟨wz, hwz⟩ : ∃ y, (wo.alloc (.cells #[.int .u64 u.r.first, .int .u64 u.r.last, .int .u64 u.r.began, .int .u64 u.r.out, .slice u.A u.r.reads.length u.c, .slice u.B u.r.writes.length u.d] 86)).drew = y := ⟨_, rfl⟩
      have hbz : Below wo.heap.size wo wz := by rw [← hwz]; exact ((Below.refl _ _).alloc (Nat.le_refl _) _).drew
      have hz1 : wz.heap[wo.heap.size]? = some (.cells #[.int .u64 u.r.first, .int .u64 u.r.last, .int .u64 u.r.began, .int .u64 u.r.out, .slice u.A u.r.reads.length u.c, .slice u.B u.r.writes.length u.d] 86 (0, 0)) := by rw [← hwz]; exact heap_alloc_new wo _
      have hzs : wz.heap.size = wo.heap.size + 1 := by rw [← hwz]; show (wo.alloc _).heap.size = _; simp
      rw [hwz]
      rw [hwz] at hGd
      clear hwz
      have HBz := qh hbz
      have HZ1 := qh hz1
      have HZs := qh hzs
      clear hbz hz1 hzs
      refine stH (i := 6) (fun K' hK => ?_)
      go_simp
      go_at_call 201; refine (HCall.out (some ⟨b, o, none⟩) (ms.length - (k + 1)) 0 _ HDl.out.symm (by omega) (fun e => by cases e) (by have h := HRk.out; rw [if_pos hck] at h; exact h) HBz.out).mono ?_; rintro r w3 ⟨ms', v3, rfl, hm3, ho3, hf3, hb3⟩; have HM3 := qh hm3; have HO3 := qh ho3; have HF3 := qh hf3; have HB3 := qh (HBz.out.trans (hb3.mono HBz.out.size)); have HZ3 := qh (q01 HZ1.out hb3 (q00 HZ1.out)); clear hm3 ho3 hf3 hb3
      (first | (refine hK.out _ _ ?_ (fun hG2 => ?_)) | (go_wp2_with fail; refine hK.out _ _ ?_ (fun hG2 => ?_)))
      ·exact HKp.out _ HB3.out
      clear hK K' hGd
      have hGd := hG2
      clear hG2
      (try simp only [Act.put, qA, qB, qC])
      have HOne := qh (OwnG.oneI (x := u) mrF HZ3.out)
      have HBase := qh HB3.out.size
      have HBo := HB3
      have HBS := qh (Nat.le_refl wo.heap.size)
      have HBW := qh (Below.refl wo.heap.size w3)
      have HRow3 := qh (show RowG q0d w3 0 w3.heap.size (Value.asAddr3 v3) ms' from HO3.out.rowG3)
      have HFz := qh (fun (z : MR) (hz : z ∈ u :: ms') => (show FrMR w3 w.heap.size w3.heap.size z from by
       have hs1 := HB.out.size
       rcases List.mem_cons.1 hz with rfl | hz
       ·exact (HFu.out (by omega)).below HB3.out (Nat.le_refl _) (Nat.le_refl _) HB3.out.size
       ·exact (HF3.out z hz).1.wide (by have := HZs.out; omega)))
      have HAp := qh (fun (z : MR) (hz : z ∈ u :: ms') => (show ApMR w3 (.slice (some ⟨wo.heap.size, 0, none⟩) 1 1) z from by
       rcases List.mem_cons.1 hz with rfl | hz
       ·exact (HOku.out.below HB3.out (Nat.le_refl _) (Nat.le_refl _)).apart HB3.out.size (fun q hq => by simp [Value.ownBlock] at hq; omega)
       ·exact (HF3.out z hz).1.apart (fun q hq => by simp [Value.ownBlock] at hq; have := HZs.out; omega)))
      obtain ⟨A3, c3, rfl, j1, j2, j3, j4⟩ := HO3.out.form
      have hl3 : ms'.length ≤ 1000 := by
       have e := congrArg List.length HM3.out
       rw [List.length_map, List.length_map, HDl.out] at e
       omega
      refine stH (i := 7) (fun K' hK => ?_)
      rw [if_pos (by simp [Region.wanted])]
      refine q1c w3 (.tmp 38) (.tmp 43) rfl wo.heap.size (.slice (some ⟨wo.heap.size, 0, none⟩) 1 1) [u] rfl HOne.out 0 w3.heap.size A3 ms'.length c3 ms' rfl rfl j3 HRow3.out (by simp; omega) HBase.out ?_
      intro v9 w9 ho9 hg9 hv9
      have HEl := qh (fun (z : MR) (hz : z ∈ u :: ms') => And.intro ((HFz.out z hz).grown (HAp.out z hz) hg9) ((HAp.out z hz).grown hg9 hv9))
      have HO9 := qh (show OwnG 86 6 q0d w9 w.heap.size v9 ([u] ++ ms') from ho9.keep (fun _ _ _ => rfl) (by have := HB.out.size; have := HBS.out; omega))
      have HB9 := qh (HBW.out.grown hg9 HBase.out (fun q hq => (HOne.out.lt q hq).1))
      clear ho9 hg9 hv9 j1 j2 j3 j4
      refine hK.out _ _ ?_ (fun hG2 => ?_)
      ·exact HKp.out _ (HBo.out.trans (HB9.out.mono HBS.out))
      clear hK K' hGd
      have hGd := hG2
      clear hG2
      (try simp only [Act.put, qA, qB, qC])
      refine tkS (i := 8) (v := ?_) ?_
      (try simp only [Act.put, qA, qB, qC])
      refine wpAnyH_done (by kernel_rfl) ?_ _
      go_wp2_with fail
      go_ret
      have e : (u :: ms').map MR.r = fitR (jI marks) n.toNat l := by rw [HFold.out, List.map_cons, HUk.out, HM3.out]
      exact ⟨v9, u :: ms', rfl, e, HO9.out, HEl.out, HB.out.trans ((HBo.out.trans (HB9.out.mono HBS.out)).mono HB.out.size)⟩
     ·go_simp
      go_at_call 201; refine (HCall.out (some ⟨b, o, none⟩) (ms.length - (k + 1)) 0 _ HDl.out.symm (by omega) (fun e => by cases e) (by have h := HRk.out; rw [if_pos hck] at h; exact h) (Below.refl _ _).drew).mono ?_; rintro r w3 ⟨ms', v3, rfl, hm3, ho3, hf3, hb3⟩; have HM3 := qh hm3; have HO3 := qh ho3; have HF3 := qh hf3
      (first | (refine hK.out _ _ ?_ (fun hG2 => ?_)) | (go_wp2_with fail; refine hK.out _ _ ?_ (fun hG2 => ?_)))
      ·exact HKp.out _ (show Below wo.heap.size wo w3 from (Below.refl _ wo).drew.trans hb3)
      clear hK K' hGd
      have hGd := hG2
      clear hG2
      have HBo := qh (show Below wo.heap.size wo w3 from (Below.refl _ wo).drew.trans hb3)
      clear hm3 ho3 hf3 hb3
      (try simp only [Act.put, qA, qB, qC])
      refine stH (i := 1) (fun K' hK => ?_)
      go_simp
      (first | (refine hK.out _ _ ?_ (fun hG2 => ?_)) | (go_wp2_with fail; refine hK.out _ _ ?_ (fun hG2 => ?_)))
      ·exact HKp.out _ (HBo.out.alloc HBo.out.size _)
      clear hK K' hGd
      have hGd := hG2
      clear hG2
      (try simp only [Act.put, qA, qB, qC])
      obtain ⟨wz, hwz⟩ : ∃ y, w3.alloc (.cells #[.int .u64 u.r.first, .int .u64 u.r.last, .int .u64 u.r.began, .int .u64 u.r.out, .slice u.A u.r.reads.length u.c, .slice u.B u.r.writes.length u.d] 86) = y := ⟨_, rfl⟩
      have hbz : Below w3.heap.size w3 wz := by rw [← hwz]; exact (Below.refl _ _).alloc (Nat.le_refl _) _
      have hz1 : wz.heap[w3.heap.size]? = some (.cells #[.int .u64 u.r.first, .int .u64 u.r.last, .int .u64 u.r.began, .int .u64 u.r.out, .slice u.A u.r.reads.length u.c, .slice u.B u.r.writes.length u.d] 86 (0, 0)) := by rw [← hwz]; exact heap_alloc_new w3 _
      have hzs : wz.heap.size = w3.heap.size + 1 := by rw [← hwz]; simp
      rw [hwz]
      rw [hwz] at hGd
      clear hwz
      have HBz := qh hbz
      have HOne := qh (OwnG.oneI (x := u) mrF hz1)
      have HBase := qh hbz.size
      have HBW := qh (Below.refl w3.heap.size wz)
      have HRow3 := qh (show RowG q0d wz 0 wz.heap.size (Value.asAddr3 v3) ms' from (HO3.out.rowG3.below hbz (Nat.le_refl _)).wide (Nat.le_refl _) hbz.size)
      have HFz := qh (fun (z : MR) (hz : z ∈ u :: ms') => (show FrMR wz w.heap.size wz.heap.size z from by
       have hs1 := HB.out.size
       rcases List.mem_cons.1 hz with rfl | hz
       ·exact (HFu.out (by omega)).below (HBo.out.trans (HBz.out.mono HBo.out.size)) (Nat.le_refl _) (Nat.le_refl _) (Nat.le_trans HBo.out.size HBz.out.size)
       ·exact (HF3.out z hz).1.below HBz.out (Nat.le_refl _) (show w.heap.size ≤ wo.heap.size from hs1) HBz.out.size))
      have HAp := qh (fun (z : MR) (hz : z ∈ u :: ms') => (show ApMR wz (.slice (some ⟨w3.heap.size, 0, none⟩) 1 1) z from by
       rcases List.mem_cons.1 hz with rfl | hz
       ·exact (HOku.out.below (HBo.out.trans (HBz.out.mono HBo.out.size)) (Nat.le_refl _) HBo.out.size).apart HBz.out.size (fun q hq => by simp [Value.ownBlock] at hq; omega)
       ·exact ((HF3.out z hz).1.ok.below HBz.out (Nat.le_refl _) (Nat.le_refl _)).apart HBz.out.size (fun q hq => by simp [Value.ownBlock] at hq; omega)))
      have HBo3 := HBo
      have HBS := qh HBo.out.size
      clear HBo hbz hz1 hzs
      have HBo := qh (HBo3.out.trans (HBz.out.mono HBo3.out.size))
      obtain ⟨A3, c3, rfl, j1, j2, j3, j4⟩ := HO3.out.form
      have hl3 : ms'.length ≤ 1000 := by
       have e := congrArg List.length HM3.out
       rw [List.length_map, List.length_map, HDl.out] at e
       omega
      refine stH (i := 7) (fun K' hK => ?_)
      rw [if_pos (by simp [Region.wanted])]
      refine q1c wz (.tmp 38) (.tmp 43) rfl w3.heap.size (.slice (some ⟨w3.heap.size, 0, none⟩) 1 1) [u] rfl HOne.out 0 wz.heap.size A3 ms'.length c3 ms' rfl rfl j3 HRow3.out (by simp; omega) HBase.out ?_
      intro v9 w9 ho9 hg9 hv9
      have HEl := qh (fun (z : MR) (hz : z ∈ u :: ms') => And.intro ((HFz.out z hz).grown (HAp.out z hz) hg9) ((HAp.out z hz).grown hg9 hv9))
      have HO9 := qh (show OwnG 86 6 q0d w9 w.heap.size v9 ([u] ++ ms') from ho9.keep (fun _ _ _ => rfl) (by have := HB.out.size; have := HBS.out; omega))
      have HB9 := qh (HBW.out.grown hg9 HBase.out (fun q hq => (HOne.out.lt q hq).1))
      clear ho9 hg9 hv9 j1 j2 j3 j4
      refine hK.out _ _ ?_ (fun hG2 => ?_)
      ·exact HKp.out _ (HBo.out.trans (HB9.out.mono HBS.out))
      clear hK K' hGd
      have hGd := hG2
      clear hG2
      (try simp only [Act.put, qA, qB, qC])
      refine tkS (i := 8) (v := ?_) ?_
      (try simp only [Act.put, qA, qB, qC])
      refine wpAnyH_done (by kernel_rfl) ?_ _
      go_wp2_with fail
      go_ret
      have e : (u :: ms').map MR.r = fitR (jI marks) n.toNat l := by rw [HFold.out, List.map_cons, HUk.out, HM3.out]
      exact ⟨v9, u :: ms', rfl, e, HO9.out, HEl.out, HB.out.trans ((HBo.out.trans (HB9.out.mono HBS.out)).mono HB.out.size)⟩
    ·go_wp2_with fail
     refine wp_region_held_drew (S := S) (by kernel_rfl) ?_ (fun hGd => ?_)
     ·exact HKp.out _ (Below.refl _ _).drew
     refine tkH (i := 0) (v := ?_) (fun w hSw => ?_) ?_
     rotate_left
     ·obtain ⟨z0, z1, z2, z3, z4, z5⟩ := HRd.out _ hSw; go_simp <;> with_reducible rfl
     (try simp only [Act.put, qA, qB, qC])
     refine tkS (i := 2) (v := ?_) ?_
     (try simp only [Act.put, qA, qB, qC])
     refine tkS (i := 3) (v := ?_) ?_
     (try simp only [Act.put, qA, qB, qC])
     refine tkS (i := 4) (v := ?_) ?_
     (try simp only [Act.put, qA, qB, qC])
     refine tkS (i := 5) (v := ?_) ?_
     (try simp only [Act.put, qA, qB, qC])
     refine q2g (i := 1) (j := 6) (by kernel_rfl) rfl rfl (fun K' hK => ?_) (fun K' hK => ?_)
     ·go_simp
      (first | (refine hK.out _ _ ?_ (fun hG2 => ?_)) | (go_wp2_with fail; refine hK.out _ _ ?_ (fun hG2 => ?_)))
      ·exact HKp.out _ (by first | exact ((Below.refl _ _).alloc (Nat.le_refl _) _).drew | exact (Below.refl _ _).drew.alloc (Nat.le_refl _) _)
      clear hK K' hGd
      have hGd := hG2
      clear hG2
      (try simp only [Act.put, qA, qB, qC])
      obtain ⟨wz, hwz⟩ : ∃ y, (wo.alloc (.cells #[.int .u64 u.r.first, .int .u64 u.r.last, .int .u64 u.r.began, .int .u64 u.r.out, .slice u.A u.r.reads.length u.c, .slice u.B u.r.writes.length u.d] 86)).drew = y := ⟨_, rfl⟩
      have hbz : Below wo.heap.size wo wz := by rw [← hwz]; exact ((Below.refl _ _).alloc (Nat.le_refl _) _).drew
      have hz1 : wz.heap[wo.heap.size]? = some (.cells #[.int .u64 u.r.first, .int .u64 u.r.last, .int .u64 u.r.began, .int .u64 u.r.out, .slice u.A u.r.reads.length u.c, .slice u.B u.r.writes.length u.d] 86 (0, 0)) := by rw [← hwz]; exact heap_alloc_new wo _
      have hzs : wz.heap.size = wo.heap.size + 1 := by rw [← hwz]; show (wo.alloc _).heap.size = _; simp
      rw [hwz]
      rw [hwz] at hGd
      clear hwz
      have HBz := qh hbz
      have HZ1 := qh hz1
      have HZs := qh hzs
      clear hbz hz1 hzs
      refine stH (i := 6) (fun K' hK => ?_)
      go_simp
      go_at_call 201; refine (HCall.out (some ⟨b, o + (k + 1) * 6, none⟩) (ms.length - (k + 1)) (c - (k + 1)) _ HDl.out.symm (by omega) (fun e => by cases e) (by have h := HRk.out; rw [if_neg hck] at h; exact h) HBz.out).mono ?_; rintro r w3 ⟨ms', v3, rfl, hm3, ho3, hf3, hb3⟩; have HM3 := qh hm3; have HO3 := qh ho3; have HF3 := qh hf3; have HB3 := qh (HBz.out.trans (hb3.mono HBz.out.size)); have HZ3 := qh (q01 HZ1.out hb3 (q00 HZ1.out)); clear hm3 ho3 hf3 hb3
      (first | (refine hK.out _ _ ?_ (fun hG2 => ?_)) | (go_wp2_with fail; refine hK.out _ _ ?_ (fun hG2 => ?_)))
      ·exact HKp.out _ HB3.out
      clear hK K' hGd
      have hGd := hG2
      clear hG2
      (try simp only [Act.put, qA, qB, qC])
      have HOne := qh (OwnG.oneI (x := u) mrF HZ3.out)
      have HBase := qh HB3.out.size
      have HBo := HB3
      have HBS := qh (Nat.le_refl wo.heap.size)
      have HBW := qh (Below.refl wo.heap.size w3)
      have HRow3 := qh (show RowG q0d w3 0 w3.heap.size (Value.asAddr3 v3) ms' from HO3.out.rowG3)
      have HFz := qh (fun (z : MR) (hz : z ∈ u :: ms') => (show FrMR w3 w.heap.size w3.heap.size z from by
       have hs1 := HB.out.size
       rcases List.mem_cons.1 hz with rfl | hz
       ·exact (HFu.out (by omega)).below HB3.out (Nat.le_refl _) (Nat.le_refl _) HB3.out.size
       ·exact (HF3.out z hz).1.wide (by have := HZs.out; omega)))
      have HAp := qh (fun (z : MR) (hz : z ∈ u :: ms') => (show ApMR w3 (.slice (some ⟨wo.heap.size, 0, none⟩) 1 1) z from by
       rcases List.mem_cons.1 hz with rfl | hz
       ·exact (HOku.out.below HB3.out (Nat.le_refl _) (Nat.le_refl _)).apart HB3.out.size (fun q hq => by simp [Value.ownBlock] at hq; omega)
       ·exact (HF3.out z hz).1.apart (fun q hq => by simp [Value.ownBlock] at hq; have := HZs.out; omega)))
      obtain ⟨A3, c3, rfl, j1, j2, j3, j4⟩ := HO3.out.form
      have hl3 : ms'.length ≤ 1000 := by
       have e := congrArg List.length HM3.out
       rw [List.length_map, List.length_map, HDl.out] at e
       omega
      refine stH (i := 7) (fun K' hK => ?_)
      rw [if_pos (by simp [Region.wanted])]
      refine q1c w3 (.tmp 38) (.tmp 43) rfl wo.heap.size (.slice (some ⟨wo.heap.size, 0, none⟩) 1 1) [u] rfl HOne.out 0 w3.heap.size A3 ms'.length c3 ms' rfl rfl j3 HRow3.out (by simp; omega) HBase.out ?_
      intro v9 w9 ho9 hg9 hv9
      have HEl := qh (fun (z : MR) (hz : z ∈ u :: ms') => And.intro ((HFz.out z hz).grown (HAp.out z hz) hg9) ((HAp.out z hz).grown hg9 hv9))
      have HO9 := qh (show OwnG 86 6 q0d w9 w.heap.size v9 ([u] ++ ms') from ho9.keep (fun _ _ _ => rfl) (by have := HB.out.size; have := HBS.out; omega))
      have HB9 := qh (HBW.out.grown hg9 HBase.out (fun q hq => (HOne.out.lt q hq).1))
      clear ho9 hg9 hv9 j1 j2 j3 j4
      refine hK.out _ _ ?_ (fun hG2 => ?_)
      ·exact HKp.out _ (HBo.out.trans (HB9.out.mono HBS.out))
      clear hK K' hGd
      have hGd := hG2
      clear hG2
      (try simp only [Act.put, qA, qB, qC])
      refine tkS (i := 8) (v := ?_) ?_
      (try simp only [Act.put, qA, qB, qC])
      refine wpAnyH_done (by kernel_rfl) ?_ _
      go_wp2_with fail
      go_ret
      have e : (u :: ms').map MR.r = fitR (jI marks) n.toNat l := by rw [HFold.out, List.map_cons, HUk.out, HM3.out]
      exact ⟨v9, u :: ms', rfl, e, HO9.out, HEl.out, HB.out.trans ((HBo.out.trans (HB9.out.mono HBS.out)).mono HB.out.size)⟩
     ·go_simp
      go_at_call 201; refine (HCall.out (some ⟨b, o + (k + 1) * 6, none⟩) (ms.length - (k + 1)) (c - (k + 1)) _ HDl.out.symm (by omega) (fun e => by cases e) (by have h := HRk.out; rw [if_neg hck] at h; exact h) (Below.refl _ _).drew).mono ?_; rintro r w3 ⟨ms', v3, rfl, hm3, ho3, hf3, hb3⟩; have HM3 := qh hm3; have HO3 := qh ho3; have HF3 := qh hf3
      (first | (refine hK.out _ _ ?_ (fun hG2 => ?_)) | (go_wp2_with fail; refine hK.out _ _ ?_ (fun hG2 => ?_)))
      ·exact HKp.out _ (show Below wo.heap.size wo w3 from (Below.refl _ wo).drew.trans hb3)
      clear hK K' hGd
      have hGd := hG2
      clear hG2
      have HBo := qh (show Below wo.heap.size wo w3 from (Below.refl _ wo).drew.trans hb3)
      clear hm3 ho3 hf3 hb3
      (try simp only [Act.put, qA, qB, qC])
      refine stH (i := 1) (fun K' hK => ?_)
      go_simp
      (first | (refine hK.out _ _ ?_ (fun hG2 => ?_)) | (go_wp2_with fail; refine hK.out _ _ ?_ (fun hG2 => ?_)))
      ·exact HKp.out _ (HBo.out.alloc HBo.out.size _)
      clear hK K' hGd
      have hGd := hG2
      clear hG2
      (try simp only [Act.put, qA, qB, qC])
      obtain ⟨wz, hwz⟩ : ∃ y, w3.alloc (.cells #[.int .u64 u.r.first, .int .u64 u.r.last, .int .u64 u.r.began, .int .u64 u.r.out, .slice u.A u.r.reads.length u.c, .slice u.B u.r.writes.length u.d] 86) = y := ⟨_, rfl⟩
      have hbz : Below w3.heap.size w3 wz := by rw [← hwz]; exact (Below.refl _ _).alloc (Nat.le_refl _) _
      have hz1 : wz.heap[w3.heap.size]? = some (.cells #[.int .u64 u.r.first, .int .u64 u.r.last, .int .u64 u.r.began, .int .u64 u.r.out, .slice u.A u.r.reads.length u.c, .slice u.B u.r.writes.length u.d] 86 (0, 0)) := by rw [← hwz]; exact heap_alloc_new w3 _
      have hzs : wz.heap.size = w3.heap.size + 1 := by rw [← hwz]; simp
      rw [hwz]
      rw [hwz] at hGd
      clear hwz
      have HBz := qh hbz
      have HOne := qh (OwnG.oneI (x := u) mrF hz1)
      have HBase := qh hbz.size
      have HBW := qh (Below.refl w3.heap.size wz)
      have HRow3 := qh (show RowG q0d wz 0 wz.heap.size (Value.asAddr3 v3) ms' from (HO3.out.rowG3.below hbz (Nat.le_refl _)).wide (Nat.le_refl _) hbz.size)
      have HFz := qh (fun (z : MR) (hz : z ∈ u :: ms') => (show FrMR wz w.heap.size wz.heap.size z from by
       have hs1 := HB.out.size
       rcases List.mem_cons.1 hz with rfl | hz
       ·exact (HFu.out (by omega)).below (HBo.out.trans (HBz.out.mono HBo.out.size)) (Nat.le_refl _) (Nat.le_refl _) (Nat.le_trans HBo.out.size HBz.out.size)
       ·exact (HF3.out z hz).1.below HBz.out (Nat.le_refl _) (show w.heap.size ≤ wo.heap.size from hs1) HBz.out.size))
      have HAp := qh (fun (z : MR) (hz : z ∈ u :: ms') => (show ApMR wz (.slice (some ⟨w3.heap.size, 0, none⟩) 1 1) z from by
       rcases List.mem_cons.1 hz with rfl | hz
       ·exact (HOku.out.below (HBo.out.trans (HBz.out.mono HBo.out.size)) (Nat.le_refl _) HBo.out.size).apart HBz.out.size (fun q hq => by simp [Value.ownBlock] at hq; omega)
       ·exact ((HF3.out z hz).1.ok.below HBz.out (Nat.le_refl _) (Nat.le_refl _)).apart HBz.out.size (fun q hq => by simp [Value.ownBlock] at hq; omega)))
      have HBo3 := HBo
      have HBS := qh HBo.out.size
      clear HBo hbz hz1 hzs
      have HBo := qh (HBo3.out.trans (HBz.out.mono HBo3.out.size))
      obtain ⟨A3, c3, rfl, j1, j2, j3, j4⟩ := HO3.out.form
      have hl3 : ms'.length ≤ 1000 := by
       have e := congrArg List.length HM3.out
       rw [List.length_map, List.length_map, HDl.out] at e
       omega
      refine stH (i := 7) (fun K' hK => ?_)
      rw [if_pos (by simp [Region.wanted])]
      refine q1c wz (.tmp 38) (.tmp 43) rfl w3.heap.size (.slice (some ⟨w3.heap.size, 0, none⟩) 1 1) [u] rfl HOne.out 0 wz.heap.size A3 ms'.length c3 ms' rfl rfl j3 HRow3.out (by simp; omega) HBase.out ?_
      intro v9 w9 ho9 hg9 hv9
      have HEl := qh (fun (z : MR) (hz : z ∈ u :: ms') => And.intro ((HFz.out z hz).grown (HAp.out z hz) hg9) ((HAp.out z hz).grown hg9 hv9))
      have HO9 := qh (show OwnG 86 6 q0d w9 w.heap.size v9 ([u] ++ ms') from ho9.keep (fun _ _ _ => rfl) (by have := HB.out.size; have := HBS.out; omega))
      have HB9 := qh (HBW.out.grown hg9 HBase.out (fun q hq => (HOne.out.lt q hq).1))
      clear ho9 hg9 hv9 j1 j2 j3 j4
      refine hK.out _ _ ?_ (fun hG2 => ?_)
      ·exact HKp.out _ (HBo.out.trans (HB9.out.mono HBS.out))
      clear hK K' hGd
      have hGd := hG2
      clear hG2
      (try simp only [Act.put, qA, qB, qC])
      refine tkS (i := 8) (v := ?_) ?_
      (try simp only [Act.put, qA, qB, qC])
      refine wpAnyH_done (by kernel_rfl) ?_ _
      go_wp2_with fail
      go_ret
      have e : (u :: ms').map MR.r = fitR (jI marks) n.toNat l := by rw [HFold.out, List.map_cons, HUk.out, HM3.out]
      exact ⟨v9, u :: ms', rfl, e, HO9.out, HEl.out, HB.out.trans ((HBo.out.trans (HB9.out.mono HBS.out)).mono HB.out.size)⟩
theorem qcH (K : q9u) (l : List RecS) (A : Option Addr) (c : Nat) (n marks : Int) (w : World) (hl : okRs l) (hn1 : -9223372036854775808 ≤ n) (hn2 : n ≤ 9223372036854775807) (hm1 : -9223372036854775808 ≤ marks) (hm2 : marks ≤ 9223372036854775807) (h : ChR w w.heap.size A c l) :
  Calls Tryz.prog 138 #[.slice A l.length c, .int .i64 n, .int .i64 marks] w (q89 (fitR (jI marks) n.toNat l) w) := (q66 K l A c n marks w hl hn1 hn2 hm1 hm2 h).mono fun _ _ h => h.retRec
end Go.Proofs.YtdpbllacfljmoaaGreat
