import Derived.Test.YtdpbllacfljmoaaGreatZC11
import Derived.Deep.LoopGhost
import Derived.Deep.DeepCutAuto
import Derived.IntWalk
set_option maxRecDepth 100000
set_option maxHeartbeats 16000000
set_option linter.unusedVariables false
namespace Go.Proofs.YtdpbllacfljmoaaGreat
open Go.RowKit
theorem qeE : q1R Tryz.prog 3 1 8 := q1R.of (by kernel_rfl)
section
variable {F : List Sp → List Sp}
theorem qd0 {L : LimT} {b : q06} {o : OpT} (ho : o.what ≠ 0) : (q0H F L b o).1.last = b.last := by
 unfold q0H
 rw [if_neg ho]
 split
 ·unfold q1b
  cases ofT b o.id with
  | none => rfl
  | some u => simp only; split <;> rfl
 ·split
  ·unfold q1M
   cases ofT b o.id with
   | none => rfl
   | some u => simp only; split <;> rfl
  ·split
   ·unfold q0E
    cases ofT b o.id with
    | none => rfl
    | some u => simp only; split <;> rfl
   ·split
    ·unfold q0h
     cases ofT b o.id with
     | none => rfl
     | some u =>
      simp only
      split
      ·rfl
      ·split
       ·rfl
       ·split <;> rfl
    ·split
     ·unfold q1f
      cases ofT b o.id <;> rfl
     ·split <;> rfl
theorem qbk {L : LimT} {b : q06} {o : OpT} (ho : o.what = 0) : q0H F L b o = q0r L b := by unfold q0H; rw [if_pos ho]
theorem q9B {L : LimT} {b : q06} {o : OpT} (ho : o.what = 4) : q0H F L b o = q0h F L b o.id := by unfold q0H; rw [ho]; rfl
end
theorem RunT.grown {St : q2p} (K : TxnC St) {w W W' : World} {p : Nat} {F : Nat → Prop} {L : LimT} {b : q06} {k : Nat} {v : Value} (h : RunT St w W p F L b k) (hg : W.grownBy W' v.ownBlock) (hv : ∀ g, v.ownBlock = some g → w.heap.size ≤ g ∧ ¬ F g) : RunT St w W' p F L b k :=
 ⟨K.keep h.st (fun g hf hlt => hg.block g hlt (fun e => by
  obtain ⟨h1, h2⟩ := hv g e.symm
  rcases hf with h3 | h3
  ·exact h2 h3
  ·omega)) hg.size, h.bel.grown hg h.bel.size (fun k hk => (hv k hk).1), h.ok, h.wgt, h.small⟩
theorem qbl (l : List q5g) (A : Option Addr) (c : Nat) (w : World) (hall : ∀ d ∈ l, 0 < d.end_) (R : Nat → Prop) (h : DoS w R A c l) :
  Calls Tryz.prog 43 #[.slice A l.length c, .int .i64 0] w fun r w' => r = .returned (.int .i64 (l.length : Nat)) ∧ Below w.heap.size w w' := by
 have hll : l.length ≤ 9223372036854775807 := by have := h.1; have := h.2.1; unfold maxLen at *; omega
 obtain ⟨_, _, _, ms, hms, hr, _⟩ := h
 have HR := qh (hr.rowG mdF)
 have HA := qh hall
 have HM := qh hms
 have hlen : l.length = ms.length := by rw [← hms, List.length_map]
 rw [hlen] at hll ⊢
 clear hr hall hms
 go_enter Tryz.func43, Tryz.ntmps43
 go_wp2_with fail
 go_loopg [5, 10] ms.length (fun q n i wr => ∃ j : Nat, j + q = ms.length ∧ n = .int .i64 j ∧ i = .int .i64 j ∧ Below w.heap.size w wr)
 case atStart => exact ⟨0, by omega, rfl, rfl, Below.refl _ _⟩
 case round =>
  obtain ⟨j, hk, rfl, rfl, hb⟩ := hrel
  have HJ := qh hk
  have HB := qh hb
  clear hk hb
  by_cases hj : j < ms.length
  ·have hlt : decide ((j : Int) < (ms.length : Int)) = true := by simpa using hj
   have hlt2 : decide (j < ms.length) = true := by simpa using hj
   obtain ⟨bc, oc, rfl, _, _, hc⟩ := (HR.out.below HB.out (Nat.le_refl _)).at_ mdF hj
   have hend : 0 < (ms[j]).d.end_ := HA.out _ (by rw [← HM.out]; exact List.mem_map_of_mem (List.getElem_mem hj))
   generalize ms[j] = x at *
   have d0 := hc 0 _ rfl
   have d1 := hc 1 _ rfl
   have d2 := hc 2 _ rfl
   have d3 := hc 3 _ rfl
   have d4 := hc 4 _ rfl
   have d5 := hc 5 _ rfl
   have d6 := hc 6 _ rfl
   simp only [Nat.add_zero] at d0
   have e1 : decide ((0 : Int) < (x.d.end_ : Int)) = true := by rw [decide_eq_true_iff]; omega
   have e2 : decide (0 < x.d.end_) = true := decide_eq_true hend
   have hwr : IntKind.i64.wrap ((j : Int) + 1) = (j : Int) + 1 := IntWalk.i64_in _ ⟨by omega, by omega⟩
   have HBa := qh (HB.out.alloc HB.out.size (.cells #[.int .i64 x.d.id, .int .u64 x.d.began, .int .u64 x.d.at_, .int .i64 x.d.start, .int .i64 x.d.end_, .slice x.A x.d.reads.length x.c, .slice x.B x.d.writes.length x.e] 104))
   clear hc
   go_wp2_with fail
   go_roundg (gk - 1)
   case measure => have := HJ.out; omega
   case rel => exact ⟨j + 1, by have := HJ.out; omega, by go_num, by go_num, HBa.out⟩
  ·have hlt : decide ((j : Int) < (ms.length : Int)) = false := by simpa using hj
   have hj' : j = ms.length := by have := HJ.out; omega
   go_wp2_with fail
   go_ret
   exact ⟨by rw [hj']; rfl, HB.out⟩
namespace txnAlone
theorem walk {St : q2p} (K : TxnC St) (a : List OpT) (A : Option Addr) (c : Nat) (w : World) (ha : ChOT w w.heap.size A c a) :
  Calls Tryz.prog 6 #[.slice A a.length c] w fun r w' => r = .returned (.bool true) ∧ Below w.heap.size w w' := by
 have HL := qh (qbv K w)
 have HFA := qh (qcy ha)
 have hb6 := Below.refl w.heap.size w
 by_cases fa : fewT a = true
 ·rw [fa] at HFA
  obtain ⟨fwa, fla⟩ := qey fa
  have HBg := qh (qbZ w)
  have HMd : Hid (∀ W, Below w.heap.size w W → Calls Tryz.prog 35 #[limT BigT] W fun r W' => ∃ p F, r = .returned (ptrS p) ∧ RunT St w W' p F BigT q3s 0) := qh fun W h => q7f K W h
  have HRA := qh ha.2.2.2
  have HWA := qh fwa
  have HK := qh K
  have HFlA := qh fla
  have hal : a.length ≤ 9223372036854775807 := by omega
  clear fla ha fa fwa K
  go_enter Tryz.func6, Tryz.ntmps6
  go_wp2_with (first
   | (go_at_call 12; (with_reducible refine (HL.out _ (by assumption)).mono ?_); rintro r w' ⟨rfl, hb6⟩)
   | (go_at_call 13; (with_reducible refine (HFA.out _ (by assumption)).mono ?_); rintro r w' ⟨rfl, hb6⟩)
   | (go_at_call 36; (with_reducible refine (HBg.out _ (by assumption)).mono ?_); rintro r w' ⟨rfl, hb6⟩)
   | (go_at_call 35; (with_reducible refine (HMd.out _ (by assumption)).mono ?_); rintro r w5 ⟨p, F, rfl, hn⟩; unfold ptrS))
  have HN5 := qh hn
  clear hn hb6 HL HFA HBg HMd
  go_loopg [4, 23] a.length (fun q v i wr => ∃ (j : Nat) (st : q06) (F : Nat → Prop) (ns : List Nat) (cnt : Nat → Nat), j + q = a.length ∧ i = .int .i64 j ∧ RunT St w wr p F BigT st j ∧ OwnG 3 1 q3w wr w.heap.size v ns ∧ (∀ g, v.ownBlock = some g → ¬ F g) ∧ st.last = ns.length ∧ q4Y cnt st ∧ qea st ∧ ∀ m (h : m < ns.length), cnt (m + 1) = ns[m]'h)
  case atStart => exact ⟨0, q3s, F, [], fun _ => 0, by omega, rfl, HN5.out, OwnG.none_ _ _ _ _ _, (fun g hg => by cases hg), rfl, (fun t h => by cases h), (fun d h => by cases h), fun m h => absurd h (Nat.not_lt_zero m)⟩
  case round =>
   obtain ⟨j, st, G, ns, cnt, hk, rfl, hn, hv, hvf, hla, hcn, hen, hns⟩ := hrel
   have HJ := qh hk
   have HN := qh hn
   have HV := qh hv
   have HVf := qh hvf
   have HLa := qh hla
   have HCn := qh hcn
   have HEn := qh hen
   have HNs := qh hns
   obtain ⟨VA, vc, rfl, _, _, _, hvr⟩ := hv.form
   have HVr := qh hvr
   clear hk hn hv hvf hla hcn hen hns hvr
   by_cases hj : j < a.length
   ·have hlt : decide ((j : Int) < (a.length : Int)) = true := by simpa using hj
    have hlt2 : decide (j < a.length) = true := by simpa using hj
    have HJ8 : Hid (j < 80) := qh (by have := HFlA.out; omega)
    have HNl : Hid (ns.length ≤ 400) := qh (by have h1 := HN.out.wgt; unfold WgtT at h1; have := HLa.out; have := HJ8.out; omega)
    obtain ⟨b0, o0, rfl, _, x, hx, hok, c0, c1, c2, c3, c4, c5⟩ := (HRA.out.below HN.out.bel (Nat.le_refl _) (Nat.le_refl _)).at_ hj
    have hw := HWA.out _ (List.getElem_mem hj)
    rw [← hx] at hw
    clear hx
    obtain ⟨⟨what, id, ⟨wk, wg, wd⟩, hi⟩, A', c'⟩ := x
    simp only at c0 c1 c2 c3 c4 c5 hw
    have hid64 : I64 id := hok.2.1
    have hba := (Below.refl _ wr).alloc (Nat.le_refl _) (.cells #[.int .i64 what, .int .i64 id, .string (bs wk), .bool wg, .slice A' wd.length c', .string (bs hi)] 39)
    have hx1 := heap_alloc_new wr (.cells #[.int .i64 what, .int .i64 id, .string (bs wk), .bool wg, .slice A' wd.length c', .string (bs hi)] 39)
    obtain ⟨w1, hw1⟩ : ∃ y, wr.alloc (.cells #[.int .i64 what, .int .i64 id, .string (bs wk), .bool wg, .slice A' wd.length c', .string (bs hi)] 39) = y := ⟨_, rfl⟩
    have HW1 := qh hw1
    rw [hw1] at hba hx1
    have HX1 := qh hx1
    have hn1 := HN.out.next HK.out hba
    have HN1 := qh hn1
    have hok1 := hok.below hba HN.out.bel.size (Nat.le_refl _)
    have HB1 := qh hba
    have HDo : Hid (∀ W, RunT St w W p G BigT st j → Below w1.heap.size w1 W → Calls Tryz.prog 18 #[.pointer (some ⟨p, 0, none⟩), .agg #[.int .i64 what, .int .i64 id, .string (bs wk), .bool wg, .slice A' wd.length c', .string (bs hi)]] W (DidT St w W p G BigT st j ⟨what, id, ⟨wk, wg, wd⟩, hi⟩)) := qh fun W hn hb => qev HK.out hn (by have := HJ8.out; omega) ⟨what, id, ⟨wk, wg, wd⟩, hi⟩ A' c' hw.1 hw.2 (hok1.below hb hn1.bel.size (Nat.le_refl _))
    have hH := HK.out.history w.heap.size p G BigT st w1 hn1.st (hn1.few (by have := HJ8.out; omega))
    obtain ⟨n, hnn⟩ : ∃ y, st.hist.length = y := ⟨_, rfl⟩
    rw [hnn] at hH
    have HNn := qh hnn
    have HH := qh hH
    clear hba hx1 hw1 hok hok1 hw hn1 hH hnn
    unfold ptrS at HH
    go_upto_region 10 with fail
    rw [HW1.out]
    clear HW1 c0 c1 c2 c3 c4 c5
    go_wp2_with fail
    refine HH.out.mono ?_
    rintro r w4 ⟨A4, c4, rfl, _, hb4⟩
    have HN4 := qh (HN1.out.next HK.out hb4)
    have HB4 := qh hb4
    have hx4 := q01 HX1.out hb4 (q00 HX1.out)
    have HX4 := qh hx4
    have HV4 := qh ((HV.out.below HB1.out).below hb4)
    obtain ⟨y0, y1, y2, y3, y4, y5⟩ := q0V hx4
    clear hb4 hx4 HH
    go_wp2_with fail
    refine (HDo.out w4 HN4.out HB4.out).mono ?_
    rintro r w5 ⟨A9, B9, c9, d9, F9, rfl, _, hr9, hm9, hf9⟩
    have hx5 : w5.heap[wr.heap.size]? = _ := (hm9.block _ (q00 HX4.out) (fun hf => by have := (HK.out.upto HN.out.st _ hf).2; omega)).trans HX4.out
    have HX5 := qh hx5
    have HV5 : Hid (OwnG 3 1 q3w w5 w.heap.size (.slice VA ns.length vc) ns) := qh (HV4.out.keep (fun g hg hlt => hm9.block g hlt (HVf.out g hg)) (Nat.le_refl _))
    have HVf6 : Hid (∀ g, (Value.slice VA ns.length vc).ownBlock = some g → ¬ F9 g) := qh fun g hg hf => by
     rcases hf9 g hf with h1 | h1
     ·exact HVf.out g hg h1
     ·have := (HV4.out.lt g hg).2; omega
    have HEn9 := qh (qcw (F := FT BigT) (L := BigT) HEn.out ⟨what, id, ⟨wk, wg, wd⟩, hi⟩)
    obtain ⟨dd, hdd⟩ : ∃ y, q0H (FT BigT) BigT st ⟨what, id, ⟨wk, wg, wd⟩, hi⟩ = y := ⟨_, rfl⟩
    rw [hdd] at hr9 HEn9
    have HDd := qh hdd
    rw [hdd]
    clear hdd
    obtain ⟨b9, td⟩ := dd
    simp only at hr9 HEn9
    have HR5 := qh hr9
    clear hr9 hm9 hf9 hx5 y0 y1 y2 y3 y4 y5
    have hba6 := (Below.refl _ w5).alloc (Nat.le_refl _) (.cells #[.int .u64 td.n, .int .i64 td.e, .slice A9 td.b.length c9, .bool td.is, .slice B9 td.scan.length d9] 43)
    have hx6 := heap_alloc_new w5 (.cells #[.int .u64 td.n, .int .i64 td.e, .slice A9 td.b.length c9, .bool td.is, .slice B9 td.scan.length d9] 43)
    obtain ⟨w6, hw6⟩ : ∃ y, w5.alloc (.cells #[.int .u64 td.n, .int .i64 td.e, .slice A9 td.b.length c9, .bool td.is, .slice B9 td.scan.length d9] 43) = y := ⟨_, rfl⟩
    have HW6 := qh hw6
    rw [hw6] at hba6 hx6
    have hx56 := q01 HX5.out hba6 (q00 HX5.out)
    have HR6 := qh (HR5.out.next HK.out hba6)
    have HV6 := qh (HV5.out.below hba6)
    have HY6 := qh hx56
    have HX6 := qh hx6
    have HL65 : Hid (wr.heap.size < w5.heap.size) := qh (q00 HX5.out)
    clear hba6 hx6 hw6 hx56
    unfold q2o
    go_upto_region 12 with fail
    rw [HW6.out]
    clear HW6
    obtain ⟨u0, u1, u2, u3, u4⟩ := qfy HX6.out
    obtain ⟨y0, y1, y2, y3, y4, y5⟩ := q0V HY6.out
    by_cases k0 : what = 0
    ·have hbg : (b9, td) = q0r BigT st := HDd.out.symm.trans (qbk k0)
     have e1 : (what == 0) = true := by rw [k0]; rfl
     have e4 : (what == 4) = false := by rw [k0]; rfl
     have e5 : (what != 4) = true := by rw [k0]; rfl
     by_cases hf : BigT.live ≤ (st.live.length : Int)
     ·rw [qcI hf] at hbg
      obtain ⟨hb9, htd⟩ := Prod.mk.inj hbg
      have g1 : (td.e == 0) = false := by rw [htd]; rfl
      have HEq := qh hb9
      clear hbg htd hb9 hf k0
      go_wp2_with fail
      go_roundg (gk - 1)
      case measure => have := HJ.out; omega
      case rel => exact ⟨j + 1, b9, F9, ns, cnt, by have := HJ.out; omega, by go_num, HR6.out, HV6.out, HVf6.out, by rw [HEq.out]; exact HLa.out, by rw [HEq.out]; exact HCn.out, HEn9.out, HNs.out⟩
     ·obtain ⟨q1, q2⟩ := qef HN.out.ok hf
      have hb9 : b9 = (q0r BigT st).1 := congrArg Prod.fst hbg
      have htd : td = (q0r BigT st).2 := congrArg Prod.snd hbg
      rw [q1] at htd
      have hte : td.e = 0 := by rw [htd]
      have htn : td.n = ns.length + 1 := by rw [htd, ← HLa.out]
      have g1 : (td.e == 0) = true := by rw [hte]; rfl
      have HCn9 : Hid (q4Y (fun i => if i = st.last + 1 then st.hist.length else cnt i) b9) := qh (by rw [hb9]; exact q9e HN.out.ok HCn.out)
      have HLa9 : Hid (b9.last = ns.length + 1) := qh (by rw [hb9, ← HLa.out]; unfold q0r; rw [if_neg hf])
      rw [htn] at u0
      have hw1 : IntKind.i64.wrap (((ns.length + 1 : Nat)) : Int) = (ns.length : Int) + 1 := by rw [IntWalk.i64_in _ ⟨by omega, by have := HNl.out; omega⟩]; omega
      have hw2 : IntKind.i64.wrap ((ns.length : Int) + 1) = (ns.length : Int) + 1 := IntWalk.i64_in _ ⟨by omega, by have := HNl.out; omega⟩
      clear hbg htd htn hb9 hf q1 q2 k0
      go_wp2_with (at_builtin; refine q0N _ rfl _ _ 57 3 8 inF qeE Tryz.underlying57 rfl w.heap.size _ ns rfl (HV6.out.allocs _) w6.heap.size (w6.heap.size + 1) ⟨w6.heap.size, 0, none⟩ 1 1 [n] rfl rfl (RowG.one (cs := q3w) (heap_alloc_new w6 _)) (by have := HNl.out; simp only [List.length_singleton]; unfold maxLen; omega) (by have := HNl.out; simp only [List.length_singleton]; omega) (by have := HR6.out.bel.size; simp; omega) ?_; intro v9 w9 ho9 hg9 hv9; have HO9 := qh ho9; have HG9 := qh hg9; have HV9 := qh hv9; obtain ⟨y0, y1, y2, y3, y4, y5⟩ := q0V ((hg9.block _ (q00 (q0y HY6.out _)) (fun e => by have := (HV.out.lt _ e.symm).2; omega)).trans (q0y HY6.out (.cells #[.int .i64 (n : Int)] 3))); clear ho9 hg9 hv9)
      have hR7 : RunT St w (w6.alloc (.cells #[.int .i64 (n : Int)] 3)) p F9 BigT b9 (j + 1) := HR6.out.next HK.out ((Below.refl _ w6).alloc (Nat.le_refl _) _)
      have HR9 := qh (hR7.grown HK.out HG9.out fun g hg => ⟨(HV6.out.lt g hg).1, HVf6.out g hg⟩)
      clear hR7
      go_roundg (gk - 1)
      case measure => have := HJ.out; omega
      case rel =>
       refine ⟨j + 1, b9, F9, ns ++ [n], fun i => if i = st.last + 1 then st.hist.length else cnt i, by have := HJ.out; omega, by go_num, HR9.out, HO9.out, fun g hg hf => ?_, by rw [List.length_append, List.length_singleton]; exact HLa9.out, HCn9.out, HEn9.out, fun m hm => ?_⟩
       ·rcases HV9.out with h | h
        ·exact HVf6.out g (h.symm.trans hg) hf
        ·have h2 : some g = some (w6.alloc (.cells #[.int .i64 (n : Int)] 3)).heap.size := hg.symm.trans h
         injection h2 with h2
         have := (HK.out.upto HR6.out.st g hf).2
         simp at h2
         omega
       ·rw [List.length_append, List.length_singleton] at hm
        by_cases hm2 : m < ns.length
        ·show (if m + 1 = st.last + 1 then st.hist.length else cnt (m + 1)) = _
         rw [if_neg (by have := HLa.out; omega), List.getElem_append_left hm2]
         exact HNs.out m hm2
        ·have hm3 : m = ns.length := by omega
         subst hm3
         show (if ns.length + 1 = st.last + 1 then st.hist.length else cnt (ns.length + 1)) = _
         rw [if_pos (by have := HLa.out; omega)]
         simp [HNn.out]
    ·have e1 : (what == 0) = false := by rw [beq_eq_false_iff_ne]; exact k0
     have HCn9 : Hid (q4Y cnt b9) := qh (by
      have h := qb2 (F := FT BigT) (L := BigT) HN.out.ok HCn.out (o := ⟨what, id, ⟨wk, wg, wd⟩, hi⟩) k0
      rw [HDd.out] at h
      exact h)
     have HLa9 : Hid (b9.last = ns.length) := qh (by
      have h := qd0 (F := FT BigT) (L := BigT) (b := st) (o := ⟨what, id, ⟨wk, wg, wd⟩, hi⟩) k0
      rw [HDd.out] at h
      exact h.trans HLa.out)
     by_cases k4 : what = 4
     ·have e4 : (what == 4) = true := by rw [k4]; rfl
      have e5 : (what != 4) = false := by rw [k4]; rfl
      by_cases hi1 : id < 1
      ·have g1 : decide (id < 1) = true := decide_eq_true hi1
       clear k0 k4 hi1
       go_wp2_with fail
       go_roundg (gk - 1)
       case measure => have := HJ.out; omega
       case rel => exact ⟨j + 1, b9, F9, ns, cnt, by have := HJ.out; omega, by go_num, HR6.out, HV6.out, HVf6.out, HLa9.out, HCn9.out, HEn9.out, HNs.out⟩
      ·have g1 : decide (id < 1) = false := decide_eq_false hi1
       by_cases hi2 : (ns.length : Int) < id
       ·have g2 : decide ((ns.length : Int) < id) = true := decide_eq_true hi2
        clear k0 k4 hi1 hi2
        go_wp2_with fail
        go_roundg (gk - 1)
        case measure => have := HJ.out; omega
        case rel => exact ⟨j + 1, b9, F9, ns, cnt, by have := HJ.out; omega, by go_num, HR6.out, HV6.out, HVf6.out, HLa9.out, HCn9.out, HEn9.out, HNs.out⟩
       ·have g2 : decide ((ns.length : Int) < id) = false := decide_eq_false hi2
        obtain ⟨m, hmi⟩ : ∃ m : Nat, id = ((m + 1 : Nat) : Int) := ⟨(id - 1).toNat, by omega⟩
        have hml : m < ns.length := by omega
        have hcc : cnt (m + 1) = n → td.e ≠ 100 ∧ td.e ≠ 101 := fun h => by
         have h1 := q80 (F := FT BigT) (L := BigT) HN.out.ok HCn.out (id := m + 1) (h.trans HNn.out.symm)
         rw [← hmi, ← q9B (F := FT BigT) (L := BigT) (b := st) (o := ⟨what, id, ⟨wk, wg, wd⟩, hi⟩) k4, HDd.out] at h1
         exact h1
        have hnm := HNs.out m hml
        have hrow := HV6.out.form
        obtain ⟨VA2, vc2, hve, _, _, _, hvr2⟩ := hrow
        injection hve with q1 q2 q3
        subst q1 q3
        obtain ⟨bv, ov, rfl, _, _, hcv⟩ := hvr2.at_ inF hml
        have x0 := hcv 0 _ rfl
        simp only [Nat.add_zero, Nat.mul_one] at x0
        obtain ⟨nm, hnmv⟩ : ∃ y, ns[m] = y := ⟨_, rfl⟩
        rw [hnmv] at x0 hnm
        have hne : td.e = 100 ∨ td.e = 101 → nm ≠ n := fun h h2 => by
         have h3 := hcc (hnm.trans h2)
         rcases h with h | h
         ·exact h3.1 h
         ·exact h3.2 h
        have hsub : IntKind.i64.wrap (id - 1) = (m : Int) := by rw [IntWalk.i64_in _ ⟨by omega, by have := HNl.out; omega⟩]; omega
        have hsub2 : wrap64 (id - 1) = (m : Int) := by rw [IntWalk.wrap64_in _ ⟨by omega, by have := HNl.out; omega⟩]; omega
        have hlm : decide ((m : Int) < (ns.length : Int)) = true := by rw [decide_eq_true_iff]; omega
        have hlm2 : decide (m < ns.length) = true := decide_eq_true hml
        by_cases h100 : td.e = 100
        ·have f1 : (td.e == 100) = true := by rw [h100]; rfl
         have f3 : ((n : Int) == (nm : Int)) = false := by
          rw [beq_eq_false_iff_ne]
          have := hne (.inl h100)
          omega
         clear k0 k4 hi1 hi2 hmi hid64 hcc hnm hnmv hne h100 hcv hvr2 HV4 HV5 HVr HX4 HX5 HB4 HDo
         go_wp2_with fail
         go_roundg (gk - 1)
         case measure => have := HJ.out; omega
         case rel => exact ⟨j + 1, b9, F9, ns, cnt, by have := HJ.out; omega, by go_num, HR6.out, HV6.out, HVf6.out, HLa9.out, HCn9.out, HEn9.out, HNs.out⟩
        ·have f1 : (td.e == 100) = false := by rw [beq_eq_false_iff_ne]; exact h100
         by_cases h101 : td.e = 101
         ·have f2 : (td.e == 101) = true := by rw [h101]; rfl
          have f3 : ((n : Int) == (nm : Int)) = false := by
           rw [beq_eq_false_iff_ne]
           have := hne (.inr h101)
           omega
          clear k0 k4 hi1 hi2 hmi hid64 hcc hnm hnmv hne h100 h101 hcv hvr2 HV4 HV5 HVr HX4 HX5 HB4 HDo
          go_wp2_with fail
          go_roundg (gk - 1)
          case measure => have := HJ.out; omega
          case rel => exact ⟨j + 1, b9, F9, ns, cnt, by have := HJ.out; omega, by go_num, HR6.out, HV6.out, HVf6.out, HLa9.out, HCn9.out, HEn9.out, HNs.out⟩
         ·have f2 : (td.e == 101) = false := by rw [beq_eq_false_iff_ne]; exact h101
          clear k0 k4 hi1 hi2 hmi hid64 hcc hnm hnmv hne h100 h101 hcv hvr2 HV4 HV5 HVr HX4 HX5 HB4 HDo
          go_wp2_with fail
          go_roundg (gk - 1)
          case measure => have := HJ.out; omega
          case rel => exact ⟨j + 1, b9, F9, ns, cnt, by have := HJ.out; omega, by go_num, HR6.out, HV6.out, HVf6.out, HLa9.out, HCn9.out, HEn9.out, HNs.out⟩
     ·have e4 : (what == 4) = false := by rw [beq_eq_false_iff_ne]; exact k4
      have e5 : (what != 4) = true := bne_iff_ne.2 k4
      clear k0 k4
      go_wp2_with fail
      go_roundg (gk - 1)
      case measure => have := HJ.out; omega
      case rel => exact ⟨j + 1, b9, F9, ns, cnt, by have := HJ.out; omega, by go_num, HR6.out, HV6.out, HVf6.out, HLa9.out, HCn9.out, HEn9.out, HNs.out⟩
   ·have hlt : decide ((j : Int) < (a.length : Int)) = false := by simpa using hj
    have HJ8 : Hid (j ≤ 80) := qh (by have := HJ.out; have := HFlA.out; omega)
    have HHi : Hid (∀ W, RunT St w W p G BigT st j → Calls Tryz.prog 31 #[.pointer (some ⟨p, 0, none⟩)] W fun r w' => ∃ A c, r = .returned (.slice A st.hist.length c) ∧ DoS w' (ResT G w.heap.size W) A c st.hist ∧ Below W.heap.size W w') := qh fun W hn => HK.out.history _ p G _ st W hn.st (hn.few (by have := HJ8.out; omega))
    go_wp2_with fail
    refine (HHi.out wr HN.out).mono ?_
    rintro r w6 ⟨A6, c6, rfl, hd6, hb6⟩
    have HN6 := qh (HN.out.next HK.out hb6)
    have HE := qh (qbl st.hist A6 c6 w6 HEn.out _ hd6)
    clear hd6 hb6
    go_wp2_with fail
    refine HE.out.mono ?_
    rintro r w7 ⟨rfl, hb7⟩
    have HN7 := qh (HN6.out.next HK.out hb7)
    clear hb7
    go_wp2_with fail
    refine (HHi.out w7 HN7.out).mono ?_
    rintro r w8 ⟨A8, c8, rfl, _, hb8⟩
    have HB8 := qh (HN7.out.bel.trans (hb8.mono HN7.out.bel.size))
    clear hb8
    go_wp2_with fail
    go_ret
    exact ⟨by simp, HB8.out⟩
 ·rw [show fewT a = false by simpa using fa] at HFA
  clear K ha fa
  go_enter Tryz.func6, Tryz.ntmps6
  go_wp2_with (first
   | (go_at_call 12; (with_reducible refine (HL.out _ (by assumption)).mono ?_); rintro r w' ⟨rfl, hb6⟩)
   | (go_at_call 13; (with_reducible refine (HFA.out _ (by assumption)).mono ?_); rintro r w' ⟨rfl, hb6⟩))
  go_ret
  exact ⟨rfl, hb6⟩
end txnAlone
end Go.Proofs.YtdpbllacfljmoaaGreat
