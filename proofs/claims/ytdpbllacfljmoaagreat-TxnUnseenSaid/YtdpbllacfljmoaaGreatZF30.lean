import Derived.Test.YtdpbllacfljmoaaGreatZF29
import Derived.Shelf.SlGeneric
import Derived.Shelf.Small.Strs
import Derived.Shelf.SlSortCmp.WholeK
import Derived.Ground.SlsfProg
import Derived.Test.YtdpbllacfljmoaaGreatProg
import Derived.Deep.RegionLaw
import Derived.Shelf.SlSortCmp.NoneTotal
set_option maxRecDepth 100000
set_option maxHeartbeats 16000000
set_option linter.unusedVariables false
namespace Go.Proofs.YtdpbllacfljmoaaGreat
open Go.RowKit
def q5M (g : Nat) (lb : Array Value) (p : Sp → Bool) : Prop :=
 ∀ (W : World) (x : Sp), Calls Tryz.prog g (#[q0T x] ++ lb) W fun e w' => e = .returned (.bool (p x)) ∧ Below W.heap.size W w'
theorem q5M.at_ {g : Nat} {lb : Array Value} {p : Sp → Bool} (h : q5M g lb p) (w : World) : qgx g lb p w := fun W x _ => h W x
structure DelI (l L : List Sp) (p : Sp → Bool) (j k : Nat) : Prop where
 len : L.length = l.length
 le : k ≤ j
 kept : L.take k = (l.take j).filter fun x => !p x
 rest : L.drop j = l.drop j
theorem DelI.start {l : List Sp} {p : Sp → Bool} {i : Nat} (hi : i < l.length) (h1 : p (l[i]'hi) = true) (h : ∀ q (hq : q < l.length), q < i → p (l[q]'hq) = false) : DelI l l p (i + 1) i := by
 refine ⟨rfl, by omega, ?_, rfl⟩
 rw [List.take_succ_eq_append_getElem hi, List.filter_append, List.filter_cons_of_neg (by rw [h1]; simp), List.filter_nil, List.append_nil, List.filter_eq_self.2]
 intro x hx
 obtain ⟨q, hq, rfl⟩ := List.getElem_of_mem hx
 rw [List.length_take] at hq
 rw [List.getElem_take, h q (by omega) (by omega)]
 rfl
theorem DelI.at_ {l L : List Sp} {p : Sp → Bool} {j k : Nat} (h : DelI l L p j k) (hj : j < l.length) (hj' : j < L.length) : L[j]'hj' = l[j]'hj := by
 have e := h.rest
 rw [List.drop_eq_getElem_cons hj', List.drop_eq_getElem_cons hj] at e
 injection e
theorem DelI.skip {l L : List Sp} {p : Sp → Bool} {j k : Nat} (h : DelI l L p j k) (hj : j < l.length) (hp : p (l[j]'hj) = true) : DelI l L p (j + 1) k := by
 refine ⟨h.len, by have := h.le; omega, ?_, ?_⟩
 ·rw [h.kept, List.take_succ_eq_append_getElem hj, List.filter_append, List.filter_cons_of_neg (by rw [hp]; simp), List.filter_nil, List.append_nil]
 ·have e := congrArg (List.drop 1) h.rest
  rwa [List.drop_drop, List.drop_drop] at e
theorem DelI.keep {l L : List Sp} {p : Sp → Bool} {j k : Nat} (h : DelI l L p j k) (hj : j < l.length) (hp : p (l[j]'hj) = false) : DelI l (L.set k (l[j]'hj)) p (j + 1) (k + 1) := by
 have hk : k < L.length := by have := h.le; have := h.len; omega
 refine ⟨by rw [List.length_set, h.len], by have := h.le; omega, ?_, ?_⟩
 ·rw [List.take_succ_eq_append_getElem (by rw [List.length_set]; exact hk), List.getElem_set_self, List.take_set_of_le (Nat.le_refl _), h.kept, List.take_succ_eq_append_getElem hj, List.filter_append, List.filter_cons_of_pos (by rw [hp]; rfl), List.filter_nil]
 ·rw [List.drop_set_of_lt (by have := h.le; omega)]
  have e := congrArg (List.drop 1) h.rest
  rwa [List.drop_drop, List.drop_drop] at e
theorem DelI.end_ {l L : List Sp} {p : Sp → Bool} {k : Nat} (h : DelI l L p l.length k) : L.take k = l.filter fun x => !p x := by rw [h.kept, List.take_length]
theorem q63 (p : Sp → Bool) (g : Nat) (lb : Array Value) (eg : ∀ args w, (callFunc g args).run Tryz.prog w = .ok (.enter g args) w) (hp : q5M g lb p) (l : List Sp) (lo b cap : Nat) (w : World) (hl : l.length ≤ 1000000) (hb : BlkI w lo b cap l) :
  Calls Tryz.prog 254 #[.slice (some ⟨b, 0, none⟩) l.length cap, .func (.func g) #[] lb] w fun e w' => e = .returned (.slice (some ⟨b, 0, none⟩) (l.filter fun x => !p x).length cap) ∧ BlkI w' lo b cap (l.filter fun x => !p x) ∧ Below lo w w' := by
 have HI := qh (q73 p g lb eg l (some ⟨b, 0, none⟩) cap 0 w.heap.size w (hp.at_ w) (by omega) hb.row (Nat.le_refl _))
 have HP := qh hp
 have HB0 := qh hb
 have hlo := hb.lt
 have hlc := hb.len
 have HL := qh hl
 have HLC := qh hlc
 have HLO := qh hlo
 clear hp hb hlo
 obtain ⟨F, hF⟩ : ∃ F, (l.filter fun x => !p x) = F := ⟨_, rfl⟩
 rw [hF]
 have HF := qh hF
 clear hF
 go_enter Tryz.func254, Tryz.ntmps254
 go_wp2_with fail
 refine HI.out.mono ?_
 rintro r w1 ⟨⟨z, rfl, hz⟩, hb1⟩
 have HB1 := qh (HB0.out.below hb1)
 have HW1 := qh (hb1.mono (Nat.le_of_lt (Nat.lt_of_le_of_lt HLO.out.1 HLO.out.2)))
 clear HI hb1
 rcases hz with ⟨i, hi, rfl, h1, h2⟩ | ⟨rfl, h⟩
 ·have d1 : ((i : Int) == -1) = false := by rw [beq_eq_false_iff_ne]; omega
  have d2 : ¬ ((i : Int) = -1) := by omega
  have HD := qh (DelI.start hi h1 h2)
  have hi9 : i < 1000000 := by have := HL.out; omega
  clear h1 h2
  go_wp2_with fail
  go_loopg [5, 6, 7] (l.length - (i + 1)) (fun q vi vj _ wr => ∃ (j k : Nat) (L : List Sp), j + q = l.length ∧ vj = .int .i64 j ∧ vi = .int .i64 k ∧ DelI l L p j k ∧ k < j ∧ BlkI wr lo b cap L ∧ Below lo w wr)
  case atStart => exact ⟨i + 1, i, l, by omega, by go_num, rfl, HD.out, by omega, HB1.out, HW1.out⟩
  case round =>
   obtain ⟨j, k, L, hk, rfl, rfl, hd, hkj, hbl, hbw⟩ := hrel
   have HK := qh hk
   have HDl := qh hd
   have HBl := qh hbl
   have HBw := qh hbw
   clear hk hd hbl hbw
   by_cases hj : j < l.length
   ·have hlt : decide ((j : Int) < (l.length : Int)) = true := by simpa using hj
    have hlt2 : decide (j < l.length) = true := by simpa using hj
    have hjL : j < L.length := by rw [HDl.out.len]; exact hj
    have hkL : k < L.length := by omega
    have hkl : k < l.length := by omega
    have hcl := HBl.out.at_ hjL
    rw [HDl.out.at_ hj hjL] at hcl
    obtain ⟨c0, c1⟩ := hcl
    have HSk := qh (HDl.out.skip hj)
    have HKe := qh (HDl.out.keep hj)
    have hbn := HBl.out.allocs
    have HCall := qh (fun W => HP.out W (l[j]'hj))
    have HSt := qh (fun (W : World) (h : BlkI W lo b cap L) => h.store k (l[j]'hj) hkL)
    generalize l[j]'hj = x at *
    obtain ⟨xl, xh⟩ := x
    unfold q0T at HCall
    simp only at c0 c1 HCall HSt
    obtain ⟨wt, hwt⟩ : ∃ y, wr.alloc (.cells #[.string (bs xl), .string (bs xh)] 131) = y := ⟨_, rfl⟩
    have hx := heap_alloc_new wr (.cells #[.string (bs xl), .string (bs xh)] 131)
    have hbt := hbn (.cells #[.string (bs xl), .string (bs xh)] 131)
    have hwb : Below wr.heap.size wr wt := by rw [← hwt]; exact (Below.refl _ _).alloc (Nat.le_refl _) _
    rw [hwt] at hx hbt
    have HX := qh (fun (W : World) (h : Below wt.heap.size wt W) => And.intro (cell_of_row W wr.heap.size 0 _ _ _ (q01 hx h (q00 hx))) (cell_of_row W wr.heap.size 1 _ _ _ (q01 hx h (q00 hx))))
    have HBt := qh hbt
    have hlr : lo ≤ wr.heap.size := by have := HBl.out.lt; omega
    have HWb := qh (HBw.out.trans (hwb.mono hlr))
    have HLt := qh (show lo ≤ wt.heap.size from Nat.le_trans hlr hwb.size)
    have HWt := qh hwt
    clear hx hbt hwb hwt hlr hbn
    go_upto_region 8 with fail
    rw [HWt.out]
    clear HWt c0 c1
    obtain ⟨x0, x1⟩ := HX.out wt (Below.refl _ _)
    cases hq : p ⟨xl, xh⟩ with
    | true =>
     have hcall := HCall.out wt
     rw [hq] at hcall
     have HC := qh hcall
     have HD2 := qh (HSk.out hq)
     clear hcall hq HSk HKe HCall
     go_wp2_with (go_at_fn g; refine HC.out.mono ?_; rintro e w' ⟨rfl, hb'⟩)
     go_roundg (gk - 1)
     case measure => have := HK.out; omega
     case rel => exact ⟨j + 1, k, L, by have := HK.out; omega, by go_num, rfl, HD2.out, by omega, HBt.out.below hb', HWb.out.trans (hb'.mono HLt.out)⟩
    | false =>
     have hcall := HCall.out wt
     rw [hq] at hcall
     have HC := qh hcall
     have HD2 := qh (HKe.out hq)
     clear hcall hq HSk HKe HCall
     go_wp2_with fail
     go_at_fn g
     refine HC.out.mono ?_
     rintro e w2 ⟨rfl, hb'⟩
     have hb2 := HBt.out.below hb'
     have HB2 := qh hb2
     have f0 := hb2.frozen (k * 2)
     have f1 := hb2.frozen (k * 2 + 1)
     have hk0 := hb2.at_ hkL
     obtain ⟨k0, k1⟩ := hk0
     have HW2 := qh (HWb.out.trans (hb'.mono HLt.out))
     clear x0 x1
     obtain ⟨x0, x1⟩ := HX.out w2 hb'
     clear hb' hb2
     go_wp2_with fail
     go_roundg (gk - 1)
     case measure => have := HK.out; omega
     case rel => exact ⟨j + 1, k + 1, _, by have := HK.out; omega, by go_num, by go_num, HD2.out, by omega, HSt.out _ HB2.out, ((HW2.out.setCell HLO.out.1 _).setCell HLO.out.1 _)⟩
   ·have hj' : j = l.length := by have := HK.out; omega
    subst hj'
    have hlt : decide ((l.length : Int) < (l.length : Int)) = false := by simp
    have hlt2 : decide (l.length < l.length) = false := by simp
    have HTk := qh (HDl.out.end_.trans HF.out)
    have HFl := qh (show F.length = k by rw [← HTk.out, List.length_take]; have := HDl.out.len; omega)
    have HTl := qh (show BlkI (wr.setCells b (k * 2) (q42 (l.length - k))) lo b cap F by rw [← HTk.out]; exact HBl.out.tail k _)
    have HWl := qh (Below.setCells (q42 (l.length - k)) (k * 2) w wr HBw.out HLO.out.1)
    have hclr := fun ty => q7p (P := Tryz.prog) rfl HBl.out ty k (l.length - k) (cap - k) (by omega) (by have := HLC.out; omega)
    obtain ⟨w6, hw6⟩ : ∃ y, wr.setCells b (k * 2) (q42 (l.length - k)) = y := ⟨_, rfl⟩
    rw [hw6] at HTl HWl hclr
    have k1 : (0 : Int) ≤ (k : Int) := by omega
    have k2 : (k : Int) ≤ (l.length : Int) := by omega
    have k3 : (l.length : Int) ≤ (cap : Int) := by omega
    have k4 : ¬ cap = k := by omega
    clear hj hw6 HDl
    go_wp2
    go_ret
    exact ⟨by rw [HFl.out]; rfl, HTl.out, HWl.out⟩
 ·have d1 : ((-1 : Int) == -1) = true := rfl
  have HE := qh (show l = F by
   rw [← HF.out, List.filter_eq_self.2]
   intro x hx
   obtain ⟨q, hq, rfl⟩ := List.getElem_of_mem hx
   rw [h q hq]
   rfl)
  clear h
  go_wp2_with fail
  go_ret
  exact ⟨by rw [← HE.out]; rfl, by rw [← HE.out]; exact HB1.out, HW1.out⟩
end Go.Proofs.YtdpbllacfljmoaaGreat
namespace Go.Proofs
open Go.Shelf
def Tryz.lays106_ren : Go.Shelf.Ren := ⟨fun | 106 => 130 | 213 => 183 | 265 => 234 | n => n, fun | 9 => 9 | 3 => 3 | n => n, fun | n => n⟩
theorem Tryz.lays106 : Go.Proofs.Lays.n106 Tryz.prog Tryz.lays106_ren := {
 mixed := by kernel_rfl
 f106 := Tryz.func130.trans (congrArg some (by kernel_rfl))
 f213 := Tryz.func183.trans (congrArg some (by kernel_rfl))
 f265 := Tryz.func234.trans (congrArg some (by kernel_rfl))
 t3 := Tryz.underlying3
 a3 := Tryz.isAgg3
 z3 := Tryz.sizeOf3
 v3 := Tryz.zeroValue3
 t9 := Tryz.underlying9
 a9 := Tryz.isAgg9
 z9 := Tryz.sizeOf9
 v9 := Tryz.zeroValue9 }
def Tryz.sortI_ren : Go.Shelf.Ren := ⟨fun | 6 => 256 | 15 => 118 | 14 => 271 | 28 => 175 | 29 => 176 | 20 => 282 | 21 => 283 | 22 => 284 | 23 => 285 | 24 => 286 | 25 => 287 | 26 => 288 | 27 => 289 | 46 => 294 | 47 => 214 | 48 => 215 | 49 => 295 | 50 => 296 | 57 => 298 | n => n, fun | 22 => 84 | 24 => 131 | 25 => 282 | 3 => 3 | 39 => 180 | 0 => 0 | 53 => 224 | 55 => 22 | 4 => 4 | 46 => 217 | 45 => 216 | 50 => 221 | 5 => 5 | 9 => 9 | 66 => 253 | 70 => 256 | 76 => 277 | 77 => 278 | n => n, fun | n => n⟩
theorem Tryz.sortI : Go.Proofs.SlLaysF0.n6 Tryz.prog Tryz.sortI_ren := {
 mixed := by kernel_rfl
 f6 := ⟨Tryz.f256.name, by decide, Tryz.func256.trans (congrArg some (by kernel_rfl))⟩
 f14 := ⟨Tryz.f271.name, by decide, Tryz.func271.trans (congrArg some (by kernel_rfl))⟩
 f15 := Tryz.func118.trans (congrArg some (by kernel_rfl))
 f20 := ⟨Tryz.f282.name, by decide, Tryz.func282.trans (congrArg some (by kernel_rfl))⟩
 f21 := ⟨Tryz.f283.name, by decide, Tryz.func283.trans (congrArg some (by kernel_rfl))⟩
 f22 := ⟨Tryz.f284.name, by decide, Tryz.func284.trans (congrArg some (by kernel_rfl))⟩
 f23 := ⟨Tryz.f285.name, by decide, Tryz.func285.trans (congrArg some (by kernel_rfl))⟩
 f24 := ⟨Tryz.f286.name, by decide, Tryz.func286.trans (congrArg some (by kernel_rfl))⟩
 f25 := ⟨Tryz.f287.name, by decide, Tryz.func287.trans (congrArg some (by kernel_rfl))⟩
 f26 := ⟨Tryz.f288.name, by decide, Tryz.func288.trans (congrArg some (by kernel_rfl))⟩
 f27 := ⟨Tryz.f289.name, by decide, Tryz.func289.trans (congrArg some (by kernel_rfl))⟩
 f28 := Tryz.func175.trans (congrArg some (by kernel_rfl))
 f29 := Tryz.func176.trans (congrArg some (by kernel_rfl))
 f46 := ⟨Tryz.f294.name, by decide, Tryz.func294.trans (congrArg some (by kernel_rfl))⟩
 f47 := Tryz.func214.trans (congrArg some (by kernel_rfl))
 f48 := Tryz.func215.trans (congrArg some (by kernel_rfl))
 f49 := ⟨Tryz.f295.name, by decide, Tryz.func295.trans (congrArg some (by kernel_rfl))⟩
 f50 := ⟨Tryz.f296.name, by decide, Tryz.func296.trans (congrArg some (by kernel_rfl))⟩
 f57 := ⟨Tryz.f298.name, by decide, Tryz.func298.trans (congrArg some (by kernel_rfl))⟩
 t0 := Tryz.underlying0
 a0 := Tryz.isAgg0
 z0 := Tryz.sizeOf0
 v0 := Tryz.zeroValue0
 t3 := Tryz.underlying3
 a3 := Tryz.isAgg3
 z3 := Tryz.sizeOf3
 v3 := Tryz.zeroValue3
 t4 := Tryz.underlying4
 a4 := Tryz.isAgg4
 z4 := Tryz.sizeOf4
 v4 := Tryz.zeroValue4
 t5 := Tryz.underlying5
 a5 := Tryz.isAgg5
 z5 := Tryz.sizeOf5
 v5 := Tryz.zeroValue5
 t9 := Tryz.underlying9
 a9 := Tryz.isAgg9
 z9 := Tryz.sizeOf9
 v9 := Tryz.zeroValue9
 t22 := Tryz.underlying84
 a22 := Tryz.isAgg84
 z22 := Tryz.sizeOf84
 v22 := Tryz.zeroValue84
 t25 := Tryz.underlying282
 a25 := Tryz.isAgg282
 z25 := Tryz.sizeOf282
 v25 := Tryz.zeroValue282
 t39 := Tryz.underlying180
 a39 := Tryz.isAgg180
 z39 := Tryz.sizeOf180
 v39 := Tryz.zeroValue180
 t45 := Tryz.underlying216
 a45 := Tryz.isAgg216
 z45 := Tryz.sizeOf216
 v45 := Tryz.zeroValue216
 t46 := Tryz.underlying217
 a46 := Tryz.isAgg217
 z46 := Tryz.sizeOf217
 v46 := Tryz.zeroValue217
 t50 := Tryz.underlying221
 a50 := Tryz.isAgg221
 z50 := Tryz.sizeOf221
 v50 := Tryz.zeroValue221
 t53 := Tryz.underlying224
 a53 := Tryz.isAgg224
 z53 := Tryz.sizeOf224
 v53 := Tryz.zeroValue224
 t55 := Tryz.underlying22
 a55 := Tryz.isAgg22
 z55 := Tryz.sizeOf22
 v55 := Tryz.zeroValue22
 t66 := Tryz.underlying253
 a66 := Tryz.isAgg253
 z66 := Tryz.sizeOf253
 v66 := Tryz.zeroValue253
 t70 := Tryz.underlying256
 a70 := Tryz.isAgg256
 z70 := Tryz.sizeOf256
 v70 := Tryz.zeroValue256
 t76 := Tryz.underlying277
 a76 := Tryz.isAgg277
 z76 := Tryz.sizeOf277
 v76 := Tryz.zeroValue277
 t77 := Tryz.underlying278
 a77 := Tryz.isAgg278
 z77 := Tryz.sizeOf278
 v77 := Tryz.zeroValue278 }
end Go.Proofs
namespace Go.Proofs.YtdpbllacfljmoaaGreat
open Go.RowKit
instance : Inhabited Sp := ⟨sp0⟩
def cfI (x y : Sp) : Int := Lib.compareBytes x.lo y.lo
theorem q7B : ∀ a b : List UInt8, decide (Lib.compareBytes a b < 0) = blt a b
 | [], [] => rfl
 | [], _ :: _ => rfl
 | a :: x, [] => rfl
 | a :: x, b :: y => by
  unfold Lib.compareBytes
  by_cases h : a < b
  ·rw [if_pos h, q6Y h]
   rfl
  ·rw [if_neg h]
   by_cases g : b < a
   ·rw [if_pos g, q6X g]
    rfl
   ·rw [if_neg g, q7B x y]
    have e : a = b := by
     rcases Nat.lt_trichotomy a.toNat b.toNat with q | q | q
     ·exact absurd (UInt8.lt_iff_toNat_lt.2 q) h
     ·exact UInt8.toNat.inj q
     ·exact absurd (UInt8.lt_iff_toNat_lt.2 q) g
    subst e
    rw [q8f]
theorem ltI (x y : Sp) : ltOf cfI x y = blt x.lo y.lo := by
 unfold ltOf cfI
 exact q7B _ _
theorem swoI : Go.Sort.SWO (ltOf cfI) where
 irrefl x := by rw [ltI]; exact q0V _
 trans x y z h1 h2 := by rw [ltI] at *; exact q0p h1 h2
 ntrans x y z h1 h2 := by
  rw [ltI] at *
  cases h : blt x.lo z.lo
  ·rfl
  ·have a1 : blo y.lo x.lo = true := by simp [blo, h1]
   have a2 : blo z.lo y.lo = true := by simp [blo, h2]
   have := q5t h (q1i a2 a1)
   rw [q0V] at this
   cases this
theorem q7b (l : List Sp) : Go.Sort.flatK q07 2 l.toArray = (q0g q07 l).toArray := by
 refine Go.Sort.ext_get! ?_ fun t ht => ?_
 ·rw [Go.Sort.size_flatK, List.size_toArray, List.size_toArray, spF.flat_len]
 ·have ht' : t < l.toArray.size * 2 := by simpa using ht
  have hq : t / 2 < l.length := by simp at ht'; omega
  rw [Go.Sort.get_flatK _ _ _ _ ht']
  have e := spF.flat_at l (t / 2) hq (t % 2) (by omega)
  rw [show t / 2 * 2 + t % 2 = t by omega] at e
  have hl : t < (q0g q07 l).length := by rw [spF.flat_len]; simpa using ht'
  have h2 : t % 2 < (q07 (l[t / 2]'hq)).length := by simp only [q07, List.length_cons, List.length_nil]; omega
  rw [List.getElem?_eq_getElem hl, List.getElem?_eq_getElem h2] at e
  injection e with e
  have e1 : l.toArray[t / 2]! = l[t / 2]'hq := by simp [hq]
  rw [e1, getElem!_pos (q0g q07 l).toArray t (by simpa using hl), List.getElem_toArray, e, List.getElem!_eq_getElem?_getD, List.getElem?_eq_getElem h2]
  rfl
section
variable {w : World} {lo b cap : Nat} {l : List Sp}
theorem BlkI.holds (h : BlkI w lo b cap l) : Go.Sort.HoldsK q07 2 w b 0 l.toArray := by
 obtain ⟨cur, h2, _, hc⟩ := h.cur
 intro j hj
 rw [q7b] at hj ⊢
 have hj' : j < (q0g q07 l).length := by simpa using hj
 refine ⟨?_, h.frozen _⟩
 rw [cell_of_row w b _ _ _ _ h2, Nat.zero_add, getElem!_pos _ j hj, List.getElem_toArray]
 exact hc j _ (List.getElem?_eq_getElem hj')
theorem qee {w : World} {b : Nat} {cur : Array Value} {e : TypeId} (h : w.heap[b]? = some (.cells cur e (0, 0))) (m : Nat) (d : Array Sp) (os : Array Obj) :
  (sortWorldK q07 2 w b 0 m d os).heap[b]? = some (.cells (Go.Sort.putCells id 0 (Go.Sort.flatK q07 2 d) cur) e (0, 0)) := by
 have hlt := q00 h
 unfold sortWorldK Go.Sort.grow Go.Sort.putRowK Go.Sort.putRow Go.Sort.mapBlock
 simp only
 rw [Array.getElem?_append_left (by simpa [Go.Sort.ahead] using hlt), Array.getElem?_modify, if_pos rfl]
 rw [show (Go.Sort.ahead w m).heap = w.heap from rfl, h]
 rfl
theorem BlkI.sorted (h : BlkI w lo b cap l) (m : Nat) (d : Array Sp) (os : Array Obj) (hd : d.size = l.length) : BlkI (sortWorldK q07 2 w b 0 m d os) lo b cap d.toList := by
 obtain ⟨cur, h1, h2, h3, h4, h5, h6⟩ := h
 have hl : d.toList.length = l.length := by rw [Array.length_toList, hd]
 refine ⟨_, h1, qee h2 m d os, by rw [hl]; exact h3, h4, by simp [Go.Sort.putCells, h5], ?_⟩
 have e : Go.Sort.flatK q07 2 d = (q0g q07 d.toList).toArray := by rw [← q7b]
 rw [e, hl]
 apply List.ext_getElem?
 intro i
 rw [List.getElem?_take]
 by_cases hi : i < l.length * 2
 ·rw [if_pos hi, Array.getElem?_toList]
  have hi2 : i < cur.size := by omega
  have hi3 : i < (q0g q07 d.toList).length := by rw [spF.flat_len, hl]; exact hi
  unfold Go.Sort.putCells
  rw [Array.getElem?_mapIdx, Array.getElem?_eq_getElem hi2, Option.map_some, if_pos ⟨Nat.zero_le _, by simp only [List.size_toArray]; omega⟩, Nat.sub_zero, getElem!_pos _ i (by simpa using hi3), List.getElem_toArray, List.getElem?_eq_getElem hi3]
  rfl
 ·rw [if_neg hi, List.getElem?_eq_none (by rw [spF.flat_len, hl]; omega)]
theorem qcg {w : World} {lo b : Nat} (h1 : lo ≤ b) (h2 : lo ≤ w.heap.size) (m : Nat) (d : Array Sp) (os : Array Obj) : Below lo w (sortWorldK q07 2 w b 0 m d os) := by
 refine ⟨rfl, rfl, rfl, ?_, fun k hk => ?_⟩
 ·unfold sortWorldK Go.Sort.grow Go.Sort.putRowK Go.Sort.putRow Go.Sort.mapBlock Go.Sort.ahead
  simp
 ·unfold sortWorldK Go.Sort.grow Go.Sort.putRowK Go.Sort.putRow Go.Sort.mapBlock Go.Sort.ahead
  simp only
  rw [Array.getElem?_append_left (by simp; omega), Array.getElem?_modify, if_neg (by omega)]
end
theorem q9j {d : Array Sp} (h : Go.Sort.SortedIn (ltOf cfI) 0 d.size d) : q7n d.toList := by
 unfold q7n
 rw [List.pairwise_iff_getElem]
 intro i j hi hj hij
 have hi' : i < d.size := by simpa using hi
 have hj' : j < d.size := by simpa using hj
 have e := h i j (Nat.zero_le _) hij hj'
 rw [ltI, getElem!_pos d i hi', getElem!_pos d j hj'] at e
 rw [Array.getElem_toList, Array.getElem_toList]
 simp [blo, e]
theorem qfj {d d' : Array Sp} (h : Go.Sort.PermIn 0 d.size d d') (x : Sp) : x ∈ d'.toList ↔ x ∈ d.toList := by
 obtain ⟨h1, _, h3⟩ := h
 have e := h3.mem_iff (a := x)
 have a1 : d'.extract 0 d.size = d' := by rw [← h1]; exact Array.extract_size
 have a2 : d.extract 0 d.size = d := Array.extract_size
 rwa [a1, a2] at e
theorem q8S : q5M 255 #[] fun x => !q0f x := by
 intro W x
 obtain ⟨xl, xh⟩ := x
 have HC := qh (q2I ⟨xl, xh⟩)
 have HB := qh ((Below.refl W.heap.size W).alloc (Nat.le_refl _) (.cells #[.string (bs xl), .string (bs xh)] 131))
 unfold q0T at HC ⊢
 simp only at HC ⊢
 generalize q0f ⟨xl, xh⟩ = q at *
 show Calls Tryz.prog 255 #[.agg #[.string (bs xl), .string (bs xh)]] W _
 go_enter Tryz.func255, Tryz.ntmps255
 go_wp2_with fail
 refine (HC.out _).mono ?_
 rintro r w2 ⟨rfl, hb2⟩
 have HB2 := qh (HB.out.trans (hb2.mono HB.out.size))
 clear hb2
 go_wp2_with fail
 go_ret
 exact ⟨rfl, HB2.out⟩
theorem qds (x y : Sp) (W : World) : Calls Tryz.prog 257 #[.agg #[.string (bs x.lo), .string (bs x.hi)], .agg #[.string (bs y.lo), .string (bs y.hi)]] W fun e w' => e = .returned (.int .i64 (cfI x y)) ∧ ∃ q os', w' = Go.Sort.grow (W.drewN q) os' := by
 have hcon := fun W' => Any.strings_Compare Tryz.lays106 (bs x.lo) (bs y.lo) W'
 change ∀ W', Calls Tryz.prog 130 _ _ _ at hcon
 have e : Lib.compareBytes (bs x.lo).data.toList (bs y.lo).data.toList = cfI x y := rfl
 rw [e] at hcon
 generalize cfI x y = r at hcon ⊢
 clear e
 go_enter Tryz.func257, Tryz.ntmps257
 go_wp2_with (go_at_call 130; refine (hcon _).mono ?_; rintro e w' ⟨rfl, rfl⟩)
 go_ret
 exact ⟨rfl, 0, _, by rw [Go.Sort.alloc_eq_grow, Go.Sort.alloc_eq_grow, Go.Sort.grow_grow]; rfl⟩
theorem qcM (l : List Sp) (lo b cap : Nat) (w : World) (hl : l.length ≤ 1000000) (hb : BlkI w lo b cap l) (hlo : lo ≤ w.heap.size) :
  Calls Tryz.prog 220 #[.slice (some ⟨b, 0, none⟩) l.length cap] w fun e w' => ∃ m : List Sp, (∀ s, s ∈ m ↔ s ∈ l ∧ q0f s = true) ∧ q7n m ∧ m.length ≤ l.length ∧ e = .returned (.slice (some ⟨b, 0, none⟩) m.length cap) ∧ BlkI w' lo b cap m ∧ Below lo w w' := by
 have eg1 : ∀ args w, (callFunc 255 args).run Tryz.prog w = .ok (.enter 255 args) w := enters_of Tryz.func255 (by kernel_rfl) rfl
 have eg2 : ∀ args w, (callFunc 257 args).run Tryz.prog w = .ok (.enter 257 args) w := enters_of Tryz.func257 (by kernel_rfl) rfl
 have HD := qh (q63 (fun x => !q0f x) 255 #[] eg1 q8S l lo b cap w hl hb)
 have hF : ∀ s, s ∈ (l.filter fun x => !!q0f x) ↔ s ∈ l ∧ q0f s = true := fun s => by rw [List.mem_filter, Bool.not_not]
 have hFl : (l.filter fun x => !!q0f x).length ≤ l.length := List.length_filter_le _ _
 generalize (l.filter fun x => !!q0f x) = F at *
 have HF := qh hF
 have HFl := qh hFl
 have HLl := qh hl
 have HLO := qh hlo
 have HE := qh eg2
 clear hb hF hFl hl hlo eg1 eg2
 go_enter Tryz.func220, Tryz.ntmps220
 go_wp2_with fail
 refine HD.out.mono ?_
 rintro r w1 ⟨rfl, hb1, hw1⟩
 have hcmp : CmpLays Tryz.prog 257 #[] q07 2 cfI b 0 F.toArray.size w1 := fun m os dk _ x y => qds x y _
 have hcon := AnyQ.slices_SortFunc Tryz.sortI 2 Tryz.isAgg131 Tryz.sizeOf131 q07 (fun _ => rfl) spF.one cfI swoI 257 #[] b 0 cap F.toArray w1 HE.out hcmp hb1.holds hb1.lt.2 (by have := HFl.out; have := HLl.out; simp; omega)
 change Calls Tryz.prog 256 #[.slice (some ⟨b, 0, none⟩) F.length cap, _] _ _ at hcon
 have HCon := qh hcon
 have HB1 := qh hb1
 have HW1 := qh hw1
 clear hb1 hw1 hcmp hcon HD
 go_wp2_with fail
 refine HCon.out.mono ?_
 rintro e w2 ⟨rfl, d, n, os, hp, hs, rfl⟩
 have hd : d.size = F.length := by rw [hp.1]; simp
 have hm := qfj hp
 have hr := q9j (d := d) (by rw [hp.1]; exact hs)
 have HM := qh (show ∀ s, s ∈ d.toList ↔ s ∈ l ∧ q0f s = true from fun s => by rw [hm s, ← HF.out s])
 have HR := qh hr
 have HS := qh (HB1.out.sorted n d os hd)
 have HW := qh (HW1.out.trans (qcg HB1.out.lt.1 (Nat.le_trans HLO.out HW1.out.size) n d os))
 have HDl := qh (show d.toList.length = F.length by rw [Array.length_toList, hd])
 generalize sortWorldK q07 2 w1 b 0 n d os = w3 at *
 clear hp hs hd hm hr HCon
 go_wp2_with fail
 go_ret
 exact ⟨d.toList, HM.out, HR.out, by rw [HDl.out]; exact HFl.out, by rw [HDl.out]; rfl, HS.out, HW.out⟩
open Go.RowKit
theorem q45 (g : Nat) (t : TypeId) : ∀ (vs : List Value) (o : Nat) (w : World) (cur : Array Value), w.heap[g]? = some (.cells cur t (0, 0)) → o + vs.length ≤ cur.size →
  ∃ cur' : Array Value, (w.setCells g o vs).heap[g]? = some (.cells cur' t (0, 0)) ∧ cur'.size = cur.size ∧ (∀ i, i < o → cur'[i]? = cur[i]?) ∧ ∀ q u, vs[q]? = some u → cur'[o + q]? = some u
 | [], o, _, cur, h, _ => ⟨cur, h, rfl, fun _ _ => rfl, fun _ _ h => by cases h⟩
 | v :: vs, o, w, cur, h, hs => by
  have hs' : o + 1 + vs.length ≤ cur.size := by rw [List.length_cons] at hs; omega
  have h1 : (w.setCell ⟨g, o, none⟩ v).heap[g]? = some (.cells (cur.setIfInBounds o v) t (0, 0)) := by
   simp [World.setCell, Array.getElem?_modify, h]
  obtain ⟨cur', k1, k2, k3, k4⟩ := q45 g t vs (o + 1) (w.setCell ⟨g, o, none⟩ v) _ h1 (by rw [Array.size_setIfInBounds]; exact hs')
  refine ⟨cur', k1, by rw [k2, Array.size_setIfInBounds], fun i hi => ?_, fun q u hq => ?_⟩
  ·rw [k3 i (by omega), Array.getElem?_setIfInBounds_ne (by omega)]
  ·cases q with
   | zero =>
    rw [Nat.add_zero, k3 o (by omega), Array.getElem?_setIfInBounds_self_of_lt (by omega)]
    exact hq
   | succ q =>
    have := k4 q u hq
    rwa [show o + 1 + q = o + (q + 1) by omega] at this
theorem BlkI.splice {w : World} {lo b cap : Nat} {l : List Sp} (h : BlkI w lo b cap l) {i j : Nat} (hij : i ≤ j) (hj : j ≤ l.length) : BlkI (w.setCells b (i * 2) (q0g q07 (l.drop j))) lo b cap (l.take i ++ l.drop j) := by
 have hat := h.take i
 obtain ⟨cur, h1, h2, h3, h4, h5, h6⟩ := h
 have hdl : (q0g q07 (l.drop j)).length = (l.length - j) * 2 := by rw [spF.flat_len, List.length_drop]
 obtain ⟨cur', k1, k2, k3, k4⟩ := q45 b _ (q0g q07 (l.drop j)) (i * 2) w cur h2 (by rw [hdl]; omega)
 have htl : (l.take i).length = i := by rw [List.length_take]; omega
 have e1 : cur.toList.take (i * 2) = q0g q07 (l.take i) := by
  have e := congrArg (List.take (i * 2)) h6
  rw [List.take_take, spF.flat_take, show min (i * 2) (l.length * 2) = i * 2 by omega] at e
  exact e
 refine ⟨cur', h1, k1, by rw [List.length_append, htl, List.length_drop]; omega, h4, by rw [k2, h5], ?_⟩
 rw [q0Z, ← e1, List.length_append, htl, List.length_drop]
 apply List.ext_getElem?
 intro t
 rw [List.getElem?_take]
 have hcl : i * 2 ≤ cur.toList.length := by rw [Array.length_toList]; omega
 by_cases ht : t < i * 2
 ·rw [if_pos (by omega), List.getElem?_append_left (by rw [List.length_take]; omega), List.getElem?_take, if_pos ht, Array.getElem?_toList, Array.getElem?_toList, k3 t ht]
 ·rw [List.getElem?_append_right (by rw [List.length_take]; omega), List.length_take, Nat.min_eq_left hcl]
  split
  ·next h9 =>
   have hq : t - i * 2 < (q0g q07 (l.drop j)).length := by rw [hdl]; omega
   rw [Array.getElem?_toList, List.getElem?_eq_getElem hq]
   have := k4 (t - i * 2) _ (List.getElem?_eq_getElem hq)
   rwa [show i * 2 + (t - i * 2) = t by omega] at this
  ·next h9 => rw [List.getElem?_eq_none (by rw [hdl]; omega)]
theorem q65 (l : List Sp) (i j lo b cap : Nat) (w : World) (hij : i ≤ j) (hj : j ≤ l.length) (hl : l.length ≤ 1000000) (hb : BlkI w lo b cap l) (hlo : lo ≤ w.heap.size) :
  Calls Tryz.prog 179 #[.slice (some ⟨b, 0, none⟩) l.length cap, .int .i64 i, .int .i64 j] w fun e w' => e = .returned (.slice (some ⟨b, 0, none⟩) (l.take i ++ l.drop j).length cap) ∧ BlkI w' lo b cap (l.take i ++ l.drop j) ∧ Below lo w w' := by
 have hlc := hb.len.1
 have hcm := hb.len.2
 have a1 : (0 : Int) ≤ (i : Int) := by omega
 have a2 : (i : Int) ≤ (j : Int) := by omega
 have a3 : (j : Int) ≤ (l.length : Int) := by omega
 have a4 : (l.length : Int) ≤ (cap : Int) := by omega
 have HB := qh hb
 have HLO := qh hlo
 by_cases he : i = j
 ·subst he
  have e1 : ((i : Int) == (i : Int)) = true := beq_self_eq_true _
  have HE := qh (show l.take i ++ l.drop i = l from List.take_append_drop i l)
  clear hb hlo
  rw [HE.out]
  go_enter Tryz.func179, Tryz.ntmps179
  go_wp2
  all_goals
   go_ret
   exact ⟨rfl, HB.out, Below.refl _ _⟩
 ·have e1 : ((i : Int) == (j : Int)) = false := by rw [beq_eq_false_iff_ne]; omega
  have e2 : ¬ ((i : Int) = (j : Int)) := by omega
  have hlt : i < j := by omega
  have a5 : i ≤ cap := by omega
  have a6 : ¬ l.length = i := by omega
  obtain ⟨i0, z, hi0, hz0, hzs, hs2, hb2⟩ := qaT
  have HI := qh hi0
  have HS2 := qh hs2
  have hbd : BlkI w.drew lo b cap l := hb
  have hsp := hbd.splice hij hj
  have HSp := qh hsp
  have HRow := qh (hbd.row.drop spF j cap hj hlc)
  have HBw := qh (Below.setCells (q0g q07 (l.drop j)) (i * 2) w w.drew (Below.refl lo w).drew hb.lt.1)
  obtain ⟨cur, g1, g2, _⟩ := hbd.cur
  have HSpare := qh (fun q (hq : q < (q0g q07 (l.drop j)).length) => (show (w.drew.cell? ⟨b, 0 + i * 2 + q, none⟩).isSome = true ∧ w.drew.frozen? ⟨b, 0 + i * 2 + q, none⟩ = false by
   refine ⟨?_, hbd.frozen _⟩
   rw [spF.flat_len, List.length_drop] at hq
   rw [cell_of_row w.drew b _ _ _ _ g1, Array.getElem?_eq_getElem (by omega)]
   rfl))
  have HLen := qh (show (l.take i ++ l.drop j).length = i + (l.length - j) by rw [List.length_append, List.length_take, List.length_drop]; omega)
  have HFl := qh (show (q0g q07 (l.drop j)).length = (l.length - j) * 2 by rw [spF.flat_len, List.length_drop])
  have hdl : (l.drop j).length = l.length - j := List.length_drop
  obtain ⟨N, hN⟩ : ∃ N, l.take i ++ l.drop j = N := ⟨_, rfl⟩
  rw [hN] at HSp HLen ⊢
  clear hb hbd hlo hi0 hz0 hzs hs2 hb2 g1 g2 hsp hN
  generalize hW : w.drew.setCells b (i * 2) (q0g q07 (l.drop j)) = w5 at *
  have HW := qh hW
  clear hW
  have HDel : ∀ (q : Nat), q = i + (l.length - j) → Hid (∀ ty, (Builtin.clear_ #[84] ty #[.slice (some ⟨b, q * 2, none⟩) (l.length - q) (cap - q)]).run Tryz.prog w5 = .ok (.tuple #[]) (w5.setCells b (q * 2) (q42 (l.length - q)))) := fun q hq => qh fun ty => q7p (P := Tryz.prog) rfl HSp.out ty q (l.length - q) (cap - q) (by omega) (by omega)
  have HFin : ∀ (q : Nat), q = i + (l.length - j) → Hid (BlkI (w5.setCells b (q * 2) (q42 (l.length - q))) lo b cap N ∧ Below lo w (w5.setCells b (q * 2) (q42 (l.length - q)))) := fun q hq => qh ⟨by
   have h := HSp.out.tail q (q42 (l.length - q))
   rw [List.take_of_length_le (by rw [HLen.out]; omega)] at h
   exact h, Below.setCells _ _ _ _ HBw.out HSp.out.lt.1⟩
  by_cases hcj : cap = j
  ·have hdn : l.length - j = 0 := by omega
   have hcz : cap - j = 0 := by omega
   have HD := HDel i (by omega)
   have HFi := HFin i (by omega)
   have HLn := qh (show N.length = i by rw [HLen.out]; omega)
   subst hcj
   have hlcap : cap = l.length := by omega
   subst hlcap
   have HF0 := qh (show (q0g q07 (l.drop l.length)).length = 0 * 2 by rw [HFl.out]; omega)
   have HCell := qh (show ∀ (q : Nat) (u : Value), (q0g q07 (l.drop l.length))[q]? = some u → w.drew.cell? ((⟨b, 0, none⟩ : Addr).add q) = some u from fun q u hu => by
    have h9 := (List.getElem?_eq_some_iff.1 hu).1
    rw [HF0.out] at h9
    omega)
   obtain ⟨w6, hw6⟩ : ∃ y, w5.setCells b (i * 2) (q42 (l.length - i)) = y := ⟨_, rfl⟩
   rw [hw6] at HD HFi
   have HW2 := qh (show w.drew.setCells b (i * 2) (q0g q07 []) = w5 by rw [← HW.out, List.drop_length])
   have q1 : (0 : Int) ≤ (i : Int) := by omega
   have q2 : (i : Int) ≤ (l.length : Int) := by omega
   have q3 : i ≤ l.length := by omega
   clear hw6 HDel HFin hij hj hdn hcz hdl
   go_enter Tryz.func179, Tryz.ntmps179
   go_wp2
   go_region_law (refine step_append_room rfl _ _ 84 rfl 131 i0 2 Tryz.underlying84 HI.out HS2.out b 0 i l.length rfl ⟨b, 0, none⟩ 0 0 (q0g q07 (l.drop l.length)) rfl HF0.out HCell.out (spF.flat_one _) (by omega) HSpare.out ?_)
   rw [HW2.out]
   have HDo := HD.out
   go_wp2
   go_ret
   exact ⟨by rw [HLn.out]; rfl, HFi.out.1, HFi.out.2⟩
  ·have hR := HRow.out
   rw [if_neg hcj] at hR
   have HCell := qh (show ∀ (q : Nat) (u : Value), (q0g q07 (l.drop j))[q]? = some u → w.drew.cell? ((⟨b, j * 2, none⟩ : Addr).add q) = some u from fun q u hu => by
    have h9 := (List.getElem?_eq_some_iff.1 hu).1
    rw [spF.flat_len] at h9
    obtain ⟨b', o', e', _, _, hc'⟩ := hR (by omega)
    have e9 : b' = b ∧ o' = j * 2 := by
     simp [q0Q] at e'
     exact ⟨e'.1.symm, e'.2.symm⟩
    obtain ⟨rfl, rfl⟩ := e9
    rw [q0Q]
    exact hc' q u hu)
   clear hR
   go_enter Tryz.func179, Tryz.ntmps179
   go_wp2
   go_region_law (refine step_append_room rfl _ _ 84 rfl 131 i0 2 Tryz.underlying84 HI.out HS2.out b 0 i cap rfl ⟨b, j * 2, none⟩ (l.length - j) (cap - j) (q0g q07 (l.drop j)) rfl HFl.out HCell.out (spF.flat_one _) (by omega) HSpare.out ?_)
   obtain ⟨q, hq⟩ : ∃ q, i + (l.length - j) = q := ⟨_, rfl⟩
   have HD := HDel q hq.symm
   have HFi := HFin q hq.symm
   have HLn := qh (show N.length = q by rw [HLen.out]; omega)
   have q1 : (0 : Int) ≤ (q : Int) := by omega
   have q2 : (q : Int) ≤ (l.length : Int) := by omega
   have q3 : q ≤ l.length := by omega
   have q4 : ¬ cap = q := by omega
   obtain ⟨w6, hw6⟩ : ∃ y, w5.setCells b (q * 2) (q42 (l.length - q)) = y := ⟨_, rfl⟩
   rw [hw6] at HD HFi
   rw [HW.out, hq]
   clear hw6 hq HDel HFin
   have HDo := HD.out
   go_wp2
   go_ret
   exact ⟨by rw [HLn.out]; rfl, HFi.out.1, HFi.out.2⟩
open Go.RowKit
theorem q64 (p : Sp → Bool) (g : Nat) (lb : Array Value) (eg : ∀ args w, (callFunc g args).run Tryz.prog w = .ok (.enter g args) w) (hp : q5M g lb p) (w : World) :
  Calls Tryz.prog 254 #[.slice none 0 0, .func (.func g) #[] lb] w fun e w' => e = .returned (.slice none 0 0) ∧ Below w.heap.size w w' := by
 have HI := qh (q73 p g lb eg [] none 0 0 w.heap.size w (hp.at_ w) (by simp) RowG.nil_ (Nat.le_refl _))
 clear hp
 go_enter Tryz.func254, Tryz.ntmps254
 go_wp2_with fail
 refine HI.out.mono ?_
 rintro r w1 ⟨⟨z, rfl, hz⟩, hb1⟩
 have HB1 := qh hb1
 clear HI hb1
 rcases hz with ⟨i, hi, _⟩ | ⟨rfl, _⟩
 ·exact absurd hi (by simp)
 ·have d1 : ((-1 : Int) == -1) = true := rfl
  go_wp2_with fail
  go_ret
  exact ⟨rfl, HB1.out⟩
theorem qcN (w : World) : Calls Tryz.prog 220 #[.slice none 0 0] w fun e w' => e = .returned (.slice none 0 0) ∧ Below w.heap.size w w' := by
 have eg1 : ∀ args w, (callFunc 255 args).run Tryz.prog w = .ok (.enter 255 args) w := enters_of Tryz.func255 (by kernel_rfl) rfl
 have HD := qh (q64 (fun x => !q0f x) 255 #[] eg1 q8S w)
 have hs := fun fv W => AnyF.slices_SortFunc_none Tryz.sortI none 0 fv W
 change ∀ fv W, Calls Tryz.prog 256 _ _ _ at hs
 have HS := qh hs
 clear eg1 hs
 go_enter Tryz.func220, Tryz.ntmps220
 go_wp2_with fail
 refine HD.out.mono ?_
 rintro r w1 ⟨rfl, hb1⟩
 go_wp2_with fail
 refine (HS.out _ w1).mono ?_
 rintro r w2 ⟨rfl, rfl⟩
 go_wp2_with fail
 go_ret
 exact ⟨rfl, hb1⟩
theorem qbA (l : List Sp) (lo : Nat) (v : Value) (w : World) (hl : l.length ≤ 1000000) (ho : OwnG 131 2 q07 w lo v l) (hlo : lo ≤ w.heap.size) :
  Calls Tryz.prog 220 #[v] w fun e w' => ∃ (m : List Sp) (v' : Value), (∀ s, s ∈ m ↔ s ∈ l ∧ q0f s = true) ∧ q7n m ∧ m.length ≤ l.length ∧ e = .returned v' ∧ OwnG 131 2 q07 w' lo v' m ∧ Below lo w w' := by
 rcases ho.blk with ⟨rfl, rfl⟩ | ⟨b, cap, rfl, hb⟩
 ·exact (qcN w).mono fun _ _ q => ⟨[], _, fun s => by simp, List.Pairwise.nil, Nat.le_refl _, q.1, OwnG.none_ _ _ _ _ _, q.2.mono hlo⟩
 ·exact (qcM l lo b cap w hl hb hlo).mono fun _ _ ⟨m, h1, h2, h3, h4, h5, h6⟩ => ⟨m, _, h1, h2, h3, h4, h5.own, h6⟩
structure UniI (l L : List Sp) (j n : Nat) : Prop where
 len : L.length = l.length
 le : n ≤ j
 pos : 0 < j → 0 < n
 out : L.take n = (l.take j).foldl q4l []
 rest : L.drop j = l.drop j
theorem UniI.start (l : List Sp) : UniI l l 0 0 := ⟨rfl, Nat.le_refl _, id, rfl, rfl⟩
theorem UniI.at_ {l L : List Sp} {j n : Nat} (h : UniI l L j n) (hj : j < l.length) (hj' : j < L.length) : L[j]'hj' = l[j]'hj := by
 have e := h.rest
 rw [List.drop_eq_getElem_cons hj', List.drop_eq_getElem_cons hj] at e
 injection e
theorem qbe {l : List Sp} {j : Nat} (hj : j < l.length) : (l.take (j + 1)).foldl q4l [] = q4l ((l.take j).foldl q4l []) (l[j]'hj) := by
 rw [List.take_succ_eq_append_getElem hj, List.foldl_append]
 rfl
theorem UniI.rest_set {l L : List Sp} {j n : Nat} (h : UniI l L j n) {q : Nat} (hq : q ≤ j) (x : Sp) : (L.set q x).drop (j + 1) = l.drop (j + 1) := by
 rw [List.drop_set_of_lt (by omega)]
 have e := congrArg (List.drop 1) h.rest
 rwa [List.drop_drop, List.drop_drop] at e
theorem UniI.more {l L : List Sp} {j n : Nat} (h : UniI l L j n) (hj : j < l.length) (hs : n = 0 ∨ ∃ hn : n - 1 < L.length, gapB (L[n - 1]'hn) (l[j]'hj) = true) : UniI l (L.set n (l[j]'hj)) (j + 1) (n + 1) := by
 have hk : n < L.length := by have := h.le; have := h.len; omega
 refine ⟨by rw [List.length_set, h.len], by have := h.le; omega, fun _ => by omega, ?_, h.rest_set h.le _⟩
 rw [qbe hj, ← h.out, List.take_succ_eq_append_getElem (by rw [List.length_set]; exact hk), List.getElem_set_self, List.take_set_of_le (Nat.le_refl _)]
 rcases hs with h0 | ⟨hn, hg⟩
 ·subst h0
  rfl
 ·by_cases h0 : n = 0
  ·subst h0
   rfl
  ·obtain ⟨q, rfl⟩ : ∃ q, n = q + 1 := ⟨n - 1, by omega⟩
   simp only [Nat.add_sub_cancel] at hg hn
   rw [List.take_succ_eq_append_getElem hn, q5c, if_pos hg]
theorem UniI.less {l L : List Sp} {j q : Nat} (h : UniI l L j (q + 1)) (hj : j < l.length) (hn : q < L.length) (hg : gapB (L[q]'hn) (l[j]'hj) = false) : UniI l (L.set q ⟨(L[q]'hn).lo, q2K (L[q]'hn).hi (l[j]'hj).hi⟩) (j + 1) (q + 1) := by
 refine ⟨by rw [List.length_set, h.len], by have := h.le; omega, fun _ => by omega, ?_, h.rest_set (by have := h.le; omega) _⟩
 rw [qbe hj, ← h.out, List.take_succ_eq_append_getElem (by rw [List.length_set]; exact hn), List.getElem_set_self, List.take_set_of_le (Nat.le_refl _), List.take_succ_eq_append_getElem hn, q5c, if_neg (by rw [hg]; exact Bool.false_ne_true)]
theorem UniI.end_ {l L : List Sp} {n : Nat} (h : UniI l L l.length n) : L.take n = l.foldl q4l [] := by rw [h.out, List.take_length]
end Go.Proofs.YtdpbllacfljmoaaGreat
