import Derived.Test.YtfdiidhilonkoaaZC40
import Derived.Shelf.SlGeneric
import Derived.Shelf.Small.Strs
import Derived.Shelf.SlSortCmp.WholeK
import Derived.Ground.SlsfProg
import Derived.Test.YtfdiidhilonkoaaProg
set_option linter.unusedVariables false
/-
  Package span, as it landed: slices.DeleteFunc of a list of the call's own.
-/
namespace Go.Proofs.Ytfdiidhilonkoaa
open Go.RowKit

def PredAll (g : Nat) (lb : Array Value) (p : Sp → Bool) : Prop :=
  ∀ (W : World) (x : Sp), Calls Try.prog g (#[spVal x] ++ lb) W fun e w' => e = .returned (.bool (p x)) ∧ Below W.heap.size W w'
theorem PredAll.at_ {g : Nat} {lb : Array Value} {p : Sp → Bool} (h : PredAll g lb p) (w : World) : PredI g lb p w := fun W x _ => h W x
/-- How far the row has come: L is what lies there, k are kept of the first j. -/
structure DelI (l L : List Sp) (p : Sp → Bool) (j k : Nat) : Prop where
  len : L.length = l.length
  le : k ≤ j
  kept : L.take k = (l.take j).filter fun x => !p x
  rest : L.drop j = l.drop j
theorem DelI.start {l : List Sp} {p : Sp → Bool} {i : Nat} (hi : i < l.length) (h1 : p (l[i]'hi) = true) (h : ∀ q (hq : q < l.length), q < i → p (l[q]'hq) = false) : DelI l l p (i + 1) i := by
  refine ⟨rfl, by omega, ?_, rfl⟩
  rw [List.take_succ_eq_append_getElem hi, List.filter_append, List.filter_cons_of_neg (by rw [h1]; simp), List.filter_nil, List.append_nil, List.filter_eq_self.2]
  intro x hx
  obtain ⟨q, hq, rfl⟩ := List.getElem_of_mem hx
  rw [List.length_take] at hq
  rw [List.getElem_take, h q (by omega) (by omega)]
  rfl
theorem DelI.at_ {l L : List Sp} {p : Sp → Bool} {j k : Nat} (h : DelI l L p j k) (hj : j < l.length) (hj' : j < L.length) : L[j]'hj' = l[j]'hj := by
  have e := h.rest
  rw [List.drop_eq_getElem_cons hj', List.drop_eq_getElem_cons hj] at e
  injection e
theorem DelI.skip {l L : List Sp} {p : Sp → Bool} {j k : Nat} (h : DelI l L p j k) (hj : j < l.length) (hp : p (l[j]'hj) = true) : DelI l L p (j + 1) k := by
  refine ⟨h.len, by have := h.le; omega, ?_, ?_⟩
  · rw [h.kept, List.take_succ_eq_append_getElem hj, List.filter_append, List.filter_cons_of_neg (by rw [hp]; simp), List.filter_nil, List.append_nil]
  · have e := congrArg (List.drop 1) h.rest
    rwa [List.drop_drop, List.drop_drop] at e
theorem DelI.keep {l L : List Sp} {p : Sp → Bool} {j k : Nat} (h : DelI l L p j k) (hj : j < l.length) (hp : p (l[j]'hj) = false) : DelI l (L.set k (l[j]'hj)) p (j + 1) (k + 1) := by
  have hk : k < L.length := by have := h.le; have := h.len; omega
  refine ⟨by rw [List.length_set, h.len], by have := h.le; omega, ?_, ?_⟩
  · rw [List.take_succ_eq_append_getElem (by rw [List.length_set]; exact hk), List.getElem_set_self, List.take_set_of_le (Nat.le_refl _), h.kept, List.take_succ_eq_append_getElem hj, List.filter_append, List.filter_cons_of_pos (by rw [hp]; rfl), List.filter_nil]
  · rw [List.drop_set_of_lt (by have := h.le; omega)]
    have e := congrArg (List.drop 1) h.rest
    rwa [List.drop_drop, List.drop_drop] at e
theorem DelI.end_ {l L : List Sp} {p : Sp → Bool} {k : Nat} (h : DelI l L p l.length k) : L.take k = l.filter fun x => !p x := by rw [h.kept, List.take_length]
set_option maxHeartbeats 4000000 in
set_option maxRecDepth 100000 in
theorem dDeleteFunc_any (p : Sp → Bool) (g : Nat) (lb : Array Value) (eg : ∀ args w, (callFunc g args).run Try.prog w = .ok (.enter g args) w) (hp : PredAll g lb p) (l : List Sp) (lo b cap : Nat) (w : World) (hl : l.length ≤ 1000000) (hb : BlkI w lo b cap l) :
    Calls Try.prog 57 #[.slice (some ⟨b, 0, none⟩) l.length cap, .func (.func g) #[] lb] w fun e w' => e = .returned (.slice (some ⟨b, 0, none⟩) (l.filter fun x => !p x).length cap) ∧ BlkI w' lo b cap (l.filter fun x => !p x) ∧ Below lo w w' := by
  have HI := Lib.hid (dIndex_any p g lb eg l (some ⟨b, 0, none⟩) cap 0 w.heap.size w (hp.at_ w) (by omega) hb.row (Nat.le_refl _))
  have HP := Lib.hid hp
  have HB0 := Lib.hid hb
  have hlo := hb.lt
  have hlc := hb.len
  have HL := Lib.hid hl
  have HLC := Lib.hid hlc
  have HLO := Lib.hid hlo
  clear hp hb hlo
  obtain ⟨F, hF⟩ : ∃ F, (l.filter fun x => !p x) = F := ⟨_, rfl⟩
  rw [hF]
  have HF := Lib.hid hF
  clear hF
  go_enter Try.func57, Try.ntmps57
  go_wp2_with fail
  refine HI.out.mono ?_
  rintro r w1 ⟨⟨z, rfl, hz⟩, hb1⟩
  have HB1 := Lib.hid (HB0.out.below hb1)
  have HW1 := Lib.hid (hb1.mono (Nat.le_of_lt (Nat.lt_of_le_of_lt HLO.out.1 HLO.out.2)))
  clear HI hb1
  rcases hz with ⟨i, hi, rfl, h1, h2⟩ | ⟨rfl, h⟩
  · have d1 : ((i : Int) == -1) = false := by rw [beq_eq_false_iff_ne]; omega
    have d2 : ¬ ((i : Int) = -1) := by omega
    have HD := Lib.hid (DelI.start hi h1 h2)
    have hi9 : i < 1000000 := by have := HL.out; omega
    clear h1 h2
    go_wp2_with fail
    go_loopg [5, 6, 7] (l.length - (i + 1)) (fun q vi vj _ wr => ∃ (j k : Nat) (L : List Sp), j + q = l.length ∧ vj = .int .i64 j ∧ vi = .int .i64 k ∧ DelI l L p j k ∧ k < j ∧ BlkI wr lo b cap L ∧ Below lo w wr)
    case atStart => exact ⟨i + 1, i, l, by omega, by go_num, rfl, HD.out, by omega, HB1.out, HW1.out⟩
    case round =>
      obtain ⟨j, k, L, hk, rfl, rfl, hd, hkj, hbl, hbw⟩ := hrel
      have HK := Lib.hid hk
      have HDl := Lib.hid hd
      have HBl := Lib.hid hbl
      have HBw := Lib.hid hbw
      clear hk hd hbl hbw
      by_cases hj : j < l.length
      · have hlt : decide ((j : Int) < (l.length : Int)) = true := by simpa using hj
        have hlt2 : decide (j < l.length) = true := by simpa using hj
        have hjL : j < L.length := by rw [HDl.out.len]; exact hj
        have hkL : k < L.length := by omega
        have hkl : k < l.length := by omega
        have hcl := HBl.out.at_ hjL
        rw [HDl.out.at_ hj hjL] at hcl
        obtain ⟨c0, c1⟩ := hcl
        have HSk := Lib.hid (HDl.out.skip hj)
        have HKe := Lib.hid (HDl.out.keep hj)
        have hbn := HBl.out.allocs
        have HCall := Lib.hid (fun W => HP.out W (l[j]'hj))
        have HSt := Lib.hid (fun (W : World) (h : BlkI W lo b cap L) => h.store k (l[j]'hj) hkL)
        generalize l[j]'hj = x at *
        obtain ⟨xl, xh⟩ := x
        unfold spVal at HCall
        simp only at c0 c1 HCall HSt
        obtain ⟨wt, hwt⟩ : ∃ y, wr.alloc (.cells #[.string (bs xl), .string (bs xh)] 52) = y := ⟨_, rfl⟩
        have hx := heap_alloc_new wr (.cells #[.string (bs xl), .string (bs xh)] 52)
        have hbt := hbn (.cells #[.string (bs xl), .string (bs xh)] 52)
        have hwb : Below wr.heap.size wr wt := by rw [← hwt]; exact (Below.refl _ _).alloc (Nat.le_refl _) _
        rw [hwt] at hx hbt
        have HX := Lib.hid (fun (W : World) (h : Below wt.heap.size wt W) => And.intro (cell_of_row W wr.heap.size 0 _ _ _ (heap_below hx h (lt_of_heap hx))) (cell_of_row W wr.heap.size 1 _ _ _ (heap_below hx h (lt_of_heap hx))))
        have HBt := Lib.hid hbt
        have hlr : lo ≤ wr.heap.size := by have := HBl.out.lt; omega
        have HWb := Lib.hid (HBw.out.trans (hwb.mono hlr))
        have HLt := Lib.hid (show lo ≤ wt.heap.size from Nat.le_trans hlr hwb.size)
        have HWt := Lib.hid hwt
        clear hx hbt hwb hwt hlr hbn
        go_upto_region 8 with fail
        rw [HWt.out]
        clear HWt c0 c1
        obtain ⟨x0, x1⟩ := HX.out wt (Below.refl _ _)
        cases hq : p ⟨xl, xh⟩ with
        | true =>
          have hcall := HCall.out wt
          rw [hq] at hcall
          have HC := Lib.hid hcall
          have HD2 := Lib.hid (HSk.out hq)
          clear hcall hq HSk HKe HCall
          go_wp2_with (go_at_fn g; refine HC.out.mono ?_; rintro e w' ⟨rfl, hb'⟩)
          go_roundg (gk - 1)
          case measure => have := HK.out; omega
          case rel => exact ⟨j + 1, k, L, by have := HK.out; omega, by go_num, rfl, HD2.out, by omega, HBt.out.below hb', HWb.out.trans (hb'.mono HLt.out)⟩
        | false =>
          have hcall := HCall.out wt
          rw [hq] at hcall
          have HC := Lib.hid hcall
          have HD2 := Lib.hid (HKe.out hq)
          clear hcall hq HSk HKe HCall
          go_wp2_with fail
          go_at_fn g
          refine HC.out.mono ?_
          rintro e w2 ⟨rfl, hb'⟩
          have hb2 := HBt.out.below hb'
          have HB2 := Lib.hid hb2
          have f0 := hb2.frozen (k * 2)
          have f1 := hb2.frozen (k * 2 + 1)
          have hk0 := hb2.at_ hkL
          obtain ⟨k0, k1⟩ := hk0
          have HW2 := Lib.hid (HWb.out.trans (hb'.mono HLt.out))
          clear x0 x1
          obtain ⟨x0, x1⟩ := HX.out w2 hb'
          clear hb' hb2
          go_wp2_with fail
          go_roundg (gk - 1)
          case measure => have := HK.out; omega
          case rel => exact ⟨j + 1, k + 1, _, by have := HK.out; omega, by go_num, by go_num, HD2.out, by omega, HSt.out _ HB2.out, ((HW2.out.setCell HLO.out.1 _).setCell HLO.out.1 _)⟩
      · have hj' : j = l.length := by have := HK.out; omega
        subst hj'
        have hlt : decide ((l.length : Int) < (l.length : Int)) = false := by simp
        have hlt2 : decide (l.length < l.length) = false := by simp
        have HTk := Lib.hid (HDl.out.end_.trans HF.out)
        have HFl := Lib.hid (show F.length = k by rw [← HTk.out, List.length_take]; have := HDl.out.len; omega)
        have HTl := Lib.hid (show BlkI (wr.setCells b (k * 2) (zeroI (l.length - k))) lo b cap F by rw [← HTk.out]; exact HBl.out.tail k _)
        have HWl := Lib.hid (Below.setCells (zeroI (l.length - k)) (k * 2) w wr HBw.out HLO.out.1)
        have hclr := fun ty => run_clearI (P := Try.prog) rfl HBl.out ty k (l.length - k) (cap - k) (by omega) (by have := HLC.out; omega)
        obtain ⟨w6, hw6⟩ : ∃ y, wr.setCells b (k * 2) (zeroI (l.length - k)) = y := ⟨_, rfl⟩
        rw [hw6] at HTl HWl hclr
        have k1 : (0 : Int) ≤ (k : Int) := by omega
        have k2 : (k : Int) ≤ (l.length : Int) := by omega
        have k3 : (l.length : Int) ≤ (cap : Int) := by omega
        have k4 : ¬ cap = k := by omega
        clear hj hw6 HDl
        go_wp2
        go_ret
        exact ⟨by rw [HFl.out]; rfl, HTl.out, HWl.out⟩
  · have d1 : ((-1 : Int) == -1) = true := rfl
    have HE := Lib.hid (show l = F by
      rw [← HF.out, List.filter_eq_self.2]
      intro x hx
      obtain ⟨q, hq, rfl⟩ := List.getElem_of_mem hx
      rw [h q hq]
      rfl)
    clear h
    go_wp2_with fail
    go_ret
    exact ⟨by rw [← HE.out]; rfl, by rw [← HE.out]; exact HB1.out, HW1.out⟩
end Go.Proofs.Ytfdiidhilonkoaa

/-
  The tables by which the library's contracts for slices.SortFunc and strings.Compare are read at this program: laid by program.
-/
namespace Go.Proofs
open Go.Shelf
def Try.lays106_ren : Go.Shelf.Ren := ⟨fun | 106 => 61 | 213 => 67 | 265 => 79 | n => n, fun | 9 => 9 | 3 => 3 | n => n, fun | n => n⟩
theorem Try.lays106 : Go.Proofs.Lays.n106 Try.prog Try.lays106_ren := {
  mixed := by kernel_rfl
  f106 := Try.func61.trans (congrArg some (by kernel_rfl))
  f213 := Try.func67.trans (congrArg some (by kernel_rfl))
  f265 := Try.func79.trans (congrArg some (by kernel_rfl))
  t3 := Try.underlying3
  a3 := Try.isAgg3
  z3 := Try.sizeOf3
  v3 := Try.zeroValue3
  t9 := Try.underlying9
  a9 := Try.isAgg9
  z9 := Try.sizeOf9
  v9 := Try.zeroValue9 }
def Try.sortI_ren : Go.Shelf.Ren := ⟨fun | 6 => 59 | 15 => 66 | 14 => 65 | 28 => 77 | 29 => 78 | 20 => 69 | 21 => 70 | 22 => 71 | 23 => 72 | 24 => 73 | 25 => 74 | 26 => 75 | 27 => 76 | 46 => 80 | 47 => 81 | 48 => 82 | 49 => 83 | 50 => 84 | 57 => 85 | n => n, fun | 22 => 27 | 24 => 52 | 25 => 75 | 3 => 3 | 39 => 77 | 0 => 0 | 53 => 90 | 55 => 26 | 4 => 4 | 46 => 83 | 45 => 82 | 50 => 87 | 5 => 5 | 9 => 9 | 66 => 92 | 70 => 96 | 76 => 98 | 77 => 99 | n => n, fun | n => n⟩
theorem Try.sortI : Go.Proofs.SlLaysF0.n6 Try.prog Try.sortI_ren := {
  mixed := by kernel_rfl
  f6 := ⟨Try.f59.name, by decide, Try.func59.trans (congrArg some (by kernel_rfl))⟩
  f14 := ⟨Try.f65.name, by decide, Try.func65.trans (congrArg some (by kernel_rfl))⟩
  f15 := Try.func66.trans (congrArg some (by kernel_rfl))
  f20 := ⟨Try.f69.name, by decide, Try.func69.trans (congrArg some (by kernel_rfl))⟩
  f21 := ⟨Try.f70.name, by decide, Try.func70.trans (congrArg some (by kernel_rfl))⟩
  f22 := ⟨Try.f71.name, by decide, Try.func71.trans (congrArg some (by kernel_rfl))⟩
  f23 := ⟨Try.f72.name, by decide, Try.func72.trans (congrArg some (by kernel_rfl))⟩
  f24 := ⟨Try.f73.name, by decide, Try.func73.trans (congrArg some (by kernel_rfl))⟩
  f25 := ⟨Try.f74.name, by decide, Try.func74.trans (congrArg some (by kernel_rfl))⟩
  f26 := ⟨Try.f75.name, by decide, Try.func75.trans (congrArg some (by kernel_rfl))⟩
  f27 := ⟨Try.f76.name, by decide, Try.func76.trans (congrArg some (by kernel_rfl))⟩
  f28 := Try.func77.trans (congrArg some (by kernel_rfl))
  f29 := Try.func78.trans (congrArg some (by kernel_rfl))
  f46 := ⟨Try.f80.name, by decide, Try.func80.trans (congrArg some (by kernel_rfl))⟩
  f47 := Try.func81.trans (congrArg some (by kernel_rfl))
  f48 := Try.func82.trans (congrArg some (by kernel_rfl))
  f49 := ⟨Try.f83.name, by decide, Try.func83.trans (congrArg some (by kernel_rfl))⟩
  f50 := ⟨Try.f84.name, by decide, Try.func84.trans (congrArg some (by kernel_rfl))⟩
  f57 := ⟨Try.f85.name, by decide, Try.func85.trans (congrArg some (by kernel_rfl))⟩
  t0 := Try.underlying0
  a0 := Try.isAgg0
  z0 := Try.sizeOf0
  v0 := Try.zeroValue0
  t3 := Try.underlying3
  a3 := Try.isAgg3
  z3 := Try.sizeOf3
  v3 := Try.zeroValue3
  t4 := Try.underlying4
  a4 := Try.isAgg4
  z4 := Try.sizeOf4
  v4 := Try.zeroValue4
  t5 := Try.underlying5
  a5 := Try.isAgg5
  z5 := Try.sizeOf5
  v5 := Try.zeroValue5
  t9 := Try.underlying9
  a9 := Try.isAgg9
  z9 := Try.sizeOf9
  v9 := Try.zeroValue9
  t22 := Try.underlying27
  a22 := Try.isAgg27
  z22 := Try.sizeOf27
  v22 := Try.zeroValue27
  t25 := Try.underlying75
  a25 := Try.isAgg75
  z25 := Try.sizeOf75
  v25 := Try.zeroValue75
  t39 := Try.underlying77
  a39 := Try.isAgg77
  z39 := Try.sizeOf77
  v39 := Try.zeroValue77
  t45 := Try.underlying82
  a45 := Try.isAgg82
  z45 := Try.sizeOf82
  v45 := Try.zeroValue82
  t46 := Try.underlying83
  a46 := Try.isAgg83
  z46 := Try.sizeOf83
  v46 := Try.zeroValue83
  t50 := Try.underlying87
  a50 := Try.isAgg87
  z50 := Try.sizeOf87
  v50 := Try.zeroValue87
  t53 := Try.underlying90
  a53 := Try.isAgg90
  z53 := Try.sizeOf90
  v53 := Try.zeroValue90
  t55 := Try.underlying26
  a55 := Try.isAgg26
  z55 := Try.sizeOf26
  v55 := Try.zeroValue26
  t66 := Try.underlying92
  a66 := Try.isAgg92
  z66 := Try.sizeOf92
  v66 := Try.zeroValue92
  t70 := Try.underlying96
  a70 := Try.isAgg96
  z70 := Try.sizeOf96
  v70 := Try.zeroValue96
  t76 := Try.underlying98
  a76 := Try.isAgg98
  z76 := Try.sizeOf98
  v76 := Try.zeroValue98
  t77 := Try.underlying99
  a77 := Try.isAgg99
  z77 := Try.sizeOf99
  v77 := Try.zeroValue99 }
end Go.Proofs
