import Derived.Test.YtjkmodfbbiojmaaZC08
import Derived.Deep.RegionHeld3
/-
  Stretches, the document's own answers: put.
-/
namespace Go.Proofs.Ytjkmodfbbiojmaa
open Go.RowKit

theorem filter_yesI {α : Type} {f : α → Bool} {l : List α} {j : Nat} (hj : j < l.length) (h : f l[j] = true) : (l.take (j + 1)).filter f = (l.take j).filter f ++ [l[j]] := by
  rw [List.take_succ_eq_append_getElem hj, List.filter_append, List.filter_cons_of_pos h, List.filter_nil]
theorem filter_noI {α : Type} {f : α → Bool} {l : List α} {j : Nat} (hj : j < l.length) (h : f l[j] = false) : (l.take (j + 1)).filter f = (l.take j).filter f := by
  rw [List.take_succ_eq_append_getElem hj, List.filter_append, List.filter_cons_of_neg (by rw [h]; exact Bool.false_ne_true), List.filter_nil, List.append_nil]
theorem filter_lenI {α : Type} (f : α → Bool) (l : List α) (j : Nat) : ((l.take j).filter f).length ≤ l.length := Nat.le_trans (List.length_filter_le _ _) (by rw [List.length_take]; omega)
theorem box2_setI {w : World} {b : Nat} {e : TypeId} {a0 a1 : Value} (h : w.heap[b]? = some (.cells #[a0, a1] e (0, 0))) (v0 v1 : Value) :
    ((w.setCell ⟨b, 0, none⟩ v0).setCell ⟨b, 1, none⟩ v1).heap[b]? = some (.cells #[v0, v1] e (0, 0)) := by
  simp [World.setCell, Array.getElem?_modify, h]
theorem box2_farI {w : World} {b g : Nat} (hg : g ≠ b) (v0 v1 : Value) : ((w.setCell ⟨b, 0, none⟩ v0).setCell ⟨b, 1, none⟩ v1).heap[g]? = w.heap[g]? := by
  have hg' : b ≠ g := fun e => hg e.symm
  simp [World.setCell, Array.getElem?_modify, hg']
theorem lt_of_heap_own {w : World} {e : TypeId} {k lo g : Nat} {α : Type} {cs : α → List Value} {n c : Nat} {l : List α} (h : OwnG e k cs w lo (.slice (some ⟨g, 0, none⟩) n c) l) : g < w.heap.size := (h.lt g rfl).2
theorem grow_next {l : List Sp} {s : Sp} {j : Nat} (hj : j < l.length) : growS (l.take (j + 1)) s = if touchS l[j] (growS (l.take j) s) = true then coverS l[j] (growS (l.take j) s) else growS (l.take j) s := by
  unfold growS
  rw [List.take_succ_eq_append_getElem hj, List.foldl_append]
  rfl

set_option maxRecDepth 100000 in
set_option maxHeartbeats 8000000 in
theorem refPutI_any (l : List Sp) (A : Option Addr) (c hi : Nat) (s : Sp) (w : World) (hl : l.length ≤ 2097152) (hr : RowG spCells w 0 hi A l) (hhi : hi ≤ w.heap.size) :
    Calls Try.prog 50 #[.slice A l.length c, spVal s] w (RetI (putSp l s) w) := by
  obtain ⟨sl, sh⟩ := s
  unfold spVal
  simp only
  obtain ⟨w0, hw0⟩ : ∃ y, w.alloc (.cells #[.string (bs sl), .string (bs sh)] 58) = y := ⟨_, rfl⟩
  obtain ⟨w1, hw1⟩ : ∃ y, w0.alloc (.cells #[] 58) = y := ⟨_, rfl⟩
  have s0 : w0.heap.size = w.heap.size + 1 := by rw [← hw0]; simp
  have b0 : Below w.heap.size w w0 := by rw [← hw0]; exact (Below.refl _ w).alloc (Nat.le_refl _) _
  have b1 : Below w0.heap.size w0 w1 := by rw [← hw1]; exact (Below.refl _ w0).alloc (Nat.le_refl _) _
  have hx0 : w1.heap[w.heap.size]? = some (.cells #[.string (bs sl), .string (bs sh)] 58 (0, 0)) := by rw [← hw1]; exact heap_allocs (by rw [← hw0]; exact heap_alloc_new w _) _
  have ho1 : OwnG 58 2 spCells w1 w0.heap.size (.slice (some ⟨w0.heap.size, 0, none⟩) 0 0) ([] : List Sp) := by rw [← hw1]; exact OwnG.made w0 _ _ _
  have s1 : w1.heap.size = w.heap.size + 2 := by rw [← hw1]; simp [s0]
  have HR := Lib.hid hr
  have HX := Lib.hid hx0
  have HB1 := Lib.hid (b0.trans (b1.mono b0.size))
  have HO1 := Lib.hid ho1
  have HW0 := Lib.hid hw0
  have HW1 := Lib.hid hw1
  have HHi := Lib.hid hhi
  have HS0 := Lib.hid s0
  have HS1 := Lib.hid s1
  clear hr hw0 hw1 s0 s1 b0 b1 hx0 ho1 hhi
  go_enter Try.func50, Try.ntmps50
  go_upto_region 1 with fail
  rw [HW0.out]
  clear HW0
  go_upto_region 2 with fail
  rw [HW1.out]
  clear HW1
  go_wp2_with fail
  go_loopg [15] l.length (fun q i wr => ∃ j : Nat, j + q = l.length ∧ i = .int .i64 j ∧ wr.heap[w.heap.size]? = some (.cells #[.string (bs (growS (l.take j) ⟨sl, sh⟩).lo), .string (bs (growS (l.take j) ⟨sl, sh⟩).hi)] 58 (0, 0)) ∧ OwnG 58 2 spCells wr w0.heap.size (.slice (some ⟨w0.heap.size, 0, none⟩) 0 0) ([] : List Sp) ∧ Below w.heap.size w wr)
  case atStart => exact ⟨0, by omega, rfl, HX.out, HO1.out, HB1.out⟩
  case round =>
    obtain ⟨j, hk, rfl, hx, ho, hb⟩ := hrel
    have HK := Lib.hid hk
    have HB := Lib.hid hb
    have HO := Lib.hid ho
    have hsz : w0.heap.size ≤ wr.heap.size := Nat.le_of_lt (lt_of_heap_own ho)
    have hS1 := lt_of_heap hx
    have HX1 := Lib.hid hx
    clear hk hb ho hx
    by_cases hj : j < l.length
    · have hlt : decide ((j : Int) < (l.length : Int)) = true := by simpa using hj
      have hlt2 : decide (j < l.length) = true := by simpa using hj
      obtain ⟨b, o, rfl, _, hbh, hcell⟩ := (HR.out.below HB.out HHi.out).at_ spF hj
      have c0 := hcell 0 _ rfl
      have c1 := hcell 1 _ rfl
      simp only [Nat.add_zero] at c0
      have HN := Lib.hid (grow_next (s := ⟨sl, sh⟩) hj)
      have hx := HX1.out
      clear hcell hbh HX1
      generalize l[j] = x at *
      generalize growS (l.take j) ⟨sl, sh⟩ = S at *
      obtain ⟨xl, xh⟩ := x
      obtain ⟨Sl, Sh⟩ := S
      simp only at c0 c1 hx
      obtain ⟨wt, hwt⟩ : ∃ y, wr.alloc (.cells #[.string (bs xl), .string (bs xh)] 58) = y := ⟨_, rfl⟩
      have hbt : Below w.heap.size w wt := by rw [← hwt]; exact HB.out.alloc HB.out.size _
      have hxt : wt.heap[wr.heap.size]? = some (.cells #[.string (bs xl), .string (bs xh)] 58 (0, 0)) := by rw [← hwt]; exact heap_alloc_new wr _
      have hst : wt.heap[w.heap.size]? = some (.cells #[.string (bs Sl), .string (bs Sh)] 58 (0, 0)) := by rw [← hwt]; exact heap_allocs hx _
      have hot : OwnG 58 2 spCells wt w0.heap.size (.slice (some ⟨w0.heap.size, 0, none⟩) 0 0) ([] : List Sp) := by rw [← hwt]; exact HO.out.allocs _
      have HCl := Lib.hid (fun (W : World) (h : Below wt.heap.size wt W) => And.intro (cell_of_row W wr.heap.size 0 _ _ _ (heap_below hxt h (lt_of_heap hxt))) (And.intro (cell_of_row W wr.heap.size 1 _ _ _ (heap_below hxt h (lt_of_heap hxt))) (And.intro (cell_of_row W w.heap.size 0 _ _ _ (heap_below hst h (lt_of_heap hst))) (And.intro (cell_of_row W w.heap.size 1 _ _ _ (heap_below hst h (lt_of_heap hst))) (And.intro (frozen_of (heap_below hst h (lt_of_heap hst)) 0) (frozen_of (heap_below hst h (lt_of_heap hst)) 1))))))
      have HSt := Lib.hid (fun (W : World) (h : Below wt.heap.size wt W) => heap_below hst h (lt_of_heap hst))
      have HOt := Lib.hid (fun (W : World) (h : Below wt.heap.size wt W) => hot.below h)
      have HBt := Lib.hid hbt
      have HWt := Lib.hid hwt
      have HC1 := Lib.hid (refTouchI_any ⟨xl, xh⟩ ⟨Sl, Sh⟩)
      have HC2 := Lib.hid (refCoverI_any ⟨xl, xh⟩ ⟨Sl, Sh⟩)
      unfold spVal at HC1 HC2
      simp only at HC1
      clear hbt hxt hst hot hwt hx hsz hS1 HO
      go_upto_region 5 with fail
      rw [HWt.out]
      clear HWt c0 c1
      obtain ⟨z0, z1, z2, z3, _, _⟩ := HCl.out wt (Below.refl _ _)
      cases hq : touchS ⟨xl, xh⟩ ⟨Sl, Sh⟩ with
      | false =>
        rw [hq] at HC1 HN
        rw [if_neg Bool.false_ne_true] at HN
        clear hq HC2
        go_wp2_with fail
        refine (HC1.out wt).mono ?_
        rintro r w2 ⟨rfl, hb2⟩
        have HB2 := Lib.hid hb2
        clear hb2 z0 z1 z2 z3
        go_wp2_with fail
        go_roundg (gk - 1)
        case measure => have := HK.out; omega
        case rel => exact ⟨j + 1, by have := HK.out; omega, by go_num, by rw [HN.out]; exact HSt.out _ HB2.out, HOt.out _ HB2.out, HBt.out.trans (HB2.out.mono HBt.out.size)⟩
      | true =>
        rw [hq] at HC1 HN
        rw [if_pos rfl] at HN
        clear hq
        go_wp2_with fail
        refine (HC1.out wt).mono ?_
        rintro r w2 ⟨rfl, hb2⟩
        have HB2 := Lib.hid hb2
        clear z0 z1 z2 z3
        obtain ⟨z0, z1, z2, z3, _, _⟩ := HCl.out w2 hb2
        clear hb2
        generalize coverS ⟨xl, xh⟩ ⟨Sl, Sh⟩ = C at *
        obtain ⟨Cl, Ch⟩ := C
        simp only at HC2 HC1
        go_wp2_with fail
        refine (HC2.out w2).mono ?_
        rintro r w3 ⟨rfl, hb3⟩
        have HB3 := Lib.hid (HB2.out.trans (hb3.mono HB2.out.size))
        clear z0 z1 z2 z3 hb3
        obtain ⟨z0, z1, z2, z3, z4, z5⟩ := HCl.out w3 HB3.out
        go_wp2_with fail
        go_roundg (gk - 1)
        case measure => have := HK.out; omega
        case rel =>
          refine ⟨j + 1, by have := HK.out; omega, by go_num, by rw [HN.out]; exact box2_setI (HSt.out _ HB3.out) _ _, ?_, ((HBt.out.trans (HB3.out.mono HBt.out.size)).setCell (Nat.le_refl _) _).setCell (Nat.le_refl _) _⟩
          refine (HOt.out _ HB3.out).keep (fun g hg _ => box2_farI (fun e => ?_) _ _) (Nat.le_refl _)
          have := ((HOt.out _ HB3.out).lt g hg).1
          have := HS0.out
          omega
    · have hj' : j = l.length := by have := HK.out; omega
      subst hj'
      have hlt : decide ((l.length : Int) < (l.length : Int)) = false := by simp
      have hlt2 : decide (l.length < l.length) = false := by simp
      have hx := HX1.out
      rw [List.take_length] at hx
      clear HX1 hj hsz hS1 HO1 HX HB1
      have hP : putSp l ⟨sl, sh⟩ = l.filter (fun x => !touchS x (growS l ⟨sl, sh⟩) && blt x.lo (growS l ⟨sl, sh⟩).lo) ++ growS l ⟨sl, sh⟩ :: l.filter (fun x => !touchS x (growS l ⟨sl, sh⟩) && blt (growS l ⟨sl, sh⟩).lo x.lo) := rfl
      generalize growS l ⟨sl, sh⟩ = S at *
      obtain ⟨Sl, Sh⟩ := S
      simp only at hx hP
      have HP := Lib.hid hP
      clear hP
      have HX2 := Lib.hid hx
      have HO2 := HO
      have HB2 := HB
      clear hx HO HB
      go_wp2_with fail
      go_loopg [5, 28] l.length (fun q vo i wr => ∃ j : Nat, j + q = l.length ∧ i = .int .i64 j ∧ OwnG 58 2 spCells wr w0.heap.size vo ((l.take j).filter (fun x : Sp => !touchS x ⟨Sl, Sh⟩ && blt x.lo Sl)) ∧ wr.heap[w.heap.size]? = some (.cells #[.string (bs Sl), .string (bs Sh)] 58 (0, 0)) ∧ Below w.heap.size w wr)
      case atStart => exact ⟨0, by omega, rfl, HO2.out, HX2.out, HB2.out⟩
      case round =>
        obtain ⟨j, hk, rfl, ho, hx, hb⟩ := hrel
        have HK := Lib.hid hk
        have HB := Lib.hid hb
        have HO := Lib.hid ho
        have HX1 := Lib.hid hx
        clear hk hb ho hx
        by_cases hj : j < l.length
        · have hlt : decide ((j : Int) < (l.length : Int)) = true := by simpa using hj
          have hlt2 : decide (j < l.length) = true := by simpa using hj
          obtain ⟨b, o, rfl, _, hbh, hcell⟩ := (HR.out.below HB.out HHi.out).at_ spF hj
          have c0 := hcell 0 _ rfl
          have c1 := hcell 1 _ rfl
          simp only [Nat.add_zero] at c0
          have HYes := Lib.hid (filter_yesI (f := fun x : Sp => !touchS x ⟨Sl, Sh⟩ && blt x.lo Sl) hj)
          have HNo := Lib.hid (filter_noI (f := fun x : Sp => !touchS x ⟨Sl, Sh⟩ && blt x.lo Sl) hj)
          have HLn := Lib.hid (filter_lenI (fun x : Sp => !touchS x ⟨Sl, Sh⟩ && blt x.lo Sl) l j)
          have hx := HX1.out
          have HSZ := Lib.hid HB.out.size
          clear hcell hbh HX1
          generalize l[j] = x at *
          obtain ⟨xl, xh⟩ := x
          simp only at c0 c1 HYes HNo
          obtain ⟨wt, hwt⟩ : ∃ y, wr.alloc (.cells #[.string (bs xl), .string (bs xh)] 58) = y := ⟨_, rfl⟩
          have hbt : Below w.heap.size w wt := by rw [← hwt]; exact HB.out.alloc HB.out.size _
          have hxt : wt.heap[wr.heap.size]? = some (.cells #[.string (bs xl), .string (bs xh)] 58 (0, 0)) := by rw [← hwt]; exact heap_alloc_new wr _
          have hst : wt.heap[w.heap.size]? = some (.cells #[.string (bs Sl), .string (bs Sh)] 58 (0, 0)) := by rw [← hwt]; exact heap_allocs hx _
          have hot := HO.out.allocs (.cells #[.string (bs xl), .string (bs xh)] 58)
          rw [hwt] at hot
          have hwz : w0.heap.size ≤ wt.heap.size := by
            have h1 := HSZ.out
            have h2 := HS0.out
            have h3 := lt_of_heap hx
            rw [← hwt]; simp; omega
          have HCl := Lib.hid (fun (W : World) (h : Below wt.heap.size wt W) => And.intro (cell_of_row W wr.heap.size 0 _ _ _ (heap_below hxt h (lt_of_heap hxt))) (And.intro (cell_of_row W wr.heap.size 1 _ _ _ (heap_below hxt h (lt_of_heap hxt))) (And.intro (cell_of_row W w.heap.size 0 _ _ _ (heap_below hst h (lt_of_heap hst))) (cell_of_row W w.heap.size 1 _ _ _ (heap_below hst h (lt_of_heap hst))))))
          have HSt := Lib.hid (fun (W : World) (h : Below wt.heap.size wt W) => heap_below hst h (lt_of_heap hst))
          have HOt := Lib.hid (fun (W : World) (h : Below wt.heap.size wt W) => hot.below h)
          have HBt := Lib.hid (fun (W : World) (h : Below wt.heap.size wt W) => hbt.trans (h.mono hbt.size))
          have HWz := Lib.hid hwz
          have HWt := Lib.hid hwt
          have HC1 := Lib.hid (refTouchI_any ⟨xl, xh⟩ ⟨Sl, Sh⟩)
          unfold spVal at HC1
          simp only at HC1
          clear hbt hxt hst hot hwt hx HO hwz
          go_upto_region 11 with fail
          rw [HWt.out]
          clear HWt c0 c1
          obtain ⟨z0, z1, z2, z3⟩ := HCl.out wt (Below.refl _ _)
          cases hq : touchS ⟨xl, xh⟩ ⟨Sl, Sh⟩ with
          | true =>
            rw [hq] at HC1
            have HTk := Lib.hid (HNo.out (by simp [hq]))
            clear hq HYes HNo
            go_wp2_with fail
            refine (HC1.out wt).mono ?_
            rintro r w2 ⟨rfl, hb2⟩
            have HB2 := Lib.hid hb2
            clear hb2 z0 z1 z2 z3
            go_wp2_with fail
            go_roundg (gk - 1)
            case measure => have := HK.out; omega
            case rel => exact ⟨j + 1, by have := HK.out; omega, by go_num, by rw [HTk.out]; exact HOt.out _ HB2.out, HSt.out _ HB2.out, HBt.out _ HB2.out⟩
          | false =>
            rw [hq] at HC1
            cases hp : blt xl Sl with
            | true =>
              have q := sp_less xl Sl
              rw [hp] at q
              have HTk := Lib.hid (HYes.out (by simp [hq, hp]))
              clear hq hp HYes HNo
              go_wp2_with fail
              refine (HC1.out wt).mono ?_
              rintro r w2 ⟨rfl, hb2⟩
              have HB2 := Lib.hid hb2
              clear z0 z1 z2 z3
              obtain ⟨z0, z1, z2, z3⟩ := HCl.out w2 hb2
              have HWz2 := Lib.hid (Nat.le_trans HWz.out hb2.size)
              clear hb2
              go_wp2_with (at_builtin; refine append_row _ rfl _ _ 27 58 32 spF spInfo Try.underlying27 rfl w0.heap.size _ ((l.take j).filter (fun x : Sp => !touchS x ⟨Sl, Sh⟩ && blt x.lo Sl)) rfl ((HOt.out _ HB2.out).allocs _) w2.heap.size (w2.heap.size + 1) (some ⟨w2.heap.size, 0, none⟩) 1 1 [⟨xl, xh⟩] rfl rfl (fun e => by cases e) (RowG.one (cs := spCells) (heap_alloc_new w2 _)) (by have e8 := HLn.out; simp only [List.length_singleton, List.length_append]; unfold maxLen; omega) (by have e8 := HLn.out; simp only [List.length_singleton, List.length_append]; omega) (by have := HWz2.out; simp; omega) ?_; intro v1 w5 ho5 hg5; have HO5 := Lib.hid ho5; have HB5 := Lib.hid (OwnG.grown_below ((HBt.out _ HB2.out).alloc (HBt.out _ HB2.out).size (.cells #[.string (bs xl), .string (bs xh)] 58)) ((HOt.out _ HB2.out).allocs _) hg5 (by have := HS0.out; omega) (by have := (HBt.out _ HB2.out).size; simp; omega)); have HX5 := Lib.hid (show w5.heap[w.heap.size]? = some (.cells #[.string (bs Sl), .string (bs Sh)] 58 (0, 0)) from (hg5.block _ (lt_of_heap (heap_allocs (HSt.out _ HB2.out) _)) (fun e => by have := ((HOt.out _ HB2.out).lt _ e.symm).1; have := HS0.out; omega)).trans (heap_allocs (HSt.out _ HB2.out) _)); clear ho5 hg5)
              go_roundg (gk - 1)
              case measure => have := HK.out; omega
              case rel => exact ⟨j + 1, by have := HK.out; omega, by go_num, by rw [HTk.out]; exact HO5.out, HX5.out, HB5.out⟩
            | false =>
              have q := sp_less xl Sl
              rw [hp] at q
              have HTk := Lib.hid (HNo.out (by simp [hp]))
              clear hq hp HYes HNo
              go_wp2_with fail
              refine (HC1.out wt).mono ?_
              rintro r w2 ⟨rfl, hb2⟩
              have HB2 := Lib.hid hb2
              clear z0 z1 z2 z3
              obtain ⟨z0, z1, z2, z3⟩ := HCl.out w2 hb2
              clear hb2
              go_wp2_with fail
              go_roundg (gk - 1)
              case measure => have := HK.out; omega
              case rel => exact ⟨j + 1, by have := HK.out; omega, by go_num, by rw [HTk.out]; exact HOt.out _ HB2.out, HSt.out _ HB2.out, HBt.out _ HB2.out⟩
        · have hj' : j = l.length := by have := HK.out; omega
          subst hj'
          have hlt : decide ((l.length : Int) < (l.length : Int)) = false := by simp
          have hlt2 : decide (l.length < l.length) = false := by simp
          have hx := HX1.out
          rw [List.take_length] at HO
          clear HX1 hj
          have hLn := filter_lenI (fun x : Sp => !touchS x ⟨Sl, Sh⟩ && blt x.lo Sl) l l.length
          rw [List.take_length] at hLn
          have e0 := cell_of_row _ _ 0 _ _ _ hx
          have e1 := cell_of_row _ _ 1 _ _ _ hx
          have hwz : w0.heap.size ≤ wr.heap.size := by
            have h2 := HS0.out
            have h3 := lt_of_heap hx
            omega
          have HWz := Lib.hid hwz
          have HX9 := Lib.hid hx
          have HLn := Lib.hid hLn
          clear hx hwz hLn
          generalize hF : l.filter (fun x : Sp => !touchS x ⟨Sl, Sh⟩ && blt x.lo Sl) = F at *
          go_wp2_with (at_builtin; refine append_row _ rfl _ _ 27 58 32 spF spInfo Try.underlying27 rfl w0.heap.size _ F rfl (HO.out.allocs _) wr.heap.size (wr.heap.size + 1) (some ⟨wr.heap.size, 0, none⟩) 1 1 [⟨Sl, Sh⟩] rfl rfl (fun e => by cases e) (RowG.one (cs := spCells) (heap_alloc_new wr _)) (by have e8 := HLn.out; simp only [List.length_singleton]; unfold maxLen; omega) (by have e8 := HLn.out; simp only [List.length_singleton]; omega) (by have := HWz.out; simp; omega) ?_; intro v1 w5 ho5 hg5; have HO5 := Lib.hid ho5; have HB5 := Lib.hid (OwnG.grown_below (HB.out.alloc HB.out.size (.cells #[.string (bs Sl), .string (bs Sh)] 58)) (HO.out.allocs _) hg5 (by have := HS0.out; omega) (by have := HB.out.size; simp; omega)); have HX5 := Lib.hid (show w5.heap[w.heap.size]? = some (.cells #[.string (bs Sl), .string (bs Sh)] 58 (0, 0)) from (hg5.block _ (lt_of_heap (heap_allocs HX9.out _)) (fun e => by have := (HO.out.lt _ e.symm).1; have := HS0.out; omega)).trans (heap_allocs HX9.out _)); clear ho5 hg5)
          have HLF := Lib.hid (show F.length ≤ l.length by have := HLn.out; omega)
          have HFe := Lib.hid hF
          clear hF e0 e1 HO HB HX9
          go_loopg [5, 54] l.length (fun q vo i wr => ∃ j : Nat, j + q = l.length ∧ i = .int .i64 j ∧ OwnG 58 2 spCells wr w0.heap.size vo ((F ++ [(⟨Sl, Sh⟩ : Sp)]) ++ (l.take j).filter (fun x : Sp => !touchS x ⟨Sl, Sh⟩ && blt Sl x.lo)) ∧ wr.heap[w.heap.size]? = some (.cells #[.string (bs Sl), .string (bs Sh)] 58 (0, 0)) ∧ Below w.heap.size w wr)
          case atStart => exact ⟨0, by omega, rfl, by rw [List.take_zero, List.filter_nil, List.append_nil]; exact HO5.out, HX5.out, HB5.out⟩
          case round =>
            obtain ⟨j, hk, rfl, ho, hx, hb⟩ := hrel
            have HK := Lib.hid hk
            have HB := Lib.hid hb
            have HO := Lib.hid ho
            have HX1 := Lib.hid hx
            clear hk hb ho hx
            by_cases hj : j < l.length
            · have hlt : decide ((j : Int) < (l.length : Int)) = true := by simpa using hj
              have hlt2 : decide (j < l.length) = true := by simpa using hj
              obtain ⟨b, o, rfl, _, hbh, hcell⟩ := (HR.out.below HB.out HHi.out).at_ spF hj
              have c0 := hcell 0 _ rfl
              have c1 := hcell 1 _ rfl
              simp only [Nat.add_zero] at c0
              have HYes := Lib.hid (filter_yesI (f := fun x : Sp => !touchS x ⟨Sl, Sh⟩ && blt Sl x.lo) hj)
              have HNo := Lib.hid (filter_noI (f := fun x : Sp => !touchS x ⟨Sl, Sh⟩ && blt Sl x.lo) hj)
              have HLn := Lib.hid (filter_lenI (fun x : Sp => !touchS x ⟨Sl, Sh⟩ && blt Sl x.lo) l j)
              have hx := HX1.out
              have HSZ := Lib.hid HB.out.size
              clear hcell hbh HX1
              generalize l[j] = x at *
              obtain ⟨xl, xh⟩ := x
              simp only at c0 c1 HYes HNo
              obtain ⟨wt, hwt⟩ : ∃ y, wr.alloc (.cells #[.string (bs xl), .string (bs xh)] 58) = y := ⟨_, rfl⟩
              have hbt : Below w.heap.size w wt := by rw [← hwt]; exact HB.out.alloc HB.out.size _
              have hxt : wt.heap[wr.heap.size]? = some (.cells #[.string (bs xl), .string (bs xh)] 58 (0, 0)) := by rw [← hwt]; exact heap_alloc_new wr _
              have hst : wt.heap[w.heap.size]? = some (.cells #[.string (bs Sl), .string (bs Sh)] 58 (0, 0)) := by rw [← hwt]; exact heap_allocs hx _
              have hot := HO.out.allocs (.cells #[.string (bs xl), .string (bs xh)] 58)
              rw [hwt] at hot
              have hwz : w0.heap.size ≤ wt.heap.size := by
                have h1 := HSZ.out
                have h2 := HS0.out
                have h3 := lt_of_heap hx
                rw [← hwt]; simp; omega
              have HCl := Lib.hid (fun (W : World) (h : Below wt.heap.size wt W) => And.intro (cell_of_row W wr.heap.size 0 _ _ _ (heap_below hxt h (lt_of_heap hxt))) (And.intro (cell_of_row W wr.heap.size 1 _ _ _ (heap_below hxt h (lt_of_heap hxt))) (And.intro (cell_of_row W w.heap.size 0 _ _ _ (heap_below hst h (lt_of_heap hst))) (cell_of_row W w.heap.size 1 _ _ _ (heap_below hst h (lt_of_heap hst))))))
              have HSt := Lib.hid (fun (W : World) (h : Below wt.heap.size wt W) => heap_below hst h (lt_of_heap hst))
              have HOt := Lib.hid (fun (W : World) (h : Below wt.heap.size wt W) => hot.below h)
              have HBt := Lib.hid (fun (W : World) (h : Below wt.heap.size wt W) => hbt.trans (h.mono hbt.size))
              have HWz := Lib.hid hwz
              have HWt := Lib.hid hwt
              have HC1 := Lib.hid (refTouchI_any ⟨xl, xh⟩ ⟨Sl, Sh⟩)
              unfold spVal at HC1
              simp only at HC1
              clear hbt hxt hst hot hwt hx HO hwz
              go_upto_region 18 with fail
              rw [HWt.out]
              clear HWt c0 c1
              obtain ⟨z0, z1, z2, z3⟩ := HCl.out wt (Below.refl _ _)
              cases hq : touchS ⟨xl, xh⟩ ⟨Sl, Sh⟩ with
              | true =>
                rw [hq] at HC1
                have HTk := Lib.hid (HNo.out (by simp [hq]))
                clear hq HYes HNo
                go_wp2_with fail
                refine (HC1.out wt).mono ?_
                rintro r w2 ⟨rfl, hb2⟩
                have HB2 := Lib.hid hb2
                clear hb2 z0 z1 z2 z3
                go_wp2_with fail
                go_roundg (gk - 1)
                case measure => have := HK.out; omega
                case rel => exact ⟨j + 1, by have := HK.out; omega, by go_num, by rw [HTk.out]; exact HOt.out _ HB2.out, HSt.out _ HB2.out, HBt.out _ HB2.out⟩
              | false =>
                rw [hq] at HC1
                cases hp : blt Sl xl with
                | true =>
                  have q := sp_gtr xl Sl
                  rw [hp] at q
                  have HTk := Lib.hid (HYes.out (by simp [hq, hp]))
                  clear hq hp HYes HNo
                  go_wp2_with fail
                  refine (HC1.out wt).mono ?_
                  rintro r w2 ⟨rfl, hb2⟩
                  have HB2 := Lib.hid hb2
                  clear z0 z1 z2 z3
                  obtain ⟨z0, z1, z2, z3⟩ := HCl.out w2 hb2
                  have HWz2 := Lib.hid (Nat.le_trans HWz.out hb2.size)
                  clear hb2
                  go_wp2_with (at_builtin; refine append_row _ rfl _ _ 27 58 32 spF spInfo Try.underlying27 rfl w0.heap.size _ ((F ++ [(⟨Sl, Sh⟩ : Sp)]) ++ (l.take j).filter (fun x : Sp => !touchS x ⟨Sl, Sh⟩ && blt Sl x.lo)) rfl ((HOt.out _ HB2.out).allocs _) w2.heap.size (w2.heap.size + 1) (some ⟨w2.heap.size, 0, none⟩) 1 1 [⟨xl, xh⟩] rfl rfl (fun e => by cases e) (RowG.one (cs := spCells) (heap_alloc_new w2 _)) (by have e8 := HLn.out; simp only [List.length_singleton, List.length_append]; have e9 := HLF.out; unfold maxLen; omega) (by have e8 := HLn.out; simp only [List.length_singleton, List.length_append]; have e9 := HLF.out; omega) (by have := HWz2.out; simp; omega) ?_; intro v1 w5 ho5 hg5; have HO5 := Lib.hid ho5; have HB5 := Lib.hid (OwnG.grown_below ((HBt.out _ HB2.out).alloc (HBt.out _ HB2.out).size (.cells #[.string (bs xl), .string (bs xh)] 58)) ((HOt.out _ HB2.out).allocs _) hg5 (by have := HS0.out; omega) (by have := (HBt.out _ HB2.out).size; simp; omega)); have HX5 := Lib.hid (show w5.heap[w.heap.size]? = some (.cells #[.string (bs Sl), .string (bs Sh)] 58 (0, 0)) from (hg5.block _ (lt_of_heap (heap_allocs (HSt.out _ HB2.out) _)) (fun e => by have := ((HOt.out _ HB2.out).lt _ e.symm).1; have := HS0.out; omega)).trans (heap_allocs (HSt.out _ HB2.out) _)); clear ho5 hg5)
                  go_roundg (gk - 1)
                  case measure => have := HK.out; omega
                  case rel => exact ⟨j + 1, by have := HK.out; omega, by go_num, by rw [HTk.out, ← List.append_assoc]; exact HO5.out, HX5.out, HB5.out⟩
                | false =>
                  have q := sp_gtr xl Sl
                  rw [hp] at q
                  have HTk := Lib.hid (HNo.out (by simp [hp]))
                  clear hq hp HYes HNo
                  go_wp2_with fail
                  refine (HC1.out wt).mono ?_
                  rintro r w2 ⟨rfl, hb2⟩
                  have HB2 := Lib.hid hb2
                  clear z0 z1 z2 z3
                  obtain ⟨z0, z1, z2, z3⟩ := HCl.out w2 hb2
                  clear hb2
                  go_wp2_with fail
                  go_roundg (gk - 1)
                  case measure => have := HK.out; omega
                  case rel => exact ⟨j + 1, by have := HK.out; omega, by go_num, by rw [HTk.out]; exact HOt.out _ HB2.out, HSt.out _ HB2.out, HBt.out _ HB2.out⟩
            · have hj' : j = l.length := by have := HK.out; omega
              subst hj'
              have hlt : decide ((l.length : Int) < (l.length : Int)) = false := by simp
              have hlt2 : decide (l.length < l.length) = false := by simp
              have hx := HX1.out
              rw [List.take_length] at HO
              clear HX1 hj
              have HF3 := Lib.hid (OwnG.chI HO.out)
              clear HO
              obtain ⟨A9, c9, rfl, hc9⟩ := HF3.out
              have HC9 := Lib.hid hc9
              clear hc9 HF3 hx
              go_wp2_with fail
              go_ret
              exact ⟨A9, c9, by rw [HP.out, List.append_assoc, List.singleton_append]; rfl, by have h := HC9.out; rw [List.append_assoc, List.singleton_append] at h; rw [HP.out]; exact h, HB.out⟩
end Go.Proofs.Ytjkmodfbbiojmaa
