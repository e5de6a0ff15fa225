import Derived.Test.YtfdiidhilonkoaaZC19
import Derived.Laws.Cover1
import Derived.Test.YtfdiidhilonkoaaZC25
import Derived.Test.YtfdiidhilonkoaaZC35
set_option linter.unusedVariables false
/-
  Stretches: the stretch of a key alone, the document's and the program's.
-/
namespace Go.Proofs.Ytfdiidhilonkoaa
open Go.RowKit

theorem bs_zero (k : List UInt8) : bs k ++ (⟨#[0]⟩ : ByteArray) = bs (k ++ [0]) := by
  apply ByteArray.ext
  simp [bs]
set_option maxRecDepth 100000 in
set_option maxHeartbeats 2000000 in
theorem refPointI_any (k : List UInt8) (w : World) (hk : k.length ≤ 1000000) : Calls Try.prog 27 #[.string (bs k)] w fun r w' => r = .returned (spVal ⟨k, k ++ [0]⟩) ∧ Below w.heap.size w w' := by
  have hz : (bs k).size = k.length := bs_size k
  have hq := bs_zero k
  unfold spVal
  simp only
  generalize bs (k ++ [0]) = K at *
  have HQ := Lib.hid hq
  clear hq
  go_enter Try.func27, Try.ntmps27
  go_wp2
  rw [HQ.out]
  exact bodyPost_ret (v := .agg #[.string (bs k), .string K]) (by simp [results, Try.results27, go_sem]) rfl ⟨rfl, (Below.refl _ w).alloc (Nat.le_refl _) _⟩
end Go.Proofs.Ytfdiidhilonkoaa

/-
  The chapter's examples on stretches.
-/
namespace Go.Proofs.Ytfdiidhilonkoaa
open Go.RowKit

theorem live_add : joinSp ([⟨[98], [100]⟩] ++ [⟨[99], [102]⟩]) = [⟨[98], [102]⟩] := by decide
theorem live_join : joinSp [⟨[97], [97] ++ [0]⟩, ⟨[99], [99] ++ [0]⟩, ⟨[101], [101] ++ [0]⟩] = [⟨[97], [97, 0]⟩, ⟨[99], [99, 0]⟩, ⟨[101], [101, 0]⟩] := by decide
theorem live_fit : fitI 2 (joinSp [⟨[97], [97] ++ [0]⟩, ⟨[99], [99] ++ [0]⟩, ⟨[101], [101] ++ [0]⟩]) = [⟨[97], [99, 0]⟩, ⟨[101], [101, 0]⟩] := by
  rw [live_join, fitI_step (by decide), fitI_few (by decide)]
end Go.Proofs.Ytfdiidhilonkoaa

/-
  Stretches: the contracts in the forms that the walks of the statements ask.
-/
namespace Go.Proofs.Ytfdiidhilonkoaa
open Go.RowKit

section
variable {w : World} {l m : List Sp} {A B : Option Addr} {c d : Nat}
theorem few_bnd {l : List Sp} (h : okI l) : l.length ≤ 9223372036854775807 := by unfold okI at h; omega
theorem ChI.len (h : ChI w w.heap.size A c l) : l.length ≤ 9223372036854775807 := by have := h.1; have := h.2.1; unfold maxLen at this; omega
theorem fewYes (f : fewI l = true) (h : ChI w w.heap.size A c l) : Calls Try.prog 18 #[.slice A l.length c] w fun r w' => r = .returned (.bool true) ∧ Below w.heap.size w w' := by
  have := fewI_any l A c w h.len h.2.2.2
  rwa [f] at this
theorem fewNo (f : fewI l = false) (h : ChI w w.heap.size A c l) : Calls Try.prog 18 #[.slice A l.length c] w fun r w' => r = .returned (.bool false) ∧ Below w.heap.size w w' := by
  have := fewI_any l A c w h.len h.2.2.2
  rwa [f] at this
end
theorem okI_join {a b : List Sp} (h : a.length + b.length ≤ 1000) : okI (joinSp (a ++ b)) := by
  have := join_len (a ++ b)
  rw [List.length_append] at this
  unfold okI
  omega
theorem okI_join1 {a : List Sp} (h : okI a) : okI (joinSp a) := by
  have := join_len a
  unfold okI at *
  omega
theorem fit_le {n : Int} (l : List Sp) : (fitI n l).length ≤ fitN n := by
  have h := fit_len (fitN n) l.length l (Nat.le_refl _)
  have := fitN_pos n
  unfold fitI
  omega
theorem fit_shrinks {n : Int} (l : List Sp) : (fitI n l).length ≤ l.length := by
  by_cases h : l.length ≤ fitN n
  · rw [fitI_few h]
    exact Nat.le_refl _
  · have := fit_le (n := n) l
    omega
theorem okI_fit {n : Int} {l : List Sp} (h : okI l) : okI (fitI n l) := by
  have := fit_shrinks (n := n) l
  unfold okI at *
  omega
theorem fitI_norm {n : Int} {l : List Sp} (h : normS l) : normS (fitI n l) := (fit_norm _ _ l (Nat.le_refl _) h).1
theorem fitI_in {n : Int} {l : List Sp} (h : normS l) {k : List UInt8} (hk : inP l k = true) : inP (fitI n l) k = true := (fit_norm _ _ l (Nat.le_refl _) h).2 k hk
/-- Two stretches in a block that the call has made. -/
theorem chI_two {w : World} {g : Nat} {a b : Sp} (h : w.heap[g]? = some (.cells #[.string (bs a.lo), .string (bs a.hi), .string (bs b.lo), .string (bs b.hi)] 52 (0, 0))) : ChI w w.heap.size (some ⟨g, 0, none⟩) 2 [a, b] :=
  ⟨Nat.le_refl _, by simp [maxLen], (fun e => by cases e), (RowG.block h (fun j u hu => by simpa [flatG, spCells] using hu)).wide (Nat.zero_le _) (lt_of_heap h)⟩
theorem chI_one {w : World} {g : Nat} {a : Sp} (h : w.heap[g]? = some (.cells #[.string (bs a.lo), .string (bs a.hi)] 52 (0, 0))) : ChI w w.heap.size (some ⟨g, 0, none⟩) 1 [a] :=
  ⟨Nat.le_refl _, by simp [maxLen], (fun e => by cases e), (RowG.one (cs := spCells) h).wide (Nat.zero_le _) (lt_of_heap h)⟩
theorem box_at {w W : World} {b : Nat} {x y : Value} {e : TypeId} (h : w.heap[b]? = some (.cells #[x, y] e (0, 0))) (hb : Below w.heap.size w W) : W.heap[b]? = some (.cells #[x, y] e (0, 0)) := heap_below h hb (lt_of_heap h)
theorem box_read {w : World} {b : Nat} {x y : Value} {e : TypeId} (h : w.heap[b]? = some (.cells #[x, y] e (0, 0))) : w.cell? ⟨b, 0, none⟩ = some x ∧ w.cell? ⟨b, 1, none⟩ = some y := ⟨cell_of_row _ _ 0 _ _ _ h, cell_of_row _ _ 1 _ _ _ h⟩
end Go.Proofs.Ytfdiidhilonkoaa

/-
  The statements on orders: what they share: the chapter's example, few.
-/
namespace Go.Proofs.Ytfdiidhilonkoaa
open Go.RowKit

/-! ### few -/
def fewZ1 (x : MZ) : Bool := fewI x.d.reads && fewI x.d.writes && decide (x.d.reads.length + x.d.writes.length ≤ 20)
def fewZ (ms : List MZ) : Bool := ms.all fewZ1 && decide (ms.length ≤ 25)
theorem fewZ_yes {ms : List MZ} (h : fewZ ms = true) : (∀ x ∈ ms, fewMZ x) ∧ ms.length ≤ 25 := by
  unfold fewZ at h
  rw [Bool.and_eq_true, List.all_eq_true, decide_eq_true_iff] at h
  refine ⟨fun x hx => ?_, h.2⟩
  have := h.1 x hx
  unfold fewZ1 at this
  rw [Bool.and_eq_true, Bool.and_eq_true, decide_eq_true_iff] at this
  unfold fewMZ
  omega
set_option maxRecDepth 100000 in
set_option maxHeartbeats 8000000 in
theorem fewZ_any (ms : List MZ) (A : Option Addr) (c : Nat) (w : World) (hl : ms.length ≤ 9223372036854775807) (hr : ChZ w w.heap.size A c ms) :
    Calls Try.prog 8 #[.slice A ms.length c] w fun r w' => r = .returned (.bool (fewZ ms)) ∧ Below w.heap.size w w' := by
  have HR := Lib.hid hr
  clear hr
  go_enter Try.func8, Try.ntmps8
  go_wp2
  go_loopg [7] ms.length (fun q iv wr => ∃ j : Nat, j + q = ms.length ∧ iv = .int .i64 (j : Nat) ∧ (ms.take j).all fewZ1 = true ∧ Below w.heap.size w wr)
  case atStart => exact ⟨0, by omega, rfl, rfl, Below.refl _ _⟩
  case round =>
    obtain ⟨j, hj, rfl, hall, hb⟩ := hrel
    obtain ⟨wo, hwo⟩ : ∃ y, y = wr := ⟨_, rfl⟩
    subst hwo
    have HJ := Lib.hid hj
    have HA := Lib.hid hall
    have HB := Lib.hid hb
    clear hj hall hb
    by_cases hjn : j < ms.length
    · have hlt : decide ((j : Int) < (ms.length : Int)) = true := by simpa using hjn
      have hlt2 : decide (j < ms.length) = true := by simpa using hjn
      have q7 : (j : Int) < (ms.length : Int) := by omega
      have hch := HR.out.below HB.out (Nat.le_refl _) HB.out.size
      obtain ⟨b, o, rfl, hbl, hs, _⟩ := hch.elem2 hjn hjn
      have hok := hch.2.2.2.2 _ (List.getElem_mem hjn)
      have HT := Lib.hid (show (ms.take (j + 1)).all fewZ1 = ((ms.take j).all fewZ1 && fewZ1 (ms[j]'hjn)) by rw [List.take_succ_eq_append_getElem hjn, List.all_append]; simp)
      have HNo := Lib.hid (fun h : fewZ1 (ms[j]'hjn) = false => (show fewZ ms = false by
        cases hf : fewZ ms
        · rfl
        · unfold fewZ at hf
          rw [Bool.and_eq_true, List.all_eq_true] at hf
          rw [hf.1 _ (List.getElem_mem hjn)] at h
          cases h))
      obtain ⟨z0, z1, z2, z3, z4, z5, z6⟩ := hs.all
      clear hs hch hbl
      generalize ms[j]'hjn = x at *
      clear hjn
      obtain ⟨⟨xi, xb, xa, xs, xe, xr, xw⟩, xA, xc, xB, xd⟩ := x
      unfold OkMZ at hok
      simp only at z0 z1 z2 z3 z4 z5 z6 hok
      obtain ⟨wt, hwt⟩ : ∃ y, wo.alloc (.cells #[.int .i64 xi, .int .u64 xb, .int .u64 xa, .int .i64 xs, .int .i64 xe, .slice xA xr.length xc, .slice xB xw.length xd] 29) = y := ⟨_, rfl⟩
      have hbt : Below w.heap.size w wt := by rw [← hwt]; exact HB.out.alloc HB.out.size _
      have hbt1 : Below wo.heap.size wo wt := by rw [← hwt]; exact (Below.refl _ _).alloc (Nat.le_refl _) _
      have hnt : wt.heap[wo.heap.size]? = some (.cells #[.int .i64 xi, .int .u64 xb, .int .u64 xa, .int .i64 xs, .int .i64 xe, .slice xA xr.length xc, .slice xB xw.length xd] 29 (0, 0)) := by rw [← hwt]; exact heap_alloc_new wo _
      have HCl := Lib.hid (fun (W : World) (h : Below wt.heap.size wt W) => seven_of (heap_below hnt h (lt_of_heap hnt)))
      have HBt := Lib.hid hbt
      have HWt := Lib.hid hwt
      have hr1 := hok.1.below hbt1 (Nat.le_refl _) hbt1.size
      have hw1 := hok.2.below hbt1 (Nat.le_refl _) hbt1.size
      have HF1 := Lib.hid (fun (W : World) (h : Below wt.heap.size wt W) => fewI_any xr xA xc W hr1.len (hr1.below h (Nat.le_refl _) h.size).2.2.2)
      have HF2 := Lib.hid (fun (W : World) (h : Below wt.heap.size wt W) => fewI_any xw xB xd W hw1.len (hw1.below h (Nat.le_refl _) h.size).2.2.2)
      have HL1 := Lib.hid hr1.len
      have HL2 := Lib.hid hw1.len
      have HFx := Lib.hid (show fewZ1 ⟨⟨xi, xb, xa, xs, xe, xr, xw⟩, xA, xc, xB, xd⟩ = (fewI xr && fewI xw && decide (xr.length + xw.length ≤ 20)) from rfl)
      have HY1 := Lib.hid (fun q : fewI xr = true => (fewI_yes q).2)
      have HY2 := Lib.hid (fun q : fewI xw = true => (fewI_yes q).2)
      clear hok hbt hbt1 hnt hwt hr1 hw1
      go_upto_region 4 with fail
      rw [HWt.out]
      clear HWt z0 z1 z2 z3 z4 z5 z6
      obtain ⟨z0, z1, z2, z3, z4, z5, z6⟩ := HCl.out wt (Below.refl _ _)
      have HC1 := Lib.hid (HF1.out wt (Below.refl _ _))
      go_wp2_with fail
      (with_reducible refine HC1.out.mono ?_)
      rintro r w2 ⟨rfl, hb2⟩
      have HB2 := Lib.hid hb2
      clear z0 z1 z2 z3 z4 z5 z6 HC1
      obtain ⟨z0, z1, z2, z3, z4, z5, z6⟩ := HCl.out w2 hb2
      have HC2 := Lib.hid (HF2.out w2 hb2)
      have HBa := Lib.hid (HBt.out.trans (hb2.mono HBt.out.size))
      clear hb2
      cases hf1 : fewI xr with
      | false =>
        have HF := Lib.hid (HNo.out (by rw [HFx.out, hf1]; rfl))
        clear hf1
        go_wp2_with fail
        go_ret
        rw [HF.out]
        exact ⟨rfl, HBa.out⟩
      | true =>
        have hl1 := HY1.out hf1
        go_wp2_with fail
        (with_reducible refine HC2.out.mono ?_)
        rintro r w3 ⟨rfl, hb3⟩
        clear z0 z1 z2 z3 z4 z5 z6 HC2
        obtain ⟨z0, z1, z2, z3, z4, z5, z6⟩ := HCl.out w3 (HB2.out.trans (hb3.mono HB2.out.size))
        have HBb := Lib.hid (HBa.out.trans (hb3.mono HBa.out.size))
        clear hb3
        cases hf2 : fewI xw with
        | false =>
          have HF := Lib.hid (HNo.out (by rw [HFx.out, hf1, hf2]; rfl))
          clear hf1 hf2
          go_wp2_with fail
          go_ret
          rw [HF.out]
          exact ⟨rfl, HBb.out⟩
        | true =>
          have hl2 := HY2.out hf2
          by_cases h20 : xr.length + xw.length ≤ 20
          · have d1 : decide (20 < xr.length + xw.length) = false := by rw [decide_eq_false_iff_not]; omega
            have d2 : decide ((20 : Int) < (xr.length : Int) + (xw.length : Int)) = false := by rw [decide_eq_false_iff_not]; omega
            have d3 : decide ((xr.length : Int) + (xw.length : Int) > 20) = false := by rw [decide_eq_false_iff_not]; omega
            have HG := Lib.hid (show (ms.take (j + 1)).all fewZ1 = true by rw [HT.out, HA.out, HFx.out, hf1, hf2]; simp [h20])
            clear h20 hf1 hf2
            go_wp2_with fail
            go_roundg (gk - 1)
            case measure => have := HJ.out; omega
            case rel => exact ⟨j + 1, by have := HJ.out; omega, by go_num, HG.out, HBb.out⟩
          · have d1 : decide (20 < xr.length + xw.length) = true := by rw [decide_eq_true_iff]; omega
            have d2 : decide ((20 : Int) < (xr.length : Int) + (xw.length : Int)) = true := by rw [decide_eq_true_iff]; omega
            have d3 : decide ((xr.length : Int) + (xw.length : Int) > 20) = true := by rw [decide_eq_true_iff]; omega
            have HF := Lib.hid (HNo.out (by rw [HFx.out, hf1, hf2]; simp [h20]))
            clear h20 hf1 hf2
            go_wp2_with fail
            go_ret
            rw [HF.out]
            exact ⟨rfl, HBb.out⟩
    · have hlt : decide ((j : Int) < (ms.length : Int)) = false := by simpa using hjn
      have hlt2 : decide (j < ms.length) = false := by simpa using hjn
      have hall := HA.out
      rw [List.take_of_length_le (by omega)] at hall
      by_cases h25 : ms.length ≤ 25
      · have d1 : decide ((ms.length : Int) ≤ 25) = true := by rw [decide_eq_true_iff]; omega
        have d2 : decide (ms.length ≤ 25) = true := by rw [decide_eq_true_iff]; omega
        have HF := Lib.hid (show fewZ ms = true by unfold fewZ; rw [hall, d2]; rfl)
        clear h25 hjn hall
        go_wp2_with fail
        go_ret
        rw [HF.out]
        exact ⟨rfl, HB.out⟩
      · have d1 : decide ((ms.length : Int) ≤ 25) = false := by rw [decide_eq_false_iff_not]; omega
        have d2 : decide (ms.length ≤ 25) = false := by rw [decide_eq_false_iff_not]; omega
        have HF := Lib.hid (show fewZ ms = false by unfold fewZ; rw [hall, d2]; rfl)
        clear h25 hjn hall
        go_wp2_with fail
        go_ret
        rw [HF.out]
        exact ⟨rfl, HB.out⟩
/-! ### the chapter's example -/
def kx : List UInt8 := [120]
def spx : Sp := ⟨[120], [120] ++ [0]⟩
def m1Z (g : Nat) : MZ := ⟨⟨1, 0, 0, 1, 4, [spx], []⟩, some ⟨g, 0, none⟩, 1, none, 0⟩
def m2Z (g : Nat) : MZ := ⟨⟨2, 0, 1, 2, 3, [], [spx]⟩, none, 0, some ⟨g, 0, none⟩, 1⟩
structure TwoAt (w : World) (g x : Nat) : Prop where
  row : w.heap[g]? = some (.cells #[.int .i64 1, .int .u64 0, .int .u64 0, .int .i64 1, .int .i64 4, .slice (some ⟨x, 0, none⟩) 1 1, .slice none 0 0, .int .i64 2, .int .u64 0, .int .u64 1, .int .i64 2, .int .i64 3, .slice none 0 0, .slice (some ⟨x, 0, none⟩) 1 1] 29 (0, 0))
  sp : w.heap[x]? = some (.cells #[.string (bs spx.lo), .string (bs spx.hi)] 52 (0, 0))
theorem TwoAt.below {w w' : World} {g x : Nat} (h : TwoAt w g x) (hb : Below w.heap.size w w') : TwoAt w' g x := ⟨heap_below h.row hb (lt_of_heap h.row), heap_below h.sp hb (lt_of_heap h.sp)⟩
theorem TwoAt.ch {w : World} {g x : Nat} (h : TwoAt w g x) : ChZ w w.heap.size (some ⟨g, 0, none⟩) 2 [m1Z x, m2Z x] := by
  have hs : ChI w w.heap.size (some ⟨x, 0, none⟩) 1 [spx] := chI_one h.sp
  refine ⟨by simp, by simp [maxLen], (fun e => by cases e), (RowG.block h.row (fun j u hu => by simpa [flatG, mzCells, m1Z, m2Z] using hu)).wide (Nat.zero_le _) (lt_of_heap h.row), fun y hy => ?_⟩
  simp only [List.mem_cons, List.not_mem_nil, or_false] at hy
  rcases hy with rfl | rfl
  · exact ⟨hs, ChI.none_ _ _⟩
  · exact ⟨ChI.none_ _ _, hs⟩
theorem two_few (x : Nat) : ∀ y ∈ [m1Z x, m2Z x], fewMZ y := fun y hy => by
  simp only [List.mem_cons, List.not_mem_nil, or_false] at hy
  rcases hy with rfl | rfl <;> simp [fewMZ, m1Z, m2Z]
theorem two_dz (x : Nat) : dz [m1Z x, m2Z x] = [⟨1, 0, 0, 1, 4, [spx], []⟩, ⟨2, 0, 1, 2, 3, [], [spx]⟩] := rfl
theorem two_order (x : Nat) : orderL (dz [m1Z x, m2Z x]) = some [0, 1] := by
  rw [two_dz]
  decide
theorem two_edge1 (x : Nat) : edgeD (m1Z x).d (m2Z x).d = true := by
  show edgeD ⟨1, 0, 0, 1, 4, [spx], []⟩ ⟨2, 0, 1, 2, 3, [], [spx]⟩ = true
  decide
theorem two_edge2 (x : Nat) : edgeD (m2Z x).d (m1Z x).d = false := by
  show edgeD ⟨2, 0, 1, 2, 3, [], [spx]⟩ ⟨1, 0, 0, 1, 4, [spx], []⟩ = false
  decide
set_option maxRecDepth 100000 in
set_option maxHeartbeats 4000000 in
theorem two_any (w : World) : Calls Try.prog 17 #[] w fun r w' => ∃ g x, r = .returned (.slice (some ⟨g, 0, none⟩) 2 2) ∧ TwoAt w' g x ∧ Below w.heap.size w w' := by
  have hp : Calls Try.prog 27 #[.string ⟨#[120]⟩] w fun r w' => r = .returned (.agg #[.string (bs spx.lo), .string (bs spx.hi)]) ∧ Below w.heap.size w w' := refPointI_any kx w (by simp [kx])
  have HP := Lib.hid hp
  clear hp
  go_enter Try.func17, Try.ntmps17
  go_wp2_with fail
  (with_reducible refine HP.out.mono ?_)
  rintro r w1 ⟨rfl, hb1⟩
  have HB1 := Lib.hid hb1
  clear hb1 HP
  go_wp2_with fail
  go_ret
  refine ⟨_, _, rfl, ⟨heap_new2 w1 _ _, heap_allocs (heap_alloc_new w1 _) _⟩, (HB1.out.alloc HB1.out.size _).alloc (Nat.le_trans HB1.out.size (by simp)) _⟩
end Go.Proofs.Ytfdiidhilonkoaa
