import Derived.Test.YtjkmodfbbiojmaaZC30
import Derived.Test.YtjkmodfbbiojmaaZC31
import Derived.Deep.DeepCutAuto
import Derived.Test.YtjkmodfbbiojmaaZC07
import Derived.Deep.LoopGhost
import Derived.Test.YtjkmodfbbiojmaaZC15
/-
  Records, package ssi as it landed: Same of two lists.
-/
namespace Go.Proofs.Ytjkmodfbbiojmaa
open Go.RowKit

set_option maxRecDepth 100000 in
set_option maxHeartbeats 8000000 in
theorem dEqualM_any (K : SpanC) (a b : List RecS) (A B : Option Addr) (c d : Nat) (w : World) (ha : okRs a) (hb : okRs b) (h1 : ChR w w.heap.size A c a) (h2 : ChR w w.heap.size B d b) :
    Calls Try.prog 34 #[.slice A a.length c, .slice B b.length d, .func (.func 35) #[] #[]] w fun r w' => r = .returned (.bool (sameR a b)) ∧ Below w.heap.size w w' := by
  have hla := h1.len
  have hlb := h2.len
  by_cases hlen : a.length = b.length
  · have HR := Lib.hid h1
    have HS := Lib.hid h2
    have HOA := Lib.hid ha
    have HOB := Lib.hid hb
    have HLen := Lib.hid hlen
    rw [hlen]
    clear h1 h2 ha hb hla hlen
    go_enter Try.func34, Try.ntmps34
    go_wp2
    go_loopg [7, 8, 9, 17] b.length (fun q _ _ _ i wr => ∃ j : Nat, j + q = b.length ∧ i = .int .i64 j ∧ a.take j = b.take j ∧ Below w.heap.size w wr)
    case atStart => exact ⟨0, by omega, rfl, rfl, Below.refl _ _⟩
    case round =>
      obtain ⟨j, hk, rfl, hall, hb⟩ := hrel
      obtain ⟨wo, hwo⟩ : ∃ y, y = wr := ⟨_, rfl⟩
      subst hwo
      have HK := Lib.hid hk
      have HA := Lib.hid hall
      have HB := Lib.hid hb
      clear hall hb hk
      by_cases hjm : j < b.length
      · have hlt : decide ((j : Int) < (b.length : Int)) = true := by simpa using hjm
        have hlt3 : decide (j < b.length) = true := by simpa using hjm
        have hj : j < a.length := by rw [HLen.out]; exact hjm
        obtain ⟨bx, ox, rfl, hbx, x, ex, okx, c0, c1, c2, c3, c4, c5⟩ := (HR.out.below HB.out (Nat.le_refl _) HB.out.size).2.2.2.at_ hj
        obtain ⟨by_, oy, rfl, hby, y, ey, oky, d0, d1, d2, d3, d4, d5⟩ := (HS.out.below HB.out (Nat.le_refl _) HB.out.size).2.2.2.at_ hjm
        have HT := Lib.hid (fun h : sameOneR x.r y.r = true => sameR_take hj hjm HA.out (by rw [← ex, ← ey]; exact h))
        have HNo := Lib.hid (fun h : sameOneR x.r y.r = false => sameR_no hj hjm (by rw [← ex, ← ey]; exact h))
        have hox : okR x.r := by rw [ex]; exact HOA.out.mem (List.getElem_mem hj)
        have hoy : okR y.r := by rw [ey]; exact HOB.out.mem (List.getElem_mem hjm)
        have HEq := Lib.hid (fun (W : World) (h : Below wo.heap.size wo W) => (dSameOneM_any K x y W hox hoy (okx.below h (Nat.le_refl _) h.size) (oky.below h (Nat.le_refl _) h.size)).mono fun r w' (q : r = .returned (.bool (sameOneR x.r y.r)) ∧ Below W.heap.size W w') => (⟨q.1, h.trans (q.2.mono h.size)⟩ : r = .returned (.bool (sameOneR x.r y.r)) ∧ Below wo.heap.size wo w'))
        clear hox hoy okx oky ex ey
        generalize hE : sameOneR x.r y.r = E at *
        obtain ⟨⟨xf, xl, xb, xo, xr, xw⟩, xA, xc, xB, xd⟩ := x
        obtain ⟨⟨yf, yl, yb, yo, yr, yw⟩, yA, yc, yB, yd⟩ := y
        unfold recVal at HEq
        simp only at c0 c1 c2 c3 c4 c5 d0 d1 d2 d3 d4 d5 HEq
        obtain ⟨w1, hw1⟩ : ∃ y, wo.alloc (.cells #[.int .u64 xf, .int .u64 xl, .int .u64 xb, .int .u64 xo, .slice xA xr.length xc, .slice xB xw.length xd] 29) = y := ⟨_, rfl⟩
        obtain ⟨w2, hw2⟩ : ∃ y, w1.alloc (.cells #[.int .u64 yf, .int .u64 yl, .int .u64 yb, .int .u64 yo, .slice yA yr.length yc, .slice yB yw.length yd] 29) = y := ⟨_, rfl⟩
        have hb1 : Below wo.heap.size wo w1 := by rw [← hw1]; exact (Below.refl _ wo).alloc (Nat.le_refl _) _
        have hb2 : Below wo.heap.size wo w2 := by rw [← hw2]; exact hb1.alloc hb1.size _
        have hx1 : w2.heap[wo.heap.size]? = some (.cells #[.int .u64 xf, .int .u64 xl, .int .u64 xb, .int .u64 xo, .slice xA xr.length xc, .slice xB xw.length xd] 29 (0, 0)) := by rw [← hw2, ← hw1]; exact heap_allocs (heap_alloc_new wo _) _
        have hx2 : w2.heap[wo.heap.size + 1]? = some (.cells #[.int .u64 yf, .int .u64 yl, .int .u64 yb, .int .u64 yo, .slice yA yr.length yc, .slice yB yw.length yd] 29 (0, 0)) := by rw [← hw2, ← hw1]; exact heap_new2 wo _ _
        have HCl := Lib.hid (And.intro (six_of hx1) (six_of hx2))
        have HEq2 := Lib.hid (HEq.out w2 hb2)
        have e0 := (hb1.cell (p := ⟨by_, oy + j * 6, none⟩) hby).trans d0
        have e1 := (hb1.cell (p := ⟨by_, oy + j * 6 + 1, none⟩) hby).trans d1
        have e2 := (hb1.cell (p := ⟨by_, oy + j * 6 + 2, none⟩) hby).trans d2
        have e3 := (hb1.cell (p := ⟨by_, oy + j * 6 + 3, none⟩) hby).trans d3
        have e4 := (hb1.cell (p := ⟨by_, oy + j * 6 + 4, none⟩) hby).trans d4
        have e5 := (hb1.cell (p := ⟨by_, oy + j * 6 + 5, none⟩) hby).trans d5
        have hsz : w1.heap.size = wo.heap.size + 1 := by rw [← hw1]; simp
        have HSz := Lib.hid hsz
        have HW1 := Lib.hid hw1
        have HW2 := Lib.hid hw2
        clear hb1 hb2 hx1 hx2 HEq d0 d1 d2 d3 d4 d5 hbx hby hw1 hw2 hsz
        go_upto_region 6 with fail
        rw [HW1.out]
        clear HW1 c0 c1 c2 c3 c4 c5
        go_upto_region 7 with fail
        rw [HW2.out, HSz.out]
        clear HW2 HSz e0 e1 e2 e3 e4 e5
        obtain ⟨⟨z0, z1, z2, z3, z4, z5⟩, ⟨y0, y1, y2, y3, y4, y5⟩⟩ := HCl.out
        go_wp2_with fail
        refine HEq2.out.mono ?_
        rintro r w3 ⟨rfl, hb3⟩
        have HB8 := Lib.hid (HB.out.trans (hb3.mono HB.out.size))
        clear hb3 z0 z1 z2 z3 z4 z5 y0 y1 y2 y3 y4 y5 HEq2 HCl
        cases E with
        | false =>
          have HF := Lib.hid (HNo.out rfl)
          clear HNo HT hE
          go_wp2_with fail
          go_ret
          rw [HF.out]
          exact ⟨rfl, HB8.out⟩
        | true =>
          have HF := Lib.hid (HT.out rfl)
          clear HNo HT hE
          go_wp2_with fail
          go_roundg (gk - 1)
          case measure => have := HK.out; omega
          case rel => exact ⟨j + 1, by have := HK.out; omega, by go_num, HF.out, HB8.out⟩
      · have hj' : j = b.length := by have := HK.out; omega
        have hlt : decide ((j : Int) < (b.length : Int)) = false := by simpa using hjm
        have HF := Lib.hid (sameR_all HLen.out hj' HA.out)
        clear hj'
        go_wp2
        go_ret
        rw [HF.out]
        exact ⟨rfl, HB.out⟩
  · have hle : ((a.length : Int) == (b.length : Int)) = false := by rw [beq_eq_false_iff_ne]; omega
    have hle2 : ((a.length : Int) != (b.length : Int)) = true := by rw [bne, hle]; rfl
    rw [sameR_len hlen]
    clear hlen h1 h2 ha hb
    go_enter Try.func34, Try.ntmps34
    go_wp2
    go_ret
    exact ⟨rfl, Below.refl _ _⟩
set_option maxRecDepth 100000 in
set_option maxHeartbeats 2000000 in
theorem dSameM_any (K : SpanC) (a b : List RecS) (A B : Option Addr) (c d : Nat) (w : World) (ha : okRs a) (hb : okRs b) (h1 : ChR w w.heap.size A c a) (h2 : ChR w w.heap.size B d b) :
    Calls Try.prog 18 #[.slice A a.length c, .slice B b.length d] w fun r w' => r = .returned (.bool (sameR a b)) ∧ Below w.heap.size w w' := by
  have HE := Lib.hid (dEqualM_any K a b A B c d w ha hb h1 h2)
  clear h1 h2 ha hb
  go_enter Try.func18, Try.ntmps18
  go_wp2_with fail
  refine HE.out.mono ?_
  rintro r w1 ⟨rfl, hb1⟩
  go_wp2_with fail
  go_ret
  exact ⟨rfl, hb1⟩
end Go.Proofs.Ytjkmodfbbiojmaa

/-
  Records: boxes of six cells; a result that lies in one.
-/
namespace Go.Proofs.Ytjkmodfbbiojmaa
open Go.RowKit

theorem join_twice (l : List Sp) : joinSp (joinSp l) = joinSp l := (join_eq (join_norm l) fun _ => rfl).symm
/-- A box of six cells that nobody has frozen. -/
def Box6 (w : World) (b : Nat) (t : TypeId) : Prop := ∃ a0 a1 a2 a3 a4 a5, w.heap[b]? = some (.cells #[a0, a1, a2, a3, a4, a5] t (0, 0))
def set6 (w : World) (b : Nat) (v0 v1 v2 v3 v4 v5 : Value) : World := (((((w.setCell ⟨b, 0, none⟩ v0).setCell ⟨b, 1, none⟩ v1).setCell ⟨b, 2, none⟩ v2).setCell ⟨b, 3, none⟩ v3).setCell ⟨b, 4, none⟩ v4).setCell ⟨b, 5, none⟩ v5
section
variable {w w' : World} {b B g : Nat} {t : TypeId} {v0 v1 v2 v3 v4 v5 : Value}
theorem Box6.new (w : World) (v0 v1 v2 v3 v4 v5 : Value) (t : TypeId) : Box6 (w.alloc (.cells #[v0, v1, v2, v3, v4, v5] t)) w.heap.size t := ⟨v0, v1, v2, v3, v4, v5, heap_alloc_new w _⟩
theorem Box6.of (h : w.heap[b]? = some (.cells #[v0, v1, v2, v3, v4, v5] t (0, 0))) : Box6 w b t := ⟨_, _, _, _, _, _, h⟩
theorem Box6.lt (h : Box6 w b t) : b < w.heap.size := by
  obtain ⟨_, _, _, _, _, _, h⟩ := h
  exact lt_of_heap h
theorem Box6.below (h : Box6 w b t) (hb : Below B w w') (hB : b < B) : Box6 w' b t := by
  obtain ⟨_, _, _, _, _, _, h⟩ := h
  exact ⟨_, _, _, _, _, _, heap_below h hb hB⟩
theorem Box6.frozen (h : Box6 w b t) (o : Nat) : w.frozen? ⟨b, o, none⟩ = false := by
  obtain ⟨_, _, _, _, _, _, h⟩ := h
  exact frozen_of h o
theorem Box6.cells (h : Box6 w b t) : ∃ a0 a1 a2 a3 a4 a5, w.cell? ⟨b, 0, none⟩ = some a0 ∧ w.cell? ⟨b, 1, none⟩ = some a1 ∧ w.cell? ⟨b, 2, none⟩ = some a2 ∧ w.cell? ⟨b, 3, none⟩ = some a3 ∧ w.cell? ⟨b, 4, none⟩ = some a4 ∧ w.cell? ⟨b, 5, none⟩ = some a5 ∧
    w.frozen? ⟨b, 0, none⟩ = false ∧ w.frozen? ⟨b, 1, none⟩ = false ∧ w.frozen? ⟨b, 2, none⟩ = false ∧ w.frozen? ⟨b, 3, none⟩ = false ∧ w.frozen? ⟨b, 4, none⟩ = false ∧ w.frozen? ⟨b, 5, none⟩ = false := by
  have hf := h.frozen
  obtain ⟨a0, a1, a2, a3, a4, a5, h⟩ := h
  obtain ⟨c0, c1, c2, c3, c4, c5⟩ := six_of h
  exact ⟨a0, a1, a2, a3, a4, a5, c0, c1, c2, c3, c4, c5, hf _, hf _, hf _, hf _, hf _, hf _⟩
theorem set_at {x : Array Value} (h : w.heap[b]? = some (.cells x t (0, 0))) (o : Nat) (v : Value) : (w.setCell ⟨b, o, none⟩ v).heap[b]? = some (.cells (x.setIfInBounds o v) t (0, 0)) := heap_setCell_same w b o x t v h
theorem Box6.set (h : Box6 w b t) : (set6 w b v0 v1 v2 v3 v4 v5).heap[b]? = some (.cells #[v0, v1, v2, v3, v4, v5] t (0, 0)) := by
  obtain ⟨a0, a1, a2, a3, a4, a5, h⟩ := h
  have h0 : (w.setCell ⟨b, 0, none⟩ v0).heap[b]? = some (.cells #[v0, a1, a2, a3, a4, a5] t (0, 0)) := by rw [set_at h 0 v0]; rfl
  have h1 : ((w.setCell ⟨b, 0, none⟩ v0).setCell ⟨b, 1, none⟩ v1).heap[b]? = some (.cells #[v0, v1, a2, a3, a4, a5] t (0, 0)) := by rw [set_at h0 1 v1]; rfl
  have h2 : (((w.setCell ⟨b, 0, none⟩ v0).setCell ⟨b, 1, none⟩ v1).setCell ⟨b, 2, none⟩ v2).heap[b]? = some (.cells #[v0, v1, v2, a3, a4, a5] t (0, 0)) := by rw [set_at h1 2 v2]; rfl
  have h3 : ((((w.setCell ⟨b, 0, none⟩ v0).setCell ⟨b, 1, none⟩ v1).setCell ⟨b, 2, none⟩ v2).setCell ⟨b, 3, none⟩ v3).heap[b]? = some (.cells #[v0, v1, v2, v3, a4, a5] t (0, 0)) := by rw [set_at h2 3 v3]; rfl
  have h4 : (((((w.setCell ⟨b, 0, none⟩ v0).setCell ⟨b, 1, none⟩ v1).setCell ⟨b, 2, none⟩ v2).setCell ⟨b, 3, none⟩ v3).setCell ⟨b, 4, none⟩ v4).heap[b]? = some (.cells #[v0, v1, v2, v3, v4, a5] t (0, 0)) := by rw [set_at h3 4 v4]; rfl
  unfold set6
  rw [set_at h4 5 v5]
  rfl
theorem set_far (hg : g ≠ b) (o : Nat) (v : Value) : (w.setCell ⟨b, o, none⟩ v).heap[g]? = w.heap[g]? := by
  have hg' : b ≠ g := fun e => hg e.symm
  simp [World.setCell, Array.getElem?_modify, hg']
theorem set6_far (hg : g ≠ b) : (set6 w b v0 v1 v2 v3 v4 v5).heap[g]? = w.heap[g]? := by
  unfold set6
  rw [set_far hg, set_far hg, set_far hg, set_far hg, set_far hg, set_far hg]
theorem Below.set6 (h : Below B w w') (hb : B ≤ b) : Below B w (set6 w' b v0 v1 v2 v3 v4 v5) := (((((h.setCell hb _).setCell hb _).setCell hb _).setCell hb _).setCell hb _).setCell hb _
theorem _root_.Go.RowKit.Below.set6' {w w' : World} {b B : Nat} {v0 v1 v2 v3 v4 v5 : Value} (h : Below B w w') (hb : B ≤ b) : Below B w (set6 w' b v0 v1 v2 v3 v4 v5) := Below.set6 h hb
theorem set6_size : (set6 w b v0 v1 v2 v3 v4 v5).heap.size = w.heap.size := by simp [Go.Proofs.Ytjkmodfbbiojmaa.set6, World.setCell]
/-- What does not lie in the box reads as before. -/
theorem cell_far (h : w'.heap[g]? = w.heap[g]?) (o : Nat) : w'.cell? ⟨g, o, none⟩ = w.cell? ⟨g, o, none⟩ := World.cell?_of_block h
end
/-- A slice that lies below a box that is set reads as before. -/
theorem ChI.set6 {w : World} {b : Nat} {A : Option Addr} {c : Nat} {l : List Sp} {v0 v1 v2 v3 v4 v5 : Value} (h : ChI w w.heap.size A c l) (hb : ∀ x, A = some x → x.block ≠ b) : ChI (set6 w b v0 v1 v2 v3 v4 v5) (set6 w b v0 v1 v2 v3 v4 v5).heap.size A c l := by
  refine ⟨h.1, h.2.1, h.2.2.1, fun hn => ?_⟩
  obtain ⟨g, o, e, h1, h2, hc⟩ := h.2.2.2 hn
  refine ⟨g, o, e, h1, by rw [set6_size]; exact h2, fun j u hu => ?_⟩
  rw [cell_far (set6_far (hb _ e))]
  exact hc j u hu
/-- A box of numbers and slices holds no row of stretches. -/
theorem no_text {w : World} {b : Nat} {t : TypeId} {fz : Nat × Nat} {n0 n1 n2 n3 : Int} {A B : Option Addr} {x y c d : Nat} (h : w.heap[b]? = some (.cells #[.int .u64 n0, .int .u64 n1, .int .u64 n2, .int .u64 n3, .slice A x c, .slice B y d] t fz)) (o : Nat) (s : ByteArray) : w.cell? ⟨b, o, none⟩ ≠ some (.string s) := by
  intro e
  simp only [World.cell?, h] at e
  match o with
  | 0 | 1 | 2 | 3 | 4 | 5 => simp at e
  | o + 6 => simp at e
theorem ChI.set6z {w : World} {b : Nat} {A : Option Addr} {c : Nat} {l : List Sp} {v0 v1 v2 v3 v4 v5 : Value} {hi : Nat} (h : ChI w hi A c l) (hs : ∀ o s, w.cell? ⟨b, o, none⟩ ≠ some (.string s)) : ChI (Go.Proofs.Ytjkmodfbbiojmaa.set6 w b v0 v1 v2 v3 v4 v5) hi A c l := by
  refine ⟨h.1, h.2.1, h.2.2.1, fun hn => ?_⟩
  obtain ⟨g, o, e, h1, h2, hc⟩ := h.2.2.2 hn
  have hg : g ≠ b := by
    rintro rfl
    cases l with
    | nil => simp at hn
    | cons x l => exact hs _ _ (hc 0 (.string (bs x.lo)) rfl)
  refine ⟨g, o, e, h1, h2, fun j u hu => ?_⟩
  rw [cell_far (set6_far hg)]
  exact hc j u hu
/-- A result that lies in a box. -/
theorem results6 {f : Func} {k : Nat} {t : TypeId} {tmps : Array Value} {w : World} {h : Nat} {a0 a1 a2 a3 a4 a5 : Value} (hr : f.results = #[.cell k t]) (ht : t = 29) (h4 : tmps[k]? = some (.pointer (some ⟨h, 0, none⟩)))
    (hb : w.heap[h]? = some (.cells #[a0, a1, a2, a3, a4, a5] t (0, 0))) : (results f tmps).run Try.prog w = .ok (.agg #[a0, a1, a2, a3, a4, a5]) w := by
  subst ht
  have hl := run_loadCells_list (P := Try.prog) w ⟨h, 0, none⟩ [a0, a1, a2, a3, a4, a5] (fun j v hv => by
    have e : (⟨h, 0, none⟩ : Addr).add j = ⟨h, j, none⟩ := by unfold Addr.add; split <;> simp_all
    rw [e]
    simp only [World.cell?, hb]
    simpa using hv)
  rw [show ([a0, a1, a2, a3, a4, a5] : List Value).length = 6 from rfl] at hl
  have ha : (isAgg 29).run Try.prog w = .ok true w := by kernel_rfl
  have hz : (sizeOf 29).run Try.prog w = .ok 6 w := by kernel_rfl
  simp [results, hr, asAddr, loadVar, ha, hl, h4]
end Go.Proofs.Ytjkmodfbbiojmaa
