/-
  The document's own answers on values: Take of conductorref04.
-/
import Derived.Test.YtepniiaojhiogaaDoorVRefB
import Derived.Test.YtepniiaojhiogaaDoorRefT
import Derived.RegionTactic
namespace Go.Proofs.YtepniiaojhiogaaDoor
open Go.RowKit

/-- A value, how many bytes it has, and the error. -/
def retTake (x : V × Nat × Int) : Ending := .returned (.tuple #[x.1.val, .int .i64 x.2.1, .int .i64 x.2.2])

theorem fTake_nil (A : Option Addr) (c : Nat) (w : World) : Calls Tryd.prog 12 #[.slice A 0 c] w fun r w' => r = retTake (takeV []) ∧ Below w.heap.size w w' := by
  go_enter Tryd.func12, Tryd.ntmps12
  go_wp2
  exact bodyPost_ret (v := .tuple #[.agg #[.int .i64 0, .int .i64 0, .string ⟨#[]⟩], .int .i64 0, .int .i64 6]) (by simp [results, Tryd.results12, go_sem]) rfl ⟨rfl, (Below.refl _ w).alloc (Nat.le_refl _) _⟩

/-- 'b[1:]' of a slice that is not empty. -/
def tailA (bb o c : Nat) : Option Addr := if c = 1 then some ⟨bb, o, none⟩ else some ⟨bb, o + 1, none⟩
theorem slice_tail (bb o n c : Nat) (h : n + 1 ≤ c) (hc : c ≤ 9223372036854775807) (w : World) :
    (Instr.slice 24 (.slice (some ⟨bb, o, none⟩) (n + 1) c) (some (.int .i64 1)) none none).run Tryd.prog w = .ok (.slice (tailA bb o c) n (c - 1)) w := by
  by_cases h1 : c = 1
  · have hn : n = 0 := by omega
    subst h1 hn
    simp [Instr.slice, Instr.sliceBounds, Instr.sliceBound, asIntOf, run_underlying Tryd.underlying24, go_sem, tailA]
  · have h0 : c ≠ 0 := by omega
    simp [Instr.slice, Instr.sliceBounds, Instr.sliceBound, asIntOf, run_underlying Tryd.underlying24, go_sem, tailA, h1]
    intro h2
    omega
theorem tail_some (bb o c : Nat) : tailA bb o c = none → c - 1 = 0 := by
  unfold tailA
  split <;> (intro h; cases h)
theorem tail_rd {w : World} {lo hi bb o c : Nat} {x : UInt8} {t : List UInt8} (h : Rd w lo hi (some ⟨bb, o, none⟩) (x :: t)) (hc : t.length + 1 ≤ c) : Rd w lo hi (tailA bb o c) t := by
  have h1 := h.drop 1 c hc (by simp)
  have e : (if c = 1 then some ⟨bb, o, none⟩ else Option.map (fun a : Addr => a.add 1) (some ⟨bb, o, none⟩)) = tailA bb o c := by
    unfold tailA
    split
    · rfl
    · simp [addr_add]
  rw [e] at h1
  exact h1

theorem Boxed.setN {w : World} {b : Nat} {v : V} (n : Int) (h : Boxed w b v) : Boxed (w.setCell ⟨b, 1, none⟩ (.int .i64 n)) b ⟨v.k, n, v.s⟩ := by
  unfold Boxed at *
  simp [World.setCell, Array.getElem?_modify, h]
theorem Boxed.setS {w : World} {b : Nat} {v : V} (s : ByteArray) (h : Boxed w b v) : Boxed (w.setCell ⟨b, 2, none⟩ (.string s)) b ⟨v.k, v.n, s⟩ := by
  unfold Boxed at *
  simp [World.setCell, Array.getElem?_modify, h]
theorem Boxed.grown {w w' : World} {b : Nat} {v : V} {row : Option Nat} (h : Boxed w b v) (hg : w.grownBy w' row) (hne : row ≠ some b) : Boxed w' b v :=
  (hg.block b h.lt (fun e => hne e.symm)).trans h
theorem Boxed.frozen {w : World} {b : Nat} {v : V} (h : Boxed w b v) (o : Nat) : w.frozen? ⟨b, o, none⟩ = false := by
  unfold Boxed at h
  simp [World.frozen?, h]
theorem FRdr.apart {w w' : World} {lo g e b : Nat} {l : List UInt8} (h : FRdr w lo g l e) (hgr : w.grownBy w' (some b)) (hb : b < lo) (hg : lo ≤ g) : FRdr w' lo g l e := by
  have hlt := h.lt
  obtain ⟨A, c, hh, h1, h2, h3, h4⟩ := h
  exact ⟨A, c, (hgr.block g hlt (fun e => by injection e with e; omega)).trans hh, h1, h2, h3, h4.grown hgr (by omega) (fun i hi => by injection hi with hi; omega)⟩
theorem FRdr.fields {w : World} {lo g e : Nat} {l : List UInt8} (h : FRdr w lo g l e) : ∃ A c, w.cell? ⟨g, 0, none⟩ = some (.slice A l.length c) ∧ w.cell? ⟨g, 1, none⟩ = some (.int .i64 e) ∧ w.frozen? ⟨g, 1, none⟩ = false := by
  obtain ⟨A, c, hg, _⟩ := h
  exact ⟨A, c, cell_of_row w g 0 _ _ _ hg, cell_of_row w g 1 _ _ _ hg, by simp [World.frozen?, hg]⟩

theorem Boxed.set3 {w : World} {b : Nat} {v : V} (k n : Int) (s : ByteArray) (h : Boxed w b v) : Boxed (((w.setCell ⟨b, 0, none⟩ (.int .i64 k)).setCell ⟨b, 1, none⟩ (.int .i64 n)).setCell ⟨b, 2, none⟩ (.string s)).drew b ⟨k, n, s⟩ := by
  unfold Boxed at *
  simp [World.setCell, World.drew, Array.getElem?_modify, h]
theorem Below.set3 {w w' : World} {B b : Nat} (h : Below B w w') (hb : B ≤ b) (v0 v1 v2 : Value) : Below B w (((w'.setCell ⟨b, 0, none⟩ v0).setCell ⟨b, 1, none⟩ v1).setCell ⟨b, 2, none⟩ v2).drew :=
  (((h.setCell hb _).setCell hb _).setCell hb _).drew
theorem Boxed.set3' {w : World} {b : Nat} {v : V} (k n : Int) (s : ByteArray) (h : Boxed w b v) : Boxed (((w.setCell ⟨b, 0, none⟩ (.int .i64 k)).setCell ⟨b, 1, none⟩ (.int .i64 n)).setCell ⟨b, 2, none⟩ (.string s)) b ⟨k, n, s⟩ := h.set3 k n s
theorem Below.set3' {w w' : World} {B b : Nat} (h : Below B w w') (hb : B ≤ b) (v0 v1 v2 : Value) : Below B w (((w'.setCell ⟨b, 0, none⟩ v0).setCell ⟨b, 1, none⟩ v1).setCell ⟨b, 2, none⟩ v2) :=
  ((h.setCell hb _).setCell hb _).setCell hb _
theorem v8_ne {b : UInt8} {n : Nat} (hn : n < 256) (h : b ≠ UInt8.ofNat n) : ((b.toNat : Int) == (n : Int)) = false := by
  rw [beq_eq_false_iff_ne]
  intro e
  apply h
  apply UInt8.toNat_inj.1
  rw [UInt8.toNat_ofNat']
  omega

set_option maxRecDepth 100000 in
set_option maxHeartbeats 4000000 in
theorem fTake_num (x : UInt8) (hx : x = 1 ∨ x = 2) (t : List UInt8) (A : Option Addr) (c : Nat) (w : World) (hl : t.length + 1 ≤ c) (hlen : t.length ≤ 1000000) (hcm : c ≤ maxLen) (hr : Rd w 0 w.heap.size A (x :: t)) :
    Calls Tryd.prog 12 #[.slice A (t.length + 1 : Nat) c] w fun r w' => r = retTake (takeNum x t) ∧ Below w.heap.size w w' := by
  obtain ⟨bb, o, hA, _, hbb, hc⟩ := hr (by simp)
  subst hA
  have c9 := hc 0 (by simp)
  simp only [List.getElem_cons_zero, Nat.add_zero] at c9
  have HR := Lib.hid hr
  unfold maxLen at hcm
  have hcm' : c ≤ 9223372036854775807 := by omega
  have hsl := slice_tail bb o t.length c hl hcm'
  have hz0 : ((t.length : Int) + 1 == 0) = false := by rw [beq_eq_false_iff_ne]; omega
  obtain ⟨n, rest, e, hq⟩ : ∃ n rest e, uintOf t 0 maxU = (n, rest, e) := ⟨_, _, _, rfl⟩
  have HQ := Lib.hid hq
  have hrl : rest.length ≤ t.length := by
    have : rest = (uintOf t 0 maxU).2.1 := by rw [hq]
    rw [this]
    simp [uintOf]
  have HT := Lib.hid (show takeNum x t = endV ⟨x.toNat, zag n, ⟨#[]⟩⟩ e (t.length + 1 - rest.length) by unfold takeNum; rw [hq])
  have kx : (x.toNat : Int) = 1 ∨ (x.toNat : Int) = 2 := by rcases hx with rfl | rfl <;> simp
  obtain ⟨k, hk⟩ : ∃ k : Int, k = (x.toNat : Int) := ⟨_, rfl⟩
  rw [← hk] at kx c9 HT
  have hk0 : 0 ≤ k := by omega
  have hk9 : k ≤ 255 := by omega
  have key : ((k == 1) = true ∧ True) ∨ ((k == 1) = false ∧ (k == 2) = true) := by rcases kx with rfl | rfl <;> simp
  clear hc hcm hr hq hk hx kx
  rcases key with ⟨j1, j2⟩ | ⟨j1, j2⟩
  all_goals
    go_enter Tryd.func12, Tryd.ntmps12
    go_wp2_with fail
    clear hsl
    refine (fRead_any (tailA bb o c) t (c - 1) _ (by omega) (tail_some _ _ _) (tail_rd ((HR.out.below (((Below.refl _ w).alloc (Nat.le_refl _) _).alloc (by simp) _) (Nat.le_refl _)).wide (Nat.le_refl _) (by simp; omega)) hl)).mono ?_
    rintro r w1 ⟨g, rfl, hg, hrd, hb⟩
    have hg2 : w.heap.size + 2 ≤ g := by simpa using hg
    have hf : FRdr w1 (w.heap.size + 2) g t 0 := by simpa using hrd
    have hn := fInt_r g (w.heap.size + 2) 0 t w1 hf
    rw [HQ.out] at hn
    have HN := Lib.hid hn
    have hbx0 := (Boxed.new _ _ _ _).below hb
    rw [show (w.alloc (.cells #[.int .i64 0, .int .i64 0, .string ⟨#[]⟩] 23)).heap.size = w.heap.size + 1 from by simp] at hbx0
    have HBX := Lib.hid hbx0
    have HBR := Lib.hid (Boxed.below (Boxed.below (Boxed.new w 0 0 ⟨#[]⟩) ((Below.refl _ _).alloc (Nat.le_refl _) _)) hb)
    have HB := Lib.hid ((((Below.refl _ w).alloc (Nat.le_refl _) _).alloc (by simp) _).trans (hb.mono (by simp; omega)))
    have b0 := HBX.out.cells.1
    clear hg hrd hb hf hn hbx0
    go_wp2_with fail
    refine (HN.out).mono ?_
    rintro r w2 ⟨rfl, hrd2, hgr⟩
    have HF2 := Lib.hid hrd2
    have HBX2 := Lib.hid (HBX.out.grown hgr (by intro h; injection h; omega))
    have HBR2 := Lib.hid (HBR.out.grown hgr (by intro h; injection h; omega))
    have HB2 := Lib.hid (HB.out.grown hgr HB.out.size (by intro i hi; injection hi; omega))
    obtain ⟨b1, b2, b3⟩ := HBX2.out.cells
    have f1 := HBX2.out.frozen 1
    clear hrd2 hgr b0 HN HBX HBR HB
    go_upto_region 12 with fail
    obtain ⟨w3, hw3⟩ : ∃ wy, w2.setCell ⟨w.heap.size + 1, 1, none⟩ (.int .i64 (zag n)) = wy := ⟨_, rfl⟩
    rw [hw3]
    have hgs : w2.grownBy w3 (some (w.heap.size + 1)) := by rw [← hw3]; exact grown_set _ _ _
    have HBX3 := Lib.hid (show Boxed w3 (w.heap.size + 1) ⟨k, zag n, ⟨#[]⟩⟩ by rw [← hw3]; exact HBX2.out.setN (zag n))
    have HBR3 := Lib.hid (HBR2.out.grown hgs (by intro h; injection h; omega))
    have HF3 := Lib.hid (HF2.out.apart hgs (by omega) hg2)
    have HB3 := Lib.hid (HB2.out.grown hgs HB2.out.size (by intro i hi; injection hi; omega))
    clear hw3 hgs b1 b2 b3 f1 HF2 HBX2 HBR2 HB2
    generalize zag n = zn at *
    obtain ⟨A3, c3, d0, d1, fg⟩ := HF3.out.fields
    obtain ⟨b1, b2, b3⟩ := HBX3.out.cells
    obtain ⟨r1, r2, r3⟩ := HBR3.out.cells
    have fr0 := HBR3.out.frozen 0
    have fr1 := HBR3.out.frozen 1
    have fr2 := HBR3.out.frozen 2
    by_cases he : e = 0
    · subst he
      have HV := Lib.hid (fRight_any ⟨k, zn, ⟨#[]⟩⟩ w3)
      have HT2 := Lib.hid (HT.out.trans (if_neg (by simp)))
      by_cases hright : rightV ⟨k, zn, ⟨#[]⟩⟩ = 0
      · have HE := Lib.hid (HT2.out.trans (if_neg (by simpa using hright)))
        have HRI := Lib.hid hright
        clear hright
        go_wp2_with fail
        refine (HV.out).mono ?_
        rw [HRI.out]
        rintro r w4 ⟨rfl, hb4⟩
        have HBX4 := Lib.hid (HBX3.out.below hb4)
        have HBR4 := Lib.hid (HBR3.out.below hb4)
        have HF4 := Lib.hid (HF3.out.below hb4 HF3.out.lt)
        have HB4 := Lib.hid (HB3.out.trans (hb4.mono HB3.out.size))
        clear hb4 b1 b2 b3 r1 r2 r3 fr0 fr1 fr2 d0 d1 fg HF3 HBX3 HBR3 HB3
        obtain ⟨A4, c4, d0, d1, fg⟩ := HF4.out.fields
        obtain ⟨b1, b2, b3⟩ := HBX4.out.cells
        obtain ⟨r1, r2, r3⟩ := HBR4.out.cells
        have fr0 := HBR4.out.frozen 0
        have fr1 := HBR4.out.frozen 1
        have fr2 := HBR4.out.frozen 2
        go_wp2_with fail
        go_region
        have HP := Lib.hid (Below.set3 HB4.out (Nat.le_refl _) (.int .i64 k) (.int .i64 zn) (.string ⟨#[]⟩))
        obtain ⟨t0, t1, t2⟩ := (HBR4.out.set3 k zn ⟨#[]⟩).cells
        have hlast : ((t.length + 1 - rest.length : Nat) : Int) = (t.length : Int) + 1 - (rest.length : Int) := by omega
        have HLast := Lib.hid hlast
        clear b1 b2 b3 r1 r2 r3 fr0 fr1 fr2 d0 d1 fg hlast
        go_wp2
        refine bodyPost_ret (v := .tuple #[.agg #[.int .i64 k, .int .i64 zn, .string ⟨#[]⟩], .int .i64 ((t.length : Int) + 1 - (rest.length : Int)), .int .i64 0]) (by simp [results, Tryd.results12, go_sem, t0, t1, t2]) rfl ⟨?_, HP.out⟩
        rw [HE.out, ← HLast.out]
        rfl
      · have HE := Lib.hid (HT2.out.trans (if_pos hright))
        have hrb : (rightV ⟨k, zn, ⟨#[]⟩⟩ != 0) = true := by simpa using hright
        clear hright
        generalize rightV ⟨k, zn, ⟨#[]⟩⟩ = er at *
        go_wp2_with fail
        refine (HV.out).mono ?_
        rintro r w4 ⟨rfl, hb4⟩
        have HBR4 := Lib.hid (HBR3.out.below hb4)
        have HF4 := Lib.hid (HF3.out.below hb4 HF3.out.lt)
        have HB4 := Lib.hid (HB3.out.trans (hb4.mono HB3.out.size))
        clear hb4 b1 b2 b3 r1 r2 r3 fr0 fr1 fr2 d0 d1 fg HF3 HBX3 HBR3 HB3
        obtain ⟨A4, c4, d0, d1, fg⟩ := HF4.out.fields
        go_upto_region 14 with fail
        obtain ⟨w5, hw5⟩ : ∃ wy, w4.setCell ⟨g, 1, none⟩ (.int .i64 1) = wy := ⟨_, rfl⟩
        rw [hw5]
        have hgs : w4.grownBy w5 (some g) := by rw [← hw5]; exact grown_set _ _ _
        have HBR5 := Lib.hid (HBR4.out.grown hgs (by intro h; injection h; omega))
        have HF5 := Lib.hid (show FRdr w5 (w.heap.size + 2) g rest 1 by rw [← hw5]; exact HF4.out.err 1)
        have HB5 := Lib.hid (HB4.out.grown hgs HB4.out.size (by intro i hi; injection hi; omega))
        clear hw5 hgs d0 d1 fg HF4 HBR4 HB4
        obtain ⟨A5, c5, d0, d1, fg⟩ := HF5.out.fields
        obtain ⟨r1, r2, r3⟩ := HBR5.out.cells
        have fr0 := HBR5.out.frozen 0
        have fr1 := HBR5.out.frozen 1
        have fr2 := HBR5.out.frozen 2
        go_wp2_with fail
        go_region
        have HP := Lib.hid (Below.set3 HB5.out (Nat.le_refl _) (.int .i64 0) (.int .i64 0) (.string ⟨#[]⟩))
        obtain ⟨t0, t1, t2⟩ := (HBR5.out.set3 0 0 ⟨#[]⟩).cells
        clear r1 r2 r3 fr0 fr1 fr2 d0 d1 fg
        go_wp2
        refine bodyPost_ret (v := .tuple #[.agg #[.int .i64 0, .int .i64 0, .string ⟨#[]⟩], .int .i64 0, .int .i64 1]) (by simp [results, Tryd.results12, go_sem, t0, t1, t2]) rfl ⟨?_, HP.out⟩
        rw [HE.out]
        rfl
    · have e1 : ((e : Int) == 0) = false := by rw [beq_eq_false_iff_ne]; omega
      have e2 : ((e : Int) != 0) = true := by rw [bne_iff_ne]; omega
      have HE := Lib.hid (HT.out.trans (if_pos he))
      clear he
      go_wp2_with fail
      go_region
      have HP := Lib.hid (Below.set3 HB3.out (Nat.le_refl _) (.int .i64 0) (.int .i64 0) (.string ⟨#[]⟩))
      obtain ⟨t0, t1, t2⟩ := (HBR3.out.set3 0 0 ⟨#[]⟩).cells
      clear b1 b2 b3 r1 r2 r3 fr0 fr1 fr2 d0 d1 fg
      go_wp2
      refine bodyPost_ret (v := .tuple #[.agg #[.int .i64 0, .int .i64 0, .string ⟨#[]⟩], .int .i64 0, .int .i64 e]) (by simp [results, Tryd.results12, go_sem, t0, t1, t2]) rfl ⟨?_, HP.out⟩
      rw [HE.out]
      rfl

set_option maxRecDepth 100000 in
set_option maxHeartbeats 4000000 in
theorem fTake_text (x : UInt8) (hx : x = 3) (t : List UInt8) (A : Option Addr) (c : Nat) (w : World) (hl : t.length + 1 ≤ c) (hlen : t.length ≤ 1000000) (hcm : c ≤ maxLen) (hr : Rd w 0 w.heap.size A (x :: t)) :
    Calls Tryd.prog 12 #[.slice A (t.length + 1 : Nat) c] w fun r w' => r = retTake (takeText t) ∧ Below w.heap.size w w' := by
  obtain ⟨bb, o, hA, _, hbb, hc⟩ := hr (by simp)
  subst hA
  have c9 := hc 0 (by simp)
  simp only [List.getElem_cons_zero, Nat.add_zero] at c9
  have HR := Lib.hid hr
  unfold maxLen at hcm
  have hcm' : c ≤ 9223372036854775807 := by omega
  have hsl := slice_tail bb o t.length c hl hcm'
  have hz0 : ((t.length : Int) + 1 == 0) = false := by rw [beq_eq_false_iff_ne]; omega
  obtain ⟨txt, rest, e, hq⟩ : ∃ n rest e, textOfR t 0 64 = (n, rest, e) := ⟨_, _, _, rfl⟩
  have HQ := Lib.hid hq
  have hrl : rest.length ≤ t.length := by
    have : rest = (textOfR t 0 64).2.1 := by rw [hq]
    rw [this]
    simp [textOfR]
  obtain ⟨zs, hzs⟩ : ∃ zs : ByteArray, zs = ⟨txt.toArray⟩ := ⟨_, rfl⟩
  obtain ⟨k, hk⟩ : ∃ k : Int, k = 3 := ⟨_, rfl⟩
  have HT := Lib.hid (show takeText t = endV ⟨k, 0, zs⟩ e (t.length + 1 - rest.length) by unfold takeText; rw [hq, hzs, hk])
  have HZS := Lib.hid hzs
  have k3 : (x.toNat : Int) = k := by rw [hk, hx]; rfl
  rw [k3] at c9
  have hk0 : 0 ≤ k := by omega
  have hk9 : k ≤ 255 := by omega
  have j1 : (k == 1) = false := by rw [hk]; rfl
  have j2 : (k == 2) = false := by rw [hk]; rfl
  have j3 : (k == 3) = true := by rw [hk]; rfl
  clear hc hcm hr hq hk hx hzs k3
  skip
  all_goals
    go_enter Tryd.func12, Tryd.ntmps12
    go_wp2_with fail
    clear hsl
    refine (fRead_any (tailA bb o c) t (c - 1) _ (by omega) (tail_some _ _ _) (tail_rd ((HR.out.below (((Below.refl _ w).alloc (Nat.le_refl _) _).alloc (by simp) _) (Nat.le_refl _)).wide (Nat.le_refl _) (by simp; omega)) hl)).mono ?_
    rintro r w1 ⟨g, rfl, hg, hrd, hb⟩
    have hg2 : w.heap.size + 2 ≤ g := by simpa using hg
    have hf : FRdr w1 (w.heap.size + 2) g t 0 := by simpa using hrd
    have hn := fText_r g (w.heap.size + 2) 0 t 64 w1 hf (by omega) (by omega)
    rw [HQ.out] at hn
    simp only [← HZS.out] at hn
    have HN := Lib.hid hn
    have hbx0 := (Boxed.new _ _ _ _).below hb
    rw [show (w.alloc (.cells #[.int .i64 0, .int .i64 0, .string ⟨#[]⟩] 23)).heap.size = w.heap.size + 1 from by simp] at hbx0
    have HBX := Lib.hid hbx0
    have HBR := Lib.hid (Boxed.below (Boxed.below (Boxed.new w 0 0 ⟨#[]⟩) ((Below.refl _ _).alloc (Nat.le_refl _) _)) hb)
    have HB := Lib.hid ((((Below.refl _ w).alloc (Nat.le_refl _) _).alloc (by simp) _).trans (hb.mono (by simp; omega)))
    have b0 := HBX.out.cells.1
    clear hg hrd hb hf hn hbx0
    go_wp2_with fail
    refine (HN.out).mono ?_
    rintro r w2 ⟨rfl, hrd2, hgr⟩
    have HF2 := Lib.hid hrd2
    have HBX2 := Lib.hid (HBX.out.grown hgr (by intro h; injection h; omega))
    have HBR2 := Lib.hid (HBR.out.grown hgr (by intro h; injection h; omega))
    have HB2 := Lib.hid (HB.out.grown hgr HB.out.size (by intro i hi; injection hi; omega))
    obtain ⟨b1, b2, b3⟩ := HBX2.out.cells
    have f1 := HBX2.out.frozen 2
    clear hrd2 hgr b0 HN HBX HBR HB
    go_upto_region 12 with fail
    obtain ⟨w3, hw3⟩ : ∃ wy, w2.setCell ⟨w.heap.size + 1, 2, none⟩ (.string zs) = wy := ⟨_, rfl⟩
    rw [hw3]
    have hgs : w2.grownBy w3 (some (w.heap.size + 1)) := by rw [← hw3]; exact grown_set _ _ _
    have HBX3 := Lib.hid (show Boxed w3 (w.heap.size + 1) ⟨k, 0, zs⟩ by rw [← hw3]; exact HBX2.out.setS zs)
    have HBR3 := Lib.hid (HBR2.out.grown hgs (by intro h; injection h; omega))
    have HF3 := Lib.hid (HF2.out.apart hgs (by omega) hg2)
    have HB3 := Lib.hid (HB2.out.grown hgs HB2.out.size (by intro i hi; injection hi; omega))
    clear hw3 hgs b1 b2 b3 f1 HF2 HBX2 HBR2 HB2
    obtain ⟨A3, c3, d0, d1, fg⟩ := HF3.out.fields
    obtain ⟨b1, b2, b3⟩ := HBX3.out.cells
    obtain ⟨r1, r2, r3⟩ := HBR3.out.cells
    have fr0 := HBR3.out.frozen 0
    have fr1 := HBR3.out.frozen 1
    have fr2 := HBR3.out.frozen 2
    by_cases he : e = 0
    · subst he
      have HV := Lib.hid (fRight_any ⟨k, 0, zs⟩ w3)
      have HT2 := Lib.hid (HT.out.trans (if_neg (by simp)))
      by_cases hright : rightV ⟨k, 0, zs⟩ = 0
      · have HE := Lib.hid (HT2.out.trans (if_neg (by simpa using hright)))
        have HRI := Lib.hid hright
        clear hright
        go_wp2_with fail
        refine (HV.out).mono ?_
        rw [HRI.out]
        rintro r w4 ⟨rfl, hb4⟩
        have HBX4 := Lib.hid (HBX3.out.below hb4)
        have HBR4 := Lib.hid (HBR3.out.below hb4)
        have HF4 := Lib.hid (HF3.out.below hb4 HF3.out.lt)
        have HB4 := Lib.hid (HB3.out.trans (hb4.mono HB3.out.size))
        clear hb4 b1 b2 b3 r1 r2 r3 fr0 fr1 fr2 d0 d1 fg HF3 HBX3 HBR3 HB3
        obtain ⟨A4, c4, d0, d1, fg⟩ := HF4.out.fields
        obtain ⟨b1, b2, b3⟩ := HBX4.out.cells
        obtain ⟨r1, r2, r3⟩ := HBR4.out.cells
        have fr0 := HBR4.out.frozen 0
        have fr1 := HBR4.out.frozen 1
        have fr2 := HBR4.out.frozen 2
        go_wp2_with fail
        go_region
        have HP := Lib.hid (Below.set3 HB4.out (Nat.le_refl _) (.int .i64 k) (.int .i64 0) (.string zs))
        obtain ⟨t0, t1, t2⟩ := (HBR4.out.set3 k 0 zs).cells
        have hlast : ((t.length + 1 - rest.length : Nat) : Int) = (t.length : Int) + 1 - (rest.length : Int) := by omega
        have HLast := Lib.hid hlast
        clear b1 b2 b3 r1 r2 r3 fr0 fr1 fr2 d0 d1 fg hlast
        go_wp2
        refine bodyPost_ret (v := .tuple #[.agg #[.int .i64 k, .int .i64 0, .string zs], .int .i64 ((t.length : Int) + 1 - (rest.length : Int)), .int .i64 0]) (by simp [results, Tryd.results12, go_sem, t0, t1, t2]) rfl ⟨?_, HP.out⟩
        rw [HE.out, ← HLast.out]
        rfl
      · have HE := Lib.hid (HT2.out.trans (if_pos hright))
        have hrb : (rightV ⟨k, 0, zs⟩ != 0) = true := by simpa using hright
        clear hright
        generalize rightV ⟨k, 0, zs⟩ = er at *
        go_wp2_with fail
        refine (HV.out).mono ?_
        rintro r w4 ⟨rfl, hb4⟩
        have HBR4 := Lib.hid (HBR3.out.below hb4)
        have HF4 := Lib.hid (HF3.out.below hb4 HF3.out.lt)
        have HB4 := Lib.hid (HB3.out.trans (hb4.mono HB3.out.size))
        clear hb4 b1 b2 b3 r1 r2 r3 fr0 fr1 fr2 d0 d1 fg HF3 HBX3 HBR3 HB3
        obtain ⟨A4, c4, d0, d1, fg⟩ := HF4.out.fields
        go_upto_region 14 with fail
        obtain ⟨w5, hw5⟩ : ∃ wy, w4.setCell ⟨g, 1, none⟩ (.int .i64 1) = wy := ⟨_, rfl⟩
        rw [hw5]
        have hgs : w4.grownBy w5 (some g) := by rw [← hw5]; exact grown_set _ _ _
        have HBR5 := Lib.hid (HBR4.out.grown hgs (by intro h; injection h; omega))
        have HF5 := Lib.hid (show FRdr w5 (w.heap.size + 2) g rest 1 by rw [← hw5]; exact HF4.out.err 1)
        have HB5 := Lib.hid (HB4.out.grown hgs HB4.out.size (by intro i hi; injection hi; omega))
        clear hw5 hgs d0 d1 fg HF4 HBR4 HB4
        obtain ⟨A5, c5, d0, d1, fg⟩ := HF5.out.fields
        obtain ⟨r1, r2, r3⟩ := HBR5.out.cells
        have fr0 := HBR5.out.frozen 0
        have fr1 := HBR5.out.frozen 1
        have fr2 := HBR5.out.frozen 2
        go_wp2_with fail
        go_region
        have HP := Lib.hid (Below.set3 HB5.out (Nat.le_refl _) (.int .i64 0) (.int .i64 0) (.string ⟨#[]⟩))
        obtain ⟨t0, t1, t2⟩ := (HBR5.out.set3 0 0 ⟨#[]⟩).cells
        clear r1 r2 r3 fr0 fr1 fr2 d0 d1 fg
        go_wp2
        refine bodyPost_ret (v := .tuple #[.agg #[.int .i64 0, .int .i64 0, .string ⟨#[]⟩], .int .i64 0, .int .i64 1]) (by simp [results, Tryd.results12, go_sem, t0, t1, t2]) rfl ⟨?_, HP.out⟩
        rw [HE.out]
        rfl
    · have e1 : ((e : Int) == 0) = false := by rw [beq_eq_false_iff_ne]; omega
      have e2 : ((e : Int) != 0) = true := by rw [bne_iff_ne]; omega
      have HE := Lib.hid (HT.out.trans (if_pos he))
      clear he
      go_wp2_with fail
      go_region
      have HP := Lib.hid (Below.set3 HB3.out (Nat.le_refl _) (.int .i64 0) (.int .i64 0) (.string ⟨#[]⟩))
      obtain ⟨t0, t1, t2⟩ := (HBR3.out.set3 0 0 ⟨#[]⟩).cells
      clear b1 b2 b3 r1 r2 r3 fr0 fr1 fr2 d0 d1 fg
      go_wp2
      refine bodyPost_ret (v := .tuple #[.agg #[.int .i64 0, .int .i64 0, .string ⟨#[]⟩], .int .i64 0, .int .i64 e]) (by simp [results, Tryd.results12, go_sem, t0, t1, t2]) rfl ⟨?_, HP.out⟩
      rw [HE.out]
      rfl

set_option maxRecDepth 100000 in
set_option maxHeartbeats 1000000 in
theorem fTake_other (x : UInt8) (hx : x ≠ 1 ∧ x ≠ 2 ∧ x ≠ 3) (t : List UInt8) (A : Option Addr) (c : Nat) (w : World) (hl : t.length + 1 ≤ c) (hlen : t.length ≤ 1000000) (hcm : c ≤ maxLen) (hr : Rd w 0 w.heap.size A (x :: t)) :
    Calls Tryd.prog 12 #[.slice A (t.length + 1 : Nat) c] w fun r w' => r = retTake (V0, 0, 40) ∧ Below w.heap.size w w' := by
  obtain ⟨bb, o, hA, _, hbb, hc⟩ := hr (by simp)
  subst hA
  have c9 := hc 0 (by simp)
  simp only [List.getElem_cons_zero, Nat.add_zero] at c9
  have HR := Lib.hid hr
  unfold maxLen at hcm
  have hcm' : c ≤ 9223372036854775807 := by omega
  have hsl := slice_tail bb o t.length c hl hcm'
  have hz0 : ((t.length : Int) + 1 == 0) = false := by rw [beq_eq_false_iff_ne]; omega
  have hx9 := x.toNat_lt
  obtain ⟨k, hk⟩ : ∃ k : Int, k = (x.toNat : Int) := ⟨_, rfl⟩
  rw [← hk] at c9
  have hk0 : 0 ≤ k := by omega
  have hk9 : k ≤ 255 := by omega
  have j1 : (k == 1) = false := by rw [hk]; exact v8_ne (n := 1) (by omega) hx.1
  have j2 : (k == 2) = false := by rw [hk]; exact v8_ne (n := 2) (by omega) hx.2.1
  have j3 : (k == 3) = false := by rw [hk]; exact v8_ne (n := 3) (by omega) hx.2.2
  clear hc hcm hr hk hx hx9
  go_enter Tryd.func12, Tryd.ntmps12
  go_wp2_with fail
  clear hsl
  refine (fRead_any (tailA bb o c) t (c - 1) _ (by omega) (tail_some _ _ _) (tail_rd ((HR.out.below (((Below.refl _ w).alloc (Nat.le_refl _) _).alloc (by simp) _) (Nat.le_refl _)).wide (Nat.le_refl _) (by simp; omega)) hl)).mono ?_
  rintro r w1 ⟨g, rfl, hg, hrd, hb⟩
  have hbx0 := (Boxed.new _ _ _ _).below hb
  rw [show (w.alloc (.cells #[.int .i64 0, .int .i64 0, .string ⟨#[]⟩] 23)).heap.size = w.heap.size + 1 from by simp] at hbx0
  have HBX := Lib.hid hbx0
  have HBR := Lib.hid (Boxed.below (Boxed.below (Boxed.new w 0 0 ⟨#[]⟩) ((Below.refl _ _).alloc (Nat.le_refl _) _)) hb)
  have HB := Lib.hid ((((Below.refl _ w).alloc (Nat.le_refl _) _).alloc (by simp) _).trans (hb.mono (by simp; omega)))
  have b0 := HBX.out.cells.1
  obtain ⟨r1, r2, r3⟩ := HBR.out.cells
  have fr0 := HBR.out.frozen 0
  have fr1 := HBR.out.frozen 1
  have fr2 := HBR.out.frozen 2
  clear hg hrd hb hbx0
  go_wp2_with fail
  have HP := Lib.hid (Below.set3' HB.out (Nat.le_refl _) (.int .i64 0) (.int .i64 0) (.string ⟨#[]⟩))
  obtain ⟨t0, t1, t2⟩ := (HBR.out.set3' 0 0 ⟨#[]⟩).cells
  clear b0 r1 r2 r3 fr0 fr1 fr2
  exact bodyPost_ret (v := .tuple #[.agg #[.int .i64 0, .int .i64 0, .string ⟨#[]⟩], .int .i64 0, .int .i64 40]) (by simp [results, Tryd.results12, go_sem, t0, t1, t2]) rfl ⟨rfl, HP.out⟩

theorem fTake_any (b : List UInt8) (A : Option Addr) (c : Nat) (w : World) (hl : b.length ≤ c) (hlen : b.length ≤ 1000000) (hcm : c ≤ maxLen) (hr : Rd w 0 w.heap.size A b) :
    Calls Tryd.prog 12 #[.slice A b.length c] w fun r w' => r = retTake (takeV b) ∧ Below w.heap.size w w' := by
  cases b with
  | nil => exact fTake_nil A c w
  | cons x t =>
    rw [List.length_cons] at hl hlen
    rw [takeV_cons]
    by_cases h : x = 1 ∨ x = 2
    · rw [if_pos h]
      exact fTake_num x h t A c w hl (by omega) hcm hr
    · rw [if_neg h]
      by_cases h3 : x = 3
      · rw [if_pos h3]
        exact fTake_text x h3 t A c w hl (by omega) hcm hr
      · rw [if_neg h3]
        exact fTake_other x ⟨fun e => h (.inl e), fun e => h (.inr e), h3⟩ t A c w hl (by omega) hcm hr
end Go.Proofs.YtepniiaojhiogaaDoor
