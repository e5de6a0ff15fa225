/-
  Package value: Take.
-/
import Derived.Test.YtepniiaojhiogaaDoorVDR
import Derived.Test.YtepniiaojhiogaaDoorLive
import Derived.RegionTactic
import Derived.IntWalk
namespace Go.Proofs.YtepniiaojhiogaaDoor
open Go.RowKit

theorem Rdr.apart {w w' : World} {lo g e b : Nat} {l : List UInt8} (h : Rdr w lo g l e) (hgr : w.grownBy w' (some b)) (hlo : lo ≤ g) (hb : b < lo ∨ g < b) : Rdr w' lo g l e := by
  have hlt := h.lt
  obtain ⟨A, c, hh, h1, h2, h3, h4⟩ := h
  exact ⟨A, c, (hgr.block g hlt (fun e => by injection e with e; omega)).trans hh, h1, h2, h3, h4.grown hgr (by omega) (fun i hi => by injection hi with hi; omega)⟩

/-- What a value and an error are told as. -/
def endW (v : V) (e : Nat) (n : Nat) : V × Nat × Int := if e ≠ 0 then (V0, 0, (e : Int)) else if rightV v ≠ 0 then (V0, 0, rightV v) else (v, n, 0)
theorem right_rng {v : V} (hk : v.k = 1 ∨ v.k = 2 ∨ v.k = 3) (hs : v.k = 3 → v.s.size ≤ 64) (hr : rightV v ≠ 0) : rightV v = 1 := by
  unfold rightV at *
  rw [if_neg (by omega)] at hr ⊢
  rw [if_neg (by omega)] at hr ⊢
  split at hr
  · next h => rw [if_pos h]
  · exact absurd rfl hr
theorem endW_V {v : V} {e n : Nat} (hk : v.k = 1 ∨ v.k = 2 ∨ v.k = 3) (hs : v.k = 3 → v.s.size ≤ 64) : endV v e n = endW v e n := by
  unfold endV endW
  split
  · rfl
  · split
    · next h => rw [right_rng hk hs h]
    · rfl

theorem textR_64 (t : List UInt8) : (⟨(textOfR t 0 64).1.toArray⟩ : ByteArray).size ≤ 64 := by
  have e : (⟨(textOfR t 0 64).1.toArray⟩ : ByteArray).size = (textOf t 64).1.length := by simp [textOfR, ByteArray.size]
  rw [e]
  unfold textOf
  obtain ⟨n, s, e, hq, hbad, hok⟩ := numOf_nat t (64 : Int).toNat
  simp only [hq]
  split
  · simp
  · next h =>
    split
    · simp
    · split
      · simp
      · have := (hok (by simpa using h)).2.2
        have h64 : (64 : Int).toNat = 64 := rfl
        simp only [List.length_take]
        omega

set_option maxRecDepth 100000 in
set_option maxHeartbeats 4000000 in
theorem vTake_num (x : UInt8) (hx : x = 1 ∨ x = 2) (t : List UInt8) (A : Option Addr) (c : Nat) (w : World) (hl : t.length + 1 ≤ c) (hlen : t.length ≤ 1000000) (hcm : c ≤ maxLen) (hr : Rd w 0 w.heap.size A (x :: t)) :
    Calls Tryd.prog 11 #[.slice A (t.length + 1 : Nat) c] w fun r w' => r = retTake (takeNum x t) ∧ Below w.heap.size w w' := by
  have HR := Lib.hid hr
  have hz : A = none → c = 0 := fun h => by
    obtain ⟨bb, o, hA, _⟩ := hr (by simp)
    rw [h] at hA; cases hA
  have hb0 := box_below w #[.int .i64 0, .int .i64 0, .string ⟨#[]⟩] 23
  have hread := read_any A (x :: t) c (w.alloc (.cells #[.int .i64 0, .int .i64 0, .string ⟨#[]⟩] 23)) (by rw [List.length_cons]; omega) hz ((hr.below hb0 (Nat.le_refl _)).wide (Nat.le_refl _) hb0.size)
  rw [List.length_cons] at hread
  have HRead := Lib.hid hread
  have HX0 := Lib.hid (Boxed.new w 0 0 ⟨#[]⟩)
  have HB0 := Lib.hid hb0
  obtain ⟨k, hk⟩ : ∃ k : Int, k = (x.toNat : Int) := ⟨_, rfl⟩
  have HKX := Lib.hid hk
  have hk0 : 0 ≤ k := by omega
  have hk9 : k ≤ 255 := by have := x.toNat_lt; omega
  unfold maxLen at hcm
  have hlast : ((t.length : Int) + 1).toNat = t.length + 1 := by omega
  clear hread hb0 hr hz hlast
  obtain ⟨n, rest, e, hq⟩ : ∃ n rest e, uintOf t 0 maxU = (n, rest, e) := ⟨_, _, _, rfl⟩
  have HQ := Lib.hid hq
  have hrl : rest.length ≤ t.length := by
    have : rest = (uintOf t 0 maxU).2.1 := by rw [hq]
    rw [this]
    simp [uintOf]
  have kx : k = 1 ∨ k = 2 := by rw [hk]; rcases hx with rfl | rfl <;> simp
  have HT := Lib.hid (show takeNum x t = endW ⟨k, zag n, ⟨#[]⟩⟩ e (t.length + 1 - rest.length) by
    rw [← endW_V (by show k = 1 ∨ k = 2 ∨ k = 3; omega) (by show k = 3 → _; omega)]
    unfold takeNum
    rw [hq, hk])
  have key : ((k == 1) = true ∧ True) ∨ ((k == 1) = false ∧ (k == 2) = true) := by rcases kx with rfl | rfl <;> simp
  clear hk kx hq hx
  go_enter Tryd.func11, Tryd.ntmps11
  go_wp2_with fail
  refine HRead.out.mono ?_
  rintro r w1 ⟨g, rfl, hg, hrd, hb⟩
  have hg1 : w.heap.size + 1 ≤ g := by simpa using hg
  have hf : Rdr w1 (w.heap.size + 1) g (x :: t) 0 := by simpa using hrd
  have hby := rByte_any g (w.heap.size + 1) 0 (x :: t) w1 hf
  have HBy : Hid (Calls Tryd.prog 31 #[.pointer (some ⟨g, 0, none⟩)] w1 (Told (.int .u8 k) (w.heap.size + 1) g t 0 w1)) := Lib.hid (by rw [HKX.out]; exact hby)
  have HX1 := Lib.hid (HX0.out.below hb)
  have HB1 := Lib.hid (HB0.out.trans (hb.mono HB0.out.size))
  clear hg hrd hb hf hby HX0 HB0 HRead
  go_wp2_with fail
  refine HBy.out.mono ?_
  rintro r w2 ⟨rfl, hrd2, hgr⟩
  have hb3 := box_below w2 #[.int .i64 k, .int .i64 0, .string ⟨#[]⟩] 23
  have HX2 := Lib.hid (HX1.out.grown hgr (by intro h; injection h; omega))
  have HB2 := Lib.hid (HB1.out.grown hgr HB1.out.size (by intro i hi; injection hi; omega))
  have hx3 := Boxed.new w2 k 0 ⟨#[]⟩
  have hgv : g < w2.heap.size := hrd2.lt
  have HF2 := Lib.hid hrd2
  clear hrd2 hgr HX1 HB1 HBy
  go_upto_region 3 with fail
  obtain ⟨w3, hw3⟩ : ∃ wy, w2.alloc (.cells #[.int .i64 k, .int .i64 0, .string ⟨#[]⟩] 23) = wy := ⟨_, rfl⟩
  rw [hw3] at hb3 hx3 ⊢
  have HX3 := Lib.hid (HX2.out.below hb3)
  have HF3 := Lib.hid (HF2.out.below hb3 HF2.out.lt)
  have HB3 := Lib.hid (HB2.out.trans (hb3.mono HB2.out.size))
  have HV3 := Lib.hid hx3
  generalize w2.heap.size = gv at *
  clear hb3 hx3 hw3 HX2 HF2 HB2
  have hn := rInt_any g (w.heap.size + 1) 0 t w3 HF3.out
  rw [HQ.out] at hn
  have HN := Lib.hid hn
  clear hn
  generalize zag n = zn at *
  go_upto_region 5 with (go_at_call 32; refine (err_any g (w.heap.size + 1) 0 t w3 HF3.out).mono ?_; rintro r w' ⟨rfl, rfl⟩; obtain ⟨v0, v1, v2⟩ := HV3.out.cells)
  rcases key with ⟨j1, j2⟩ | ⟨j1, j2⟩
  all_goals
    obtain ⟨v0, v1, v2⟩ := HV3.out.cells
    go_wp2_with fail
    refine HN.out.mono ?_
    rintro r w4 ⟨rfl, hrd4, hgr4⟩
    have HF4 := Lib.hid hrd4
    have HX4 := Lib.hid (HX3.out.grown hgr4 (by intro h; injection h; omega))
    have HV4 := Lib.hid (HV3.out.grown hgr4 (by intro h; injection h; omega))
    have HB4 := Lib.hid (HB3.out.grown hgr4 HB3.out.size (by intro i hi; injection hi; omega))
    obtain ⟨v0, v1, v2⟩ := HV4.out.cells
    have f1 := HV4.out.frozen 1
    clear hrd4 hgr4
    go_upto_region 11 with fail
    obtain ⟨w5, hw5⟩ : ∃ wy, w4.setCell ⟨gv, 1, none⟩ (.int .i64 zn) = wy := ⟨_, rfl⟩
    rw [hw5]
    have hgs : w4.grownBy w5 (some gv) := by rw [← hw5]; exact grown_set _ _ _
    have HV5 := Lib.hid (show Boxed w5 gv ⟨k, zn, ⟨#[]⟩⟩ by rw [← hw5]; exact HV4.out.setN zn)
    have HX5 := Lib.hid (HX4.out.grown hgs (by intro h; injection h; omega))
    have HF5 := Lib.hid (HF4.out.apart hgs hg1 (.inr hgv))
    have HB5 := Lib.hid (HB4.out.grown hgs HB4.out.size (by intro i hi; injection hi; omega))
    clear hw5 hgs f1 v0 v1 v2 HF4 HX4 HV4 HB4
    have HErr := Lib.hid (err_any g (w.heap.size + 1) e rest w5 HF5.out)
    have HTake := Lib.hid HT.out
    go_wp2_with fail
    refine HErr.out.mono ?_
    rintro r w' ⟨rfl, rfl⟩
    by_cases he : e = 0
    · have HRi := Lib.hid (vRight_any ⟨k, zn, ⟨#[]⟩⟩ w5)
      have HT2 := Lib.hid (HT.out.trans (if_neg (by rw [he]; simp)))
      have e1 : ((e : Int) == 0) = true := by rw [he]; rfl
      obtain ⟨v0, v1, v2⟩ := HV5.out.cells
      clear he
      go_wp2_with fail
      refine HRi.out.mono ?_
      rintro r w6 ⟨rfl, hb6⟩
      have HX6 := Lib.hid (HX5.out.below hb6)
      have HV6 := Lib.hid (HV5.out.below hb6)
      have HF6 := Lib.hid (HF5.out.below hb6 HF5.out.lt)
      have HB6 := Lib.hid (HB5.out.trans (hb6.mono HB5.out.size))
      obtain ⟨r0, r1, r2⟩ := HX6.out.cells
      have f0 := HX6.out.frozen 0
      have f1 := HX6.out.frozen 1
      have f2 := HX6.out.frozen 2
      obtain ⟨v0, v1, v2⟩ := HV6.out.cells
      clear hb6
      by_cases hright : rightV ⟨k, zn, ⟨#[]⟩⟩ = 0
      · have HE := Lib.hid (HT2.out.trans (if_neg (by rw [hright]; simp)))
        have hrb : (rightV ⟨k, zn, ⟨#[]⟩⟩ != 0) = false := by rw [hright]; rfl
        clear hright HRi HErr
        generalize rightV ⟨k, zn, ⟨#[]⟩⟩ = er at *
        have hll : ((t.length + 1 - rest.length : Nat) : Int) = (t.length : Int) + 1 - (rest.length : Int) := by omega
        have HLL := Lib.hid hll
        have hwr : IntKind.i64.wrap ((t.length : Int) + 1 - (rest.length : Int)) = (t.length : Int) + 1 - (rest.length : Int) := IntWalk.i64_in _ (by omega)
        clear hll
        have HLeft := Lib.hid (left_any g (w.heap.size + 1) e rest w6.drew HF6.out)
        have HP := Lib.hid (Below.set3 HB6.out (Nat.le_refl _) (.int .i64 k) (.int .i64 (zn)) (.string ⟨#[]⟩))
        obtain ⟨t0, t1, t2⟩ := (HX6.out.set3 (k) (zn) (⟨#[]⟩)).cells
        have HTT := Lib.hid (And.intro t0 (And.intro t1 t2))
        clear t0 t1 t2
        go_wp2_with fail
        go_region_with (go_at_call 35; refine HLeft.out.mono ?_; rintro r w' ⟨rfl, rfl⟩)
        all_goals
          go_wp2_with fail
          obtain ⟨t0, t1, t2⟩ := HTT.out
          refine bodyPost_ret (v := .tuple #[.agg #[.int .i64 k, .int .i64 (zn), .string ⟨#[]⟩], .int .i64 ((t.length : Int) + 1 - (rest.length : Int)), .int .i64 0]) (by simp [results, Tryd.results11, go_sem, t0, t1, t2, hwr]) rfl ⟨?_, HP.out⟩
          rw [HE.out, ← HLL.out]
          rfl
      · have HE := Lib.hid (HT2.out.trans (if_pos hright))
        have hrb : (rightV ⟨k, zn, ⟨#[]⟩⟩ != 0) = true := by rw [bne_iff_ne]; exact hright
        clear hright HRi HErr
        generalize rightV ⟨k, zn, ⟨#[]⟩⟩ = er at *
        go_wp2_with fail
        obtain ⟨t0, t1, t2⟩ := (HX6.out.set3' 0 0 ⟨#[]⟩).cells
        have HP := Lib.hid (Below.set3' HB6.out (Nat.le_refl _) (.int .i64 0) (.int .i64 0) (.string ⟨#[]⟩))
        refine bodyPost_ret (v := .tuple #[.agg #[.int .i64 0, .int .i64 0, .string ⟨#[]⟩], .int .i64 0, .int .i64 er]) (by simp [results, Tryd.results11, go_sem, t0, t1, t2]) rfl ⟨?_, HP.out⟩
        rw [HE.out]
        rfl
    · have HE := Lib.hid (HT.out.trans (if_pos he))
      have e1 : ((e : Int) == 0) = false := by rw [beq_eq_false_iff_ne]; omega
      have e2 : ((e : Int) != 0) = true := by rw [bne_iff_ne]; omega
      obtain ⟨r0, r1, r2⟩ := HX5.out.cells
      have f0 := HX5.out.frozen 0
      have f1 := HX5.out.frozen 1
      have f2 := HX5.out.frozen 2
      clear he HErr
      go_wp2_with fail
      obtain ⟨t0, t1, t2⟩ := (HX5.out.set3' 0 0 ⟨#[]⟩).cells
      have HP := Lib.hid (Below.set3' HB5.out (Nat.le_refl _) (.int .i64 0) (.int .i64 0) (.string ⟨#[]⟩))
      refine bodyPost_ret (v := .tuple #[.agg #[.int .i64 0, .int .i64 0, .string ⟨#[]⟩], .int .i64 0, .int .i64 e]) (by simp [results, Tryd.results11, go_sem, t0, t1, t2]) rfl ⟨?_, HP.out⟩
      rw [HE.out]
      rfl

set_option maxRecDepth 100000 in
set_option maxHeartbeats 4000000 in
theorem vTake_text (x : UInt8) (hx : x = 3) (t : List UInt8) (A : Option Addr) (c : Nat) (w : World) (hl : t.length + 1 ≤ c) (hlen : t.length ≤ 1000000) (hcm : c ≤ maxLen) (hr : Rd w 0 w.heap.size A (x :: t)) :
    Calls Tryd.prog 11 #[.slice A (t.length + 1 : Nat) c] w fun r w' => r = retTake (takeText t) ∧ Below w.heap.size w w' := by
  have HR := Lib.hid hr
  have hz : A = none → c = 0 := fun h => by
    obtain ⟨bb, o, hA, _⟩ := hr (by simp)
    rw [h] at hA; cases hA
  have hb0 := box_below w #[.int .i64 0, .int .i64 0, .string ⟨#[]⟩] 23
  have hread := read_any A (x :: t) c (w.alloc (.cells #[.int .i64 0, .int .i64 0, .string ⟨#[]⟩] 23)) (by rw [List.length_cons]; omega) hz ((hr.below hb0 (Nat.le_refl _)).wide (Nat.le_refl _) hb0.size)
  rw [List.length_cons] at hread
  have HRead := Lib.hid hread
  have HX0 := Lib.hid (Boxed.new w 0 0 ⟨#[]⟩)
  have HB0 := Lib.hid hb0
  obtain ⟨k, hk⟩ : ∃ k : Int, k = (x.toNat : Int) := ⟨_, rfl⟩
  have HKX := Lib.hid hk
  have hk0 : 0 ≤ k := by omega
  have hk9 : k ≤ 255 := by have := x.toNat_lt; omega
  unfold maxLen at hcm
  have hlast : ((t.length : Int) + 1).toNat = t.length + 1 := by omega
  clear hread hb0 hr hz hlast
  obtain ⟨txt, rest, e, hq⟩ : ∃ n rest e, textOfR t 0 64 = (n, rest, e) := ⟨_, _, _, rfl⟩
  have HQ := Lib.hid hq
  have hrl : rest.length ≤ t.length := by
    have : rest = (textOfR t 0 64).2.1 := by rw [hq]
    rw [this]
    simp [textOfR]
  obtain ⟨zs, hzs⟩ : ∃ zs : ByteArray, zs = ⟨txt.toArray⟩ := ⟨_, rfl⟩
  have hsz : zs.size ≤ 64 := by
    rw [hzs]
    have : txt = (textOfR t 0 64).1 := by rw [hq]
    rw [this]
    exact textR_64 t
  have kx : k = 3 := by rw [hk, hx]; rfl
  have HT := Lib.hid (show takeText t = endW ⟨k, 0, zs⟩ e (t.length + 1 - rest.length) by
    rw [← endW_V (by show k = 1 ∨ k = 2 ∨ k = 3; omega) (fun _ => hsz)]
    unfold takeText
    rw [hq, kx, hzs])
  have HZS := Lib.hid hzs
  have j1 : (k == 1) = false := by rw [kx]; rfl
  have j2 : (k == 2) = false := by rw [kx]; rfl
  have j3 : (k == 3) = true := by rw [kx]; rfl
  clear hk kx hq hx hsz hzs
  go_enter Tryd.func11, Tryd.ntmps11
  go_wp2_with fail
  refine HRead.out.mono ?_
  rintro r w1 ⟨g, rfl, hg, hrd, hb⟩
  have hg1 : w.heap.size + 1 ≤ g := by simpa using hg
  have hf : Rdr w1 (w.heap.size + 1) g (x :: t) 0 := by simpa using hrd
  have hby := rByte_any g (w.heap.size + 1) 0 (x :: t) w1 hf
  have HBy : Hid (Calls Tryd.prog 31 #[.pointer (some ⟨g, 0, none⟩)] w1 (Told (.int .u8 k) (w.heap.size + 1) g t 0 w1)) := Lib.hid (by rw [HKX.out]; exact hby)
  have HX1 := Lib.hid (HX0.out.below hb)
  have HB1 := Lib.hid (HB0.out.trans (hb.mono HB0.out.size))
  clear hg hrd hb hf hby HX0 HB0 HRead
  go_wp2_with fail
  refine HBy.out.mono ?_
  rintro r w2 ⟨rfl, hrd2, hgr⟩
  have hb3 := box_below w2 #[.int .i64 k, .int .i64 0, .string ⟨#[]⟩] 23
  have HX2 := Lib.hid (HX1.out.grown hgr (by intro h; injection h; omega))
  have HB2 := Lib.hid (HB1.out.grown hgr HB1.out.size (by intro i hi; injection hi; omega))
  have hx3 := Boxed.new w2 k 0 ⟨#[]⟩
  have hgv : g < w2.heap.size := hrd2.lt
  have HF2 := Lib.hid hrd2
  clear hrd2 hgr HX1 HB1 HBy
  go_upto_region 3 with fail
  obtain ⟨w3, hw3⟩ : ∃ wy, w2.alloc (.cells #[.int .i64 k, .int .i64 0, .string ⟨#[]⟩] 23) = wy := ⟨_, rfl⟩
  rw [hw3] at hb3 hx3 ⊢
  have HX3 := Lib.hid (HX2.out.below hb3)
  have HF3 := Lib.hid (HF2.out.below hb3 HF2.out.lt)
  have HB3 := Lib.hid (HB2.out.trans (hb3.mono HB2.out.size))
  have HV3 := Lib.hid hx3
  generalize w2.heap.size = gv at *
  clear hb3 hx3 hw3 HX2 HF2 HB2
  have hn := rText_any g (w.heap.size + 1) 0 t 64 w3 HF3.out (by omega) (by omega)
  rw [HQ.out] at hn
  simp only [← HZS.out] at hn
  have HN := Lib.hid hn
  clear hn
  go_upto_region 5 with (go_at_call 32; refine (err_any g (w.heap.size + 1) 0 t w3 HF3.out).mono ?_; rintro r w' ⟨rfl, rfl⟩; obtain ⟨v0, v1, v2⟩ := HV3.out.cells)
  skip
  all_goals
    obtain ⟨v0, v1, v2⟩ := HV3.out.cells
    go_wp2_with fail
    refine HN.out.mono ?_
    rintro r w4 ⟨rfl, hrd4, hgr4⟩
    have HF4 := Lib.hid hrd4
    have HX4 := Lib.hid (HX3.out.grown hgr4 (by intro h; injection h; omega))
    have HV4 := Lib.hid (HV3.out.grown hgr4 (by intro h; injection h; omega))
    have HB4 := Lib.hid (HB3.out.grown hgr4 HB3.out.size (by intro i hi; injection hi; omega))
    obtain ⟨v0, v1, v2⟩ := HV4.out.cells
    have f1 := HV4.out.frozen 2
    clear hrd4 hgr4
    go_upto_region 11 with fail
    obtain ⟨w5, hw5⟩ : ∃ wy, w4.setCell ⟨gv, 2, none⟩ (.string zs) = wy := ⟨_, rfl⟩
    rw [hw5]
    have hgs : w4.grownBy w5 (some gv) := by rw [← hw5]; exact grown_set _ _ _
    have HV5 := Lib.hid (show Boxed w5 gv ⟨k, 0, zs⟩ by rw [← hw5]; exact HV4.out.setS zs)
    have HX5 := Lib.hid (HX4.out.grown hgs (by intro h; injection h; omega))
    have HF5 := Lib.hid (HF4.out.apart hgs hg1 (.inr hgv))
    have HB5 := Lib.hid (HB4.out.grown hgs HB4.out.size (by intro i hi; injection hi; omega))
    clear hw5 hgs f1 v0 v1 v2 HF4 HX4 HV4 HB4
    have HErr := Lib.hid (err_any g (w.heap.size + 1) e rest w5 HF5.out)
    have HTake := Lib.hid HT.out
    go_wp2_with fail
    refine HErr.out.mono ?_
    rintro r w' ⟨rfl, rfl⟩
    by_cases he : e = 0
    · have HRi := Lib.hid (vRight_any ⟨k, 0, zs⟩ w5)
      have HT2 := Lib.hid (HT.out.trans (if_neg (by rw [he]; simp)))
      have e1 : ((e : Int) == 0) = true := by rw [he]; rfl
      obtain ⟨v0, v1, v2⟩ := HV5.out.cells
      clear he
      go_wp2_with fail
      refine HRi.out.mono ?_
      rintro r w6 ⟨rfl, hb6⟩
      have HX6 := Lib.hid (HX5.out.below hb6)
      have HV6 := Lib.hid (HV5.out.below hb6)
      have HF6 := Lib.hid (HF5.out.below hb6 HF5.out.lt)
      have HB6 := Lib.hid (HB5.out.trans (hb6.mono HB5.out.size))
      obtain ⟨r0, r1, r2⟩ := HX6.out.cells
      have f0 := HX6.out.frozen 0
      have f1 := HX6.out.frozen 1
      have f2 := HX6.out.frozen 2
      obtain ⟨v0, v1, v2⟩ := HV6.out.cells
      clear hb6
      by_cases hright : rightV ⟨k, 0, zs⟩ = 0
      · have HE := Lib.hid (HT2.out.trans (if_neg (by rw [hright]; simp)))
        have hrb : (rightV ⟨k, 0, zs⟩ != 0) = false := by rw [hright]; rfl
        clear hright HRi HErr
        generalize rightV ⟨k, 0, zs⟩ = er at *
        have hll : ((t.length + 1 - rest.length : Nat) : Int) = (t.length : Int) + 1 - (rest.length : Int) := by omega
        have HLL := Lib.hid hll
        have hwr : IntKind.i64.wrap ((t.length : Int) + 1 - (rest.length : Int)) = (t.length : Int) + 1 - (rest.length : Int) := IntWalk.i64_in _ (by omega)
        clear hll
        have HLeft := Lib.hid (left_any g (w.heap.size + 1) e rest w6.drew HF6.out)
        have HP := Lib.hid (Below.set3 HB6.out (Nat.le_refl _) (.int .i64 k) (.int .i64 (0)) (.string zs))
        obtain ⟨t0, t1, t2⟩ := (HX6.out.set3 (k) (0) (zs)).cells
        have HTT := Lib.hid (And.intro t0 (And.intro t1 t2))
        clear t0 t1 t2
        go_wp2_with fail
        go_region_with (go_at_call 35; refine HLeft.out.mono ?_; rintro r w' ⟨rfl, rfl⟩)
        all_goals
          go_wp2_with fail
          obtain ⟨t0, t1, t2⟩ := HTT.out
          refine bodyPost_ret (v := .tuple #[.agg #[.int .i64 k, .int .i64 (0), .string zs], .int .i64 ((t.length : Int) + 1 - (rest.length : Int)), .int .i64 0]) (by simp [results, Tryd.results11, go_sem, t0, t1, t2, hwr]) rfl ⟨?_, HP.out⟩
          rw [HE.out, ← HLL.out]
          rfl
      · have HE := Lib.hid (HT2.out.trans (if_pos hright))
        have hrb : (rightV ⟨k, 0, zs⟩ != 0) = true := by rw [bne_iff_ne]; exact hright
        clear hright HRi HErr
        generalize rightV ⟨k, 0, zs⟩ = er at *
        go_wp2_with fail
        obtain ⟨t0, t1, t2⟩ := (HX6.out.set3' 0 0 ⟨#[]⟩).cells
        have HP := Lib.hid (Below.set3' HB6.out (Nat.le_refl _) (.int .i64 0) (.int .i64 0) (.string ⟨#[]⟩))
        refine bodyPost_ret (v := .tuple #[.agg #[.int .i64 0, .int .i64 0, .string ⟨#[]⟩], .int .i64 0, .int .i64 er]) (by simp [results, Tryd.results11, go_sem, t0, t1, t2]) rfl ⟨?_, HP.out⟩
        rw [HE.out]
        rfl
    · have HE := Lib.hid (HT.out.trans (if_pos he))
      have e1 : ((e : Int) == 0) = false := by rw [beq_eq_false_iff_ne]; omega
      have e2 : ((e : Int) != 0) = true := by rw [bne_iff_ne]; omega
      obtain ⟨r0, r1, r2⟩ := HX5.out.cells
      have f0 := HX5.out.frozen 0
      have f1 := HX5.out.frozen 1
      have f2 := HX5.out.frozen 2
      clear he HErr
      go_wp2_with fail
      obtain ⟨t0, t1, t2⟩ := (HX5.out.set3' 0 0 ⟨#[]⟩).cells
      have HP := Lib.hid (Below.set3' HB5.out (Nat.le_refl _) (.int .i64 0) (.int .i64 0) (.string ⟨#[]⟩))
      refine bodyPost_ret (v := .tuple #[.agg #[.int .i64 0, .int .i64 0, .string ⟨#[]⟩], .int .i64 0, .int .i64 e]) (by simp [results, Tryd.results11, go_sem, t0, t1, t2]) rfl ⟨?_, HP.out⟩
      rw [HE.out]
      rfl

set_option maxRecDepth 100000 in
set_option maxHeartbeats 4000000 in
theorem vTake_other (x : UInt8) (hx : x ≠ 1 ∧ x ≠ 2 ∧ x ≠ 3) (t : List UInt8) (A : Option Addr) (c : Nat) (w : World) (hl : t.length + 1 ≤ c) (hlen : t.length ≤ 1000000) (hcm : c ≤ maxLen) (hr : Rd w 0 w.heap.size A (x :: t)) :
    Calls Tryd.prog 11 #[.slice A (t.length + 1 : Nat) c] w fun r w' => r = retTake (V0, 0, 40) ∧ Below w.heap.size w w' := by
  have HR := Lib.hid hr
  have hz : A = none → c = 0 := fun h => by
    obtain ⟨bb, o, hA, _⟩ := hr (by simp)
    rw [h] at hA; cases hA
  have hb0 := box_below w #[.int .i64 0, .int .i64 0, .string ⟨#[]⟩] 23
  have hread := read_any A (x :: t) c (w.alloc (.cells #[.int .i64 0, .int .i64 0, .string ⟨#[]⟩] 23)) (by rw [List.length_cons]; omega) hz ((hr.below hb0 (Nat.le_refl _)).wide (Nat.le_refl _) hb0.size)
  rw [List.length_cons] at hread
  have HRead := Lib.hid hread
  have HX0 := Lib.hid (Boxed.new w 0 0 ⟨#[]⟩)
  have HB0 := Lib.hid hb0
  obtain ⟨k, hk⟩ : ∃ k : Int, k = (x.toNat : Int) := ⟨_, rfl⟩
  have HKX := Lib.hid hk
  have hk0 : 0 ≤ k := by omega
  have hk9 : k ≤ 255 := by have := x.toNat_lt; omega
  unfold maxLen at hcm
  have hlast : ((t.length : Int) + 1).toNat = t.length + 1 := by omega
  clear hread hb0 hr hz hlast
  have j1 : (k == 1) = false := by rw [hk]; exact v8_ne (n := 1) (by omega) hx.1
  have j2 : (k == 2) = false := by rw [hk]; exact v8_ne (n := 2) (by omega) hx.2.1
  have j3 : (k == 3) = false := by rw [hk]; exact v8_ne (n := 3) (by omega) hx.2.2
  have hr40 : rightV ⟨k, 0, ⟨#[]⟩⟩ = 40 := by
    have n1 := beq_eq_false_iff_ne.1 j1
    have n2 := beq_eq_false_iff_ne.1 j2
    have n3 := beq_eq_false_iff_ne.1 j3
    exact if_pos (show k < 1 ∨ 3 < k by omega)
  have HRi40 : Hid (∀ w, Calls Tryd.prog 13 #[.agg #[.int .i64 k, .int .i64 0, .string ⟨#[]⟩]] w fun r w' => r = .returned (.int .i64 40) ∧ Below w.heap.size w w') := Lib.hid (fun w => by
    have := vRight_any ⟨k, 0, ⟨#[]⟩⟩ w
    rw [hr40] at this
    exact this)
  clear hk hx hr40
  go_enter Tryd.func11, Tryd.ntmps11
  go_wp2_with fail
  refine HRead.out.mono ?_
  rintro r w1 ⟨g, rfl, hg, hrd, hb⟩
  have hg1 : w.heap.size + 1 ≤ g := by simpa using hg
  have hf : Rdr w1 (w.heap.size + 1) g (x :: t) 0 := by simpa using hrd
  have hby := rByte_any g (w.heap.size + 1) 0 (x :: t) w1 hf
  have HBy : Hid (Calls Tryd.prog 31 #[.pointer (some ⟨g, 0, none⟩)] w1 (Told (.int .u8 k) (w.heap.size + 1) g t 0 w1)) := Lib.hid (by rw [HKX.out]; exact hby)
  have HX1 := Lib.hid (HX0.out.below hb)
  have HB1 := Lib.hid (HB0.out.trans (hb.mono HB0.out.size))
  clear hg hrd hb hf hby HX0 HB0 HRead
  go_wp2_with fail
  refine HBy.out.mono ?_
  rintro r w2 ⟨rfl, hrd2, hgr⟩
  have hb3 := box_below w2 #[.int .i64 k, .int .i64 0, .string ⟨#[]⟩] 23
  have HX2 := Lib.hid (HX1.out.grown hgr (by intro h; injection h; omega))
  have HB2 := Lib.hid (HB1.out.grown hgr HB1.out.size (by intro i hi; injection hi; omega))
  have hx3 := Boxed.new w2 k 0 ⟨#[]⟩
  have hgv : g < w2.heap.size := hrd2.lt
  have HF2 := Lib.hid hrd2
  clear hrd2 hgr HX1 HB1 HBy
  go_upto_region 3 with fail
  obtain ⟨w3, hw3⟩ : ∃ wy, w2.alloc (.cells #[.int .i64 k, .int .i64 0, .string ⟨#[]⟩] 23) = wy := ⟨_, rfl⟩
  rw [hw3] at hb3 hx3 ⊢
  have HX3 := Lib.hid (HX2.out.below hb3)
  have HF3 := Lib.hid (HF2.out.below hb3 HF2.out.lt)
  have HB3 := Lib.hid (HB2.out.trans (hb3.mono HB2.out.size))
  have HV3 := Lib.hid hx3
  generalize w2.heap.size = gv at *
  clear hb3 hx3 hw3 HX2 HF2 HB2
  go_upto_region 5 with (go_at_call 32; refine (err_any g (w.heap.size + 1) 0 t w3 HF3.out).mono ?_; rintro r w' ⟨rfl, rfl⟩; obtain ⟨v0, v1, v2⟩ := HV3.out.cells)
  obtain ⟨v0, v1, v2⟩ := HV3.out.cells
  have HErr := Lib.hid (err_any g (w.heap.size + 1) 0 t w3 HF3.out)
  go_wp2_with fail
  refine HErr.out.mono ?_
  rintro r w' ⟨rfl, rfl⟩
  go_wp2_with fail
  refine (HRi40.out _).mono ?_
  rintro r w6 ⟨rfl, hb6⟩
  have HX6 := Lib.hid (HX3.out.below hb6)
  have HB6 := Lib.hid (HB3.out.trans (hb6.mono HB3.out.size))
  obtain ⟨r0, r1, r2⟩ := HX6.out.cells
  have f0 := HX6.out.frozen 0
  have f1 := HX6.out.frozen 1
  have f2 := HX6.out.frozen 2
  clear hb6 v0 v1 v2
  go_wp2_with fail
  obtain ⟨t0, t1, t2⟩ := (HX6.out.set3' 0 0 ⟨#[]⟩).cells
  have HP := Lib.hid (Below.set3' HB6.out (Nat.le_refl _) (.int .i64 0) (.int .i64 0) (.string ⟨#[]⟩))
  exact bodyPost_ret (v := .tuple #[.agg #[.int .i64 0, .int .i64 0, .string ⟨#[]⟩], .int .i64 0, .int .i64 40]) (by simp [results, Tryd.results11, go_sem, t0, t1, t2]) rfl ⟨rfl, HP.out⟩

set_option maxHeartbeats 1000000 in
theorem vTake_nil (A : Option Addr) (c : Nat) (w : World) (hz : A = none → c = 0) : Calls Tryd.prog 11 #[.slice A 0 c] w fun r w' => r = retTake (takeV []) ∧ Below w.heap.size w w' := by
  have hb0 := box_below w #[.int .i64 0, .int .i64 0, .string ⟨#[]⟩] 23
  have HRead := Lib.hid (read_any A [] c (w.alloc (.cells #[.int .i64 0, .int .i64 0, .string ⟨#[]⟩] 23)) (by simp) hz Rd.nil_)
  have HX0 := Lib.hid (Boxed.new w 0 0 ⟨#[]⟩)
  have HB0 := Lib.hid hb0
  clear hb0
  go_enter Tryd.func11, Tryd.ntmps11
  go_wp2_with fail
  refine HRead.out.mono ?_
  rintro r w1 ⟨g, rfl, hg, hrd, hb⟩
  have hg1 : w.heap.size + 1 ≤ g := by simpa using hg
  have hf : Rdr w1 (w.heap.size + 1) g [] 0 := by simpa using hrd
  have HBy := Lib.hid (rByte_any g (w.heap.size + 1) 0 [] w1 hf)
  have HX1 := Lib.hid (HX0.out.below hb)
  have HB1 := Lib.hid (HB0.out.trans (hb.mono HB0.out.size))
  clear hg hrd hb hf HX0 HB0 HRead
  go_wp2_with fail
  refine HBy.out.mono ?_
  rintro r w2 ⟨rfl, hrd2, hgr⟩
  have hrd2' : Rdr w2 (w.heap.size + 1) g [] 6 := hrd2
  have HX2 := Lib.hid (HX1.out.grown hgr (by intro h; injection h; omega))
  have HB2 := Lib.hid (HB1.out.grown hgr HB1.out.size (by intro i hi; injection hi; omega))
  have HF2 := Lib.hid hrd2'
  have hgv : g < w2.heap.size := hrd2.lt
  have e0 : (byteOf [] 0).1 = 0 := rfl
  clear hrd2 hrd2' hgr HX1 HB1 HBy
  rw [e0]
  have hb3 := box_below w2 #[.int .i64 0, .int .i64 0, .string ⟨#[]⟩] 23
  go_upto_region 3 with fail
  obtain ⟨w3, hw3⟩ : ∃ wy, w2.alloc (.cells #[.int .i64 0, .int .i64 0, .string ⟨#[]⟩] 23) = wy := ⟨_, rfl⟩
  rw [hw3] at hb3 ⊢
  have HX3 := Lib.hid (HX2.out.below hb3)
  have HF3 := Lib.hid (HF2.out.below hb3 HF2.out.lt)
  have HB3 := Lib.hid (HB2.out.trans (hb3.mono HB2.out.size))
  clear hb3 hw3 HX2 HF2 HB2 e0
  obtain ⟨r0, r1, r2⟩ := HX3.out.cells
  have f0 := HX3.out.frozen 0
  have f1 := HX3.out.frozen 1
  have f2 := HX3.out.frozen 2
  have HErr := Lib.hid (err_any g (w.heap.size + 1) 6 [] w3 HF3.out)
  go_wp2_with (go_at_call 32; refine HErr.out.mono ?_; rintro r w' ⟨rfl, rfl⟩)
  obtain ⟨t0, t1, t2⟩ := (HX3.out.set3' 0 0 ⟨#[]⟩).cells
  have HP := Lib.hid (Below.set3' HB3.out (Nat.le_refl _) (.int .i64 0) (.int .i64 0) (.string ⟨#[]⟩))
  exact bodyPost_ret (v := .tuple #[.agg #[.int .i64 0, .int .i64 0, .string ⟨#[]⟩], .int .i64 0, .int .i64 6]) (by simp [results, Tryd.results11, go_sem, t0, t1, t2]) rfl ⟨rfl, HP.out⟩

theorem vTake_any : TakeC := by
  intro b A c w hl hlen hcm hz hr
  cases b with
  | nil => exact vTake_nil A c w hz
  | cons x t =>
    rw [List.length_cons] at hl hlen
    rw [takeV_cons]
    by_cases h : x = 1 ∨ x = 2
    · rw [if_pos h]
      exact vTake_num x h t A c w hl (by omega) hcm hr
    · rw [if_neg h]
      by_cases h3 : x = 3
      · rw [if_pos h3]
        exact vTake_text x h3 t A c w hl (by omega) hcm hr
      · rw [if_neg h3]
        exact vTake_other x ⟨fun e => h (.inl e), fun e => h (.inr e), h3⟩ t A c w hl (by omega) hcm hr
end Go.Proofs.YtepniiaojhiogaaDoor
