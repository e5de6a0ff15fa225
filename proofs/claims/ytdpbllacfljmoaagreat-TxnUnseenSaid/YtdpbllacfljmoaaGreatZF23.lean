import Derived.Test.YtdpbllacfljmoaaGreatZF21
import Derived.Test.YtdpbllacfljmoaaGreatZF22
set_option maxRecDepth 100000
set_option maxHeartbeats 16000000
set_option linter.unusedVariables false
namespace Go.Proofs.YtdpbllacfljmoaaGreat
open Go.RowKit
def StD : q7w := fun w p F L st => ∃ D B kv cv m r v, RawS w p F D B kv cv L m r v st.time (q03 st.K) (st.K.map Prod.fst) (szS st.K) ∧ OkS st ∧ InS L st ∧ MayS L = true ∧ q7x st.K ∧ L.last < 18446744073709551616 ∧ AltS st.K
theorem q2S {L : LimS} {st : PS} (hm : MayS L = true) (hi : InS L st) : q5g st := by
 obtain ⟨h1, h2, h3⟩ := qaS hm hi
 exact ⟨h1, h2, h3⟩
theorem q55 (L : LimS) (K : KsS) : qaQ L (szS K) = q2J L K := rfl
theorem ChW.row {w : World} {lo hi : Nat} {A : Option Addr} {c : Nat} {l : List Wr} (h : ChW w lo hi A c l) : RowW w lo hi A l := h.2.2.2
section
variable {w w' : World} {p : Nat} {F D : Nat → Prop} {B : Nat} {kv : Value} {cv : KeyS → Value} {L : LimS} {m r v : Int} {now : Nat} {g : KeyS → List Ver} {ks : List KeyS} {z : Sz}
theorem RawS.sizes (h : RawS w p F D B kv cv L m r v now g ks z) (y : Sz) (t : Nat) :
  RawS ((((w.setCell ⟨p, 10, none⟩ (.int .i64 (y.k : Int))).setCell ⟨p, 11, none⟩ (.int .i64 (y.v : Int))).setCell ⟨p, 12, none⟩ (.int .i64 (y.b : Int))).setCell ⟨p, 7, none⟩ (.int .u64 (t : Int))) p F D B kv cv L m r v t g ks y :=
 (((h.cellSet (z' := ⟨y.k, z.v, z.b⟩) 10 _ rfl).cellSet (z' := ⟨y.k, y.v, z.b⟩) 11 _ rfl).cellSet (z' := ⟨y.k, y.v, y.b⟩) 12 _ rfl).cellSet (now' := t) 7 _ rfl
theorem q90 (w : World) {p : Nat} {F : Nat → Prop} (hp : F p) (a b c d : Value) : Mut F w ((((w.setCell ⟨p, 10, none⟩ a).setCell ⟨p, 11, none⟩ b).setCell ⟨p, 12, none⟩ c).setCell ⟨p, 7, none⟩ d) :=
 (((q1U w hp 10 a).trans (q1U _ hp 11 b) (fun _ h => .inl h)).trans (q1U _ hp 12 c) (fun _ h => .inl h)).trans (q1U _ hp 7 d) (fun _ h => .inl h)
end
theorem q5d {w w' : World} {p : Nat} {F : Nat → Prop} {L : LimS} {st : PS} {x : Value} (h : StD w' p F L st) (hm : Mut F w w') : q9v StD w p F L st x (.returned x) w' := ⟨rfl, F, h, hm, fun _ h => .inl h⟩
theorem StD.keep' {w w' : World} {p : Nat} {F : Nat → Prop} {L : LimS} {st : PS} (h : StD w p F L st) (hb : Below w.heap.size w w') : StD w' p F L st := by
 obtain ⟨D, B, kv, cv, m, r, v, h1, h2⟩ := h
 exact ⟨D, B, kv, cv, m, r, v, h1.below hb, h2⟩
theorem q5n (p : Nat) (F : Nat → Prop) (L : LimS) (st : PS) (l : List Wr) (hi : Nat) (A : Option Addr) (c low : Nat) (w : World) (h : StD w p F L st) (hw : okW l) (hr : q87 w F hi A c l) (hhi : hi ≤ w.heap.size) :
  Calls Tryz.prog 136 #[ptrS p, .slice A l.length c, .int .u64 low] w (q9v StD w p F L (q09 L st l low).1 (.tuple #[.int .u64 (q09 L st l low).2.1, .int .i64 (q09 L st l low).2.2])) := by
 have hst := h
 obtain ⟨D, B, kv, cv, m, r, v, hraw, ho, hin, hmay, hkeys, hlast, halt⟩ := h
 have hs := q2S hmay hin
 have HSt := qh hst
 have HRaw := qh hraw
 have HO := qh ho
 have HIn := qh hin
 have HMay := qh hmay
 have HKeys := qh hkeys
 have HAlt := qh halt
 have HS := qh hs
 have HR := qh hr
 have HHi := qh hhi
 have HLast := qh hlast
 have hll : l.length ≤ 1048576 := hw.1
 have hll2 : l.length ≤ 9223372036854775807 := by omega
 have HM := qh (q2k hraw)
 have HCk := qh (q61 l 0 hi A c w hll2 (hr w (Mut.refl _ _)).row hhi)
 have HCo : Hid (q09 L st l low = if q0h [] l ≠ 0 then (st, 0, q0h [] l) else if l = [] then (st, st.time, 0) else if st.time = L.last then (st, 0, 5) else if q2J L (q0n (q1O L st l low) l) = true then (⟨st.time + 1, q0n (q1O L st l low) l⟩, st.time + 1, 0) else (q1O L st l low, 0, 5)) := qh rfl
 have HRo : Hid (q1O L st l low = if q2J L (q0n st l) = true then st else ⟨st.time, q05 st.K low⟩) := qh rfl
 generalize q09 L st l low = C at *
 clear hst hraw ho hin hmay hkeys halt hs hr hhi hlast hw
 unfold ptrS at HM ⊢
 go_enter Tryz.func136, Tryz.ntmps136
 go_wp2_with fail
 refine HM.out.mono ?_
 rintro e w9 ⟨rfl, hw9⟩
 rw [hw9]
 clear HM hw9 w9
 go_wp2_with fail
 refine HCk.out.mono ?_
 rintro e w1 ⟨rfl, hb1⟩
 have HB1 := qh hb1
 clear hb1 HCk
 by_cases hck : q0h [] l = 0
 ·rw [hck]
  have HCk0 := qh hck
  have HCo2 := qh (HCo.out.trans (if_neg (by rw [hck]; simp)))
  clear hck HCo
  by_cases hl0 : l = []
  ·have hll0 : l.length = 0 := by rw [hl0]; rfl
   have HCo3 := qh (HCo2.out.trans (if_pos hl0))
   have c7 := (HRaw.out.below HB1.out).now_
   have d0 : ((l.length : Int) == 0) = true := by rw [hll0]; rfl
   rw [hll0]
   go_wp2
   refine bodyPost_ret (v := .tuple #[.int .u64 st.time, .int .i64 0]) (by simp [results, Tryz.results136, go_sem]) rfl ?_
   rw [HCo3.out]
   exact q5d (HSt.out.keep' HB1.out) (Below.mut HB1.out F)
  ·have hlp : 0 < l.length := List.length_pos_iff.2 hl0
   have d0 : ((l.length : Int) == 0) = false := by rw [beq_eq_false_iff_ne]; omega
   have d0' : ¬ ((l.length : Int) = 0) := by omega
   have HCo3 := qh (HCo2.out.trans (if_neg hl0))
   have c7 := ((HRaw.out.below HB1.out).keep (w' := w1.drew) fun _ _ => rfl).now_
   have c6 := ((HRaw.out.below HB1.out).keep (w' := w1.drew) fun _ _ => rfl).lim6
   have c7' := (HRaw.out.below HB1.out).now_
   have c6' := (HRaw.out.below HB1.out).lim6
   clear HCo2
   by_cases htl : st.time = L.last
   ·have d1 : ((st.time : Int) == (L.last : Int)) = true := by rw [htl]; exact beq_self_eq_true _
    have HCo4 := qh (HCo3.out.trans (if_pos htl))
    have hti : (st.time : Int) = (L.last : Int) := by rw [htl]
    go_wp2_with fail
    go_region
    go_wp2
    refine bodyPost_ret (v := .tuple #[.int .u64 0, .int .i64 5]) (by simp [results, Tryz.results136, go_sem]) rfl ?_
    rw [HCo4.out]
    exact q5d (HSt.out.keep' HB1.out.drew) (Below.mut HB1.out.drew F)
   ·have d1 : ((st.time : Int) == (L.last : Int)) = false := by rw [beq_eq_false_iff_ne]; omega
    have HCo4 := qh (HCo3.out.trans (if_neg htl))
    have hti : ¬ (st.time : Int) = (L.last : Int) := by omega
    have HTl := qh htl
    clear HCo3 htl
    go_wp2_with fail
    go_region
    obtain ⟨w2, hw2⟩ : ∃ y, w1.drew = y := ⟨_, rfl⟩
    have HB2 := qh (show Below w.heap.size w w2 by rw [← hw2]; exact HB1.out.drew)
    rw [hw2]
    clear hw2 c7 c6 c7' c6'
    have hlt2 := HB2.out.size
    have hraw2 := HRaw.out.below HB2.out
    have HWith := qh (q8y st l 0 hi A c hraw2 HO.out HS.out HCk0.out hll (HR.out _ (Below.mut HB2.out F)).row (Nat.le_trans HHi.out HB2.out.size))
    clear hraw2
    unfold ptrS at HWith
    have htl2 : st.time + 1 < 18446744073709551616 := by have := HIn.out.2; have := HLast.out; have := HTl.out; omega
    have htl3 : st.time + 1 ≤ L.last := by have := HIn.out.2; have := HTl.out; omega
    go_wp2_with fail
    refine HWith.out.mono ?_
    rintro e w3 ⟨rfl, hb3⟩
    have HB3 := qh (HB2.out.trans (hb3.mono HB2.out.size))
    obtain ⟨w4, hw4⟩ : ∃ y, w3.alloc (.cells #[.int .i64 ((szS (q0n st l)).k : Int), .int .i64 ((szS (q0n st l)).v : Int), .int .i64 ((szS (q0n st l)).b : Int)] 60) = y := ⟨_, rfl⟩
    have hb4 : Below w.heap.size w w4 := by rw [← hw4]; exact HB3.out.alloc HB3.out.size _
    have hbx4 : w4.heap[w3.heap.size]? = some (.cells #[.int .i64 ((szS (q0n st l)).k : Int), .int .i64 ((szS (q0n st l)).v : Int), .int .i64 ((szS (q0n st l)).b : Int)] 60 (0, 0)) := by rw [← hw4]; exact heap_alloc_new w3 _
    have HHold := qh (q51 (HRaw.out.below hb4) (szS (q0n st l)))
    rw [q55] at HHold
    have hlow3 : w.heap.size ≤ w3.heap.size := HB3.out.size
    have HLow3 := qh hlow3
    have HB4 := qh hb4
    have HBx4 := qh hbx4
    have HW4 := qh hw4
    have z0 := cell_of_row w4 _ 0 _ _ _ hbx4
    have z1 := cell_of_row w4 _ 1 _ _ _ hbx4
    have z2 := cell_of_row w4 _ 2 _ _ _ hbx4
    clear hb3 hb4 hbx4 hw4 HWith hlow3
    unfold ptrS at HHold
    unfold q6H at HHold ⊢
    go_upto_region 11 with fail
    rw [HW4.out]
    clear HW4
    go_wp2_with fail
    refine HHold.out.mono ?_
    rintro e w5 ⟨rfl, hb5⟩
    have hb5w := HB4.out.trans (hb5.mono HB4.out.size)
    have hbx5 := q01 HBx4.out hb5 (q00 HBx4.out)
    have HB5 := qh hb5w
    have HBx5 := qh hbx5
    have hs45 := hb5.size
    have hs34 : w3.heap.size < w4.heap.size := q00 HBx4.out
    have HSz5 := qh (show w3.heap.size < w5.heap.size by omega)
    clear hb5w hb5 hbx5 z0 z1 z2 HHold hs45 hs34 HBx4
    cases hfit : q2J L (q0n st l)
    ·have hraw5 := HRaw.out.below HB5.out
     have HRo2 := qh (show q1O L st l low = (⟨st.time, q05 st.K low⟩ : PS) from HRo.out.trans (by rw [hfit]; exact if_neg (by simp)))
     have HCol := qh (q5m st low hraw5 HO.out HS.out HAlt.out HKeys.out)
     clear hraw5
     unfold ptrS at HCol
     go_wp2_with fail
     refine HCol.out.mono ?_
     rintro e w6 ⟨rfl, F6, D6, kv6, cv6, hraw6, hmut6, hF6⟩
     have hmut6w := (Below.mut HB5.out F).trans hmut6 (fun _ h => .inl h)
     have HF6 := qh (show ∀ b, F6 b → F b ∨ w5.heap.size ≤ b from hF6)
     have HFF := qh (show ∀ b, F6 b → F b ∨ w.heap.size ≤ b from fun b hb => by
      rcases hF6 b hb with h1 | h1
      ·exact .inl h1
      ·exact .inr (Nat.le_trans HB5.out.size h1))
     have HOF := qh (q1V HO.out low)
     have HInC := qh (show InS L ⟨st.time, q05 st.K low⟩ from ⟨q2n HO.out.sort HO.out.full low HIn.out.1, HIn.out.2⟩)
     have HSF := qh (q2S HMay.out HInC.out)
     have HKeysF := qh (q5r HKeys.out low)
     have HAltF := qh (q5Q HO.out HAlt.out low)
     have HWith := qh (q8y ⟨st.time, q05 st.K low⟩ l 0 hi A c hraw6 HOF.out HSF.out HCk0.out hll (HR.out _ hmut6w).row (Nat.le_trans HHi.out hmut6w.size))
     have hFw : ¬ F w3.heap.size := fun hf => by have := HRaw.out.lt _ hf; have := HLow3.out; omega
     have hbx6 : w6.heap[w3.heap.size]? = _ := (hmut6.block _ HSz5.out hFw).trans HBx5.out
     have HRaw6 := qh hraw6
     have HMut6 := qh hmut6w
     have HBx6 := qh hbx6
     have HFw := qh (show ¬ F6 w3.heap.size from fun hf => by
      rcases hF6 _ hf with h1 | h1
      ·exact hFw h1
      ·have := HSz5.out; omega)
     clear hraw6 hmut6 hF6 hmut6w hbx6 hFw HCol
     obtain ⟨st2, hst2⟩ : ∃ y : PS, (⟨st.time, q05 st.K low⟩ : PS) = y := ⟨_, rfl⟩
     have ht2 : st2.time = st.time := by rw [← hst2]
     have hK2 : st2.K = q05 st.K low := by rw [← hst2]
     rw [hst2] at HRo2 HOF HInC HSF HWith
     rw [← hK2, ← ht2] at HRaw6
     rw [← hK2] at HKeysF HAltF
     have HCo5 := qh (HCo4.out.trans (by rw [HRo2.out]))
     clear hst2 hK2 HCo4
     unfold ptrS at HWith
     go_wp2_with fail
     refine HWith.out.mono ?_
     rintro e w7 ⟨rfl, hb7⟩
     have hbx7 := q01 HBx6.out hb7 (q00 HBx6.out)
     have y0 := cell_of_row w7 _ 0 _ _ _ hbx7
     have y1 := cell_of_row w7 _ 1 _ _ _ hbx7
     have y2 := cell_of_row w7 _ 2 _ _ _ hbx7
     have g0 := q02 hbx7 0
     have g1 := q02 hbx7 1
     have g2 := q02 hbx7 2
     obtain ⟨w8, hw8⟩ : ∃ y, (((w7.setCell ⟨w3.heap.size, 0, none⟩ (.int .i64 ((szS (q0n st2 l)).k : Int))).setCell ⟨w3.heap.size, 1, none⟩ (.int .i64 ((szS (q0n st2 l)).v : Int))).setCell ⟨w3.heap.size, 2, none⟩ (.int .i64 ((szS (q0n st2 l)).b : Int))) = y := ⟨_, rfl⟩
     have hbx8 : w8.heap[w3.heap.size]? = some (.cells #[.int .i64 ((szS (q0n st2 l)).k : Int), .int .i64 ((szS (q0n st2 l)).v : Int), .int .i64 ((szS (q0n st2 l)).b : Int)] 60 (0, 0)) := by rw [← hw8]; exact q2z hbx7 _ _ _
     have hk8 : ∀ b, b ≠ w3.heap.size → w8.heap[b]? = w7.heap[b]? := fun b hb => by rw [← hw8]; exact q30 hb _ _ _
     have hraw8 := (HRaw6.out.below hb7).keep (w' := w8) fun b hb => hk8 b (fun e => HFw.out (e ▸ hb))
     have hmut8 : Mut F w w8 := by
      have h1 := HMut6.out.trans (Below.mut hb7 F) (fun _ h => .inl h)
      exact ⟨by rw [← hw8]; exact h1.os, by rw [← hw8]; exact h1.tape, by rw [← hw8]; exact h1.output, by rw [← hw8]; simpa [World.setCell] using h1.size, fun b hb hf => (hk8 b (fun e => by have := HLow3.out; omega)).trans (h1.block b hb hf)⟩
     have HHold := qh (q51 hraw8 (szS (q0n st2 l)))
     rw [q55] at HHold
     have z0 := cell_of_row w8 _ 0 _ _ _ hbx8
     have z1 := cell_of_row w8 _ 1 _ _ _ hbx8
     have z2 := cell_of_row w8 _ 2 _ _ _ hbx8
     have HRaw8 := qh hraw8
     have HMut8 := qh hmut8
     have HBx8 := qh hbx8
     have HW8 := qh hw8
     clear hb7 hbx7 hw8 hbx8 hk8 hraw8 hmut8 HWith HRaw6 HMut6 HBx6
     unfold ptrS at HHold
     unfold q6H at HHold ⊢
     go_upto_region 14 with fail
     rw [HW8.out]
     clear HW8 y0 y1 y2 g0 g1 g2
     go_wp2_with fail
     refine HHold.out.mono ?_
     rintro e w9 ⟨rfl, hb9⟩
     have hbx9 := q01 HBx8.out hb9 (q00 HBx8.out)
     have HRawF := qh (HRaw8.out.below hb9)
     have HMutF := qh (HMut8.out.trans (Below.mut hb9 F) (fun _ h => .inl h))
     have HBoxF := qh hbx9
     clear hb9 hbx9 HHold z0 z1 z2 HRaw8 HMut8 HBx8
     rw [← ht2] at htl2 htl3 HCo5
     clear ht2 hfit
     cases hfit2 : q2J L (q0n st2 l)
     ·have HCoF := qh (show C = (st2, 0, 5) from HCo5.out.trans (by rw [hfit2]; exact if_neg (by simp)))
      go_wp2
      refine bodyPost_ret (v := .tuple #[.int .u64 0, .int .i64 5]) (by simp [results, Tryz.results136, go_sem]) rfl ?_
      rw [HCoF.out]
      exact ⟨rfl, F6, ⟨D6, B, kv6, cv6, m, r, v, HRawF.out, HOF.out, HInC.out, HMay.out, HKeysF.out, HLast.out, HAltF.out⟩, HMutF.out, HFF.out⟩
     ·have HCoF := qh (show C = (⟨st2.time + 1, q0n st2 l⟩, st2.time + 1, 0) from HCo5.out.trans (by rw [hfit2]; exact if_pos rfl))
      have HInF := qh (show InS L ⟨st2.time + 1, q0n st2 l⟩ from ⟨hfit2, htl3⟩)
      have hrf := HRawF.out
      have g7 := hrf.now_
      have g10 := hrf.sz0
      have g11 := hrf.sz1
      have g12 := hrf.sz2
      have f7 := hrf.frozen 7
      have f10 := hrf.frozen 10
      have f11 := hrf.frozen 11
      have f12 := hrf.frozen 12
      have e1 : ((st2.time + 1 : Nat) : Int) = (st2.time : Int) + 1 := by omega
      have hsz := hrf.sizes (szS (q0n st2 l)) (st2.time + 1)
      rw [e1] at hsz
      have hms := q90 w9 hrf.Fp (.int .i64 ((szS (q0n st2 l)).k : Int)) (.int .i64 ((szS (q0n st2 l)).v : Int)) (.int .i64 ((szS (q0n st2 l)).b : Int)) (.int .u64 ((st2.time : Int) + 1))
      have hmw := HMutF.out.trans hms HFF.out
      have hsizeF := HMutF.out.size
      have HMw := qh hmw
      have HLay := qh (qaJ st2 (szS (q0n st2 l)) l hi A c hsz HOF.out HSF.out HCk0.out hll (HR.out.turn hmw HFF.out) (Nat.le_trans HHi.out hmw.size) (by omega))
      clear hrf hsz hms hmw e1
      unfold ptrS at HLay
      generalize hZF : szS (q0n st2 l) = ZF at *
      have HZF := qh hZF
      clear hZF
      obtain ⟨zk, zv, zb⟩ := ZF
      simp only at HBoxF HLay
      have b0 := cell_of_row w9 _ 0 _ _ _ HBoxF.out
      have b1 := cell_of_row w9 _ 1 _ _ _ HBoxF.out
      have b2 := cell_of_row w9 _ 2 _ _ _ HBoxF.out
      go_wp2_with fail
      refine HLay.out.mono ?_
      rintro e wl ⟨rfl, Fl, Dl, kvl, cvl, hrl, hml, hfl⟩
      have h7 := hrl.now_
      have HFin := qh (show q9v StD w p F L ⟨st2.time + 1, q0n st2 l⟩ (.tuple #[.int .u64 ((st2.time + 1 : Nat) : Int), .int .i64 0]) (.returned (.tuple #[.int .u64 ((st2.time + 1 : Nat) : Int), .int .i64 0])) wl from by
       refine ⟨rfl, Fl, ⟨Dl, B, kvl, cvl, m, r, v, (by rw [HZF.out]; exact hrl), q7T HOF.out HCk0.out, HInF.out, HMay.out, q8R HKeysF.out HCk0.out, HLast.out, qaD HOF.out HCk0.out HAltF.out⟩, HMw.out.trans hml HFF.out, fun k hk => ?_⟩
       rcases hfl k hk with h1 | h1
       ·exact HFF.out k h1
       ·exact .inr (Nat.le_trans HMw.out.size h1))
      clear hrl hml hfl HLay
      go_wp2
      refine bodyPost_ret (v := .tuple #[.int .u64 ((st2.time + 1 : Nat) : Int), .int .i64 0]) (by simp [results, Tryz.results136, go_sem]) rfl ?_
      rw [HCoF.out]
      exact HFin.out
    ·have hraw5 := HRaw.out.below HB5.out
     have HHold := qh (q51 hraw5 (szS (q0n st l)))
     rw [q55, hfit] at HHold
     have z0 := cell_of_row w5 _ 0 _ _ _ HBx5.out
     have z1 := cell_of_row w5 _ 1 _ _ _ HBx5.out
     have z2 := cell_of_row w5 _ 2 _ _ _ HBx5.out
     have HRo2 := qh (show q1O L st l low = st from HRo.out.trans (by rw [hfit]; exact if_pos rfl))
     have HCoF := qh (show C = (⟨st.time + 1, q0n st l⟩, st.time + 1, 0) from HCo4.out.trans (by rw [HRo2.out, hfit]; exact if_pos rfl))
     have HInF := qh (show InS L ⟨st.time + 1, q0n st l⟩ from ⟨hfit, htl3⟩)
     clear hraw5 hfit HRo2 HCo4
     unfold ptrS at HHold
     unfold q6H at HHold
     go_wp2_with fail
     refine HHold.out.mono ?_
     rintro e w6 ⟨rfl, hb6⟩
     have HRawF := qh (HRaw.out.below (HB5.out.trans (hb6.mono HB5.out.size)))
     have HMutF := qh (Below.mut (HB5.out.trans (hb6.mono HB5.out.size)) F)
     have HBoxF := qh (q01 HBx5.out hb6 (q00 HBx5.out))
     have HFF := qh (show ∀ b, F b → F b ∨ w.heap.size ≤ b from fun _ h => .inl h)
     have HOF := HO
     have HSF := HS
     have HKeysF := HKeys
     have HAltF := HAlt
     clear hb6 HHold z0 z1 z2
     have hrf := HRawF.out
     have g7 := hrf.now_
     have g10 := hrf.sz0
     have g11 := hrf.sz1
     have g12 := hrf.sz2
     have f7 := hrf.frozen 7
     have f10 := hrf.frozen 10
     have f11 := hrf.frozen 11
     have f12 := hrf.frozen 12
     have e1 : ((st.time + 1 : Nat) : Int) = (st.time : Int) + 1 := by omega
     have hsz := hrf.sizes (szS (q0n st l)) (st.time + 1)
     rw [e1] at hsz
     have hms := q90 w6 hrf.Fp (.int .i64 ((szS (q0n st l)).k : Int)) (.int .i64 ((szS (q0n st l)).v : Int)) (.int .i64 ((szS (q0n st l)).b : Int)) (.int .u64 ((st.time : Int) + 1))
     have hmw := HMutF.out.trans hms HFF.out
     have hsizeF := HMutF.out.size
     have HMw := qh hmw
     have HLay := qh (qaJ st (szS (q0n st l)) l hi A c hsz HOF.out HSF.out HCk0.out hll (HR.out.turn hmw HFF.out) (Nat.le_trans HHi.out hmw.size) (by omega))
     clear hrf hsz hms hmw e1
     unfold ptrS at HLay
     generalize hZF : szS (q0n st l) = ZF at *
     have HZF := qh hZF
     clear hZF
     obtain ⟨zk, zv, zb⟩ := ZF
     simp only at HBoxF HLay
     have b0 := cell_of_row w6 _ 0 _ _ _ HBoxF.out
     have b1 := cell_of_row w6 _ 1 _ _ _ HBoxF.out
     have b2 := cell_of_row w6 _ 2 _ _ _ HBoxF.out
     go_wp2_with fail
     refine HLay.out.mono ?_
     rintro e wl ⟨rfl, Fl, Dl, kvl, cvl, hrl, hml, hfl⟩
     have h7 := hrl.now_
     have HFin := qh (show q9v StD w p F L ⟨st.time + 1, q0n st l⟩ (.tuple #[.int .u64 ((st.time + 1 : Nat) : Int), .int .i64 0]) (.returned (.tuple #[.int .u64 ((st.time + 1 : Nat) : Int), .int .i64 0])) wl from by
      refine ⟨rfl, Fl, ⟨Dl, B, kvl, cvl, m, r, v, (by rw [HZF.out]; exact hrl), q7T HOF.out HCk0.out, HInF.out, HMay.out, q8R HKeysF.out HCk0.out, HLast.out, qaD HOF.out HCk0.out HAltF.out⟩, HMw.out.trans hml HFF.out, fun k hk => ?_⟩
      rcases hfl k hk with h1 | h1
      ·exact HFF.out k h1
      ·exact .inr (Nat.le_trans HMw.out.size h1))
     clear hrl hml hfl HLay
     go_wp2
     refine bodyPost_ret (v := .tuple #[.int .u64 ((st.time + 1 : Nat) : Int), .int .i64 0]) (by simp [results, Tryz.results136, go_sem]) rfl ?_
     rw [HCoF.out]
     exact HFin.out
 ·have d1 : ((q0h [] l) == 0) = false := by rw [beq_eq_false_iff_ne]; exact hck
  have HCo2 := qh (HCo.out.trans (if_pos hck))
  go_wp2
  refine bodyPost_ret (v := .tuple #[.int .u64 0, .int .i64 (q0h [] l)]) (by simp [results, Tryz.results136, go_sem]) rfl ?_
  rw [HCo2.out]
  exact q5d (HSt.out.keep' HB1.out) (Below.mut HB1.out F)
theorem q9N (p : Nat) (F : Nat → Prop) (L : LimS) (st : PS) (l : List Wr) (lo hi : Nat) (A : Option Addr) (c low : Nat) (w : World) (h : StD w p F L st) (hw : okW l) (hr : ChW w lo hi A c l) (hhi : hi ≤ w.heap.size) (hsep : ∀ k, F k → k < lo ∨ hi ≤ k) :
  Calls Tryz.prog 136 #[ptrS p, .slice A l.length c, .int .u64 low] w (q9v StD w p F L (q09 L st l low).1 (.tuple #[.int .u64 (q09 L st l low).2.1, .int .i64 (q09 L st l low).2.2])) :=
 q5n p F L st l hi A c low w h hw (.of hr hhi hsep) hhi
end Go.Proofs.YtdpbllacfljmoaaGreat
