import Derived.Test.YtooegjdppeiccaaZC23
import Derived.Test.YtooegjdppeiccaaZC41
/-
  Stores, the document's own answers: Commit.
-/
namespace Go.Proofs.Ytooegjdppeiccaa
open Go.RowKit
/-- What Commit of the document's own store tells, and the store behind it. -/
def TurnF (w : World) (p : Nat) (S : Nat → Prop) (L : LimS) (m r v : Int) (C : PS × Nat × Int) (e : Ending) (w' : World) : Prop :=
  e = .returned (.tuple #[.int .u64 C.2.1, .int .i64 C.2.2]) ∧ (∃ A' c' os', RefM w' p S L m r v C.1.time A' c' os' ∧ os'.map MOne.k = C.1.K) ∧ Mut (fun k => k = p) w w'
theorem RefM.adopt {w : World} {p q : Nat} {S T : Nat → Prop} {L : LimS} {m r v m' r' v' : Int} {t t' : Nat} {A A' : Option Addr} {c c' : Nat} {os os' : List MOne} (h : RefM w p S L m r v t A c os) (hq : RefM w q T L m' r' v' t' A' c' os') (hp : ¬ S p) (hT : ∀ b, T b → S b) :
    RefM ((w.setCell ⟨p, 7, none⟩ (.int .u64 t')).setCell ⟨p, 8, none⟩ (.slice A' os'.length c')) p S L m r v t' A' c' os' ∧ Mut (fun k => k = p) w ((w.setCell ⟨p, 7, none⟩ (.int .u64 t')).setCell ⟨p, 8, none⟩ (.slice A' os'.length c')) := by
  have hbx := h.box
  have hk : ∀ g, T g → g < w.heap.size → ((w.setCell ⟨p, 7, none⟩ (.int .u64 t')).setCell ⟨p, 8, none⟩ (.slice A' os'.length c')).heap[g]? = w.heap[g]? ∧ S g := fun g hg _ => by
    have hne : g ≠ p := fun e => hp (by have := hT g hg; rw [e] at this; exact this)
    exact ⟨(Below.heap_setCell _ _ _ g hne).trans (Below.heap_setCell _ _ _ g hne), hT g hg⟩
  refine ⟨⟨?_, hq.len, hq.cap, hq.none_, hq.row.keep oneF hk, fun x hx => (hq.each x hx).keep hk⟩, (mut_cell w ⟨p, 7, none⟩ _).trans (mut_cell _ ⟨p, 8, none⟩ _) (fun k hk => .inl hk)⟩
  simp [World.setCell, Array.getElem?_modify, hbx]
set_option maxRecDepth 100000 in
set_option maxHeartbeats 8000000 in
theorem refCommit_any (p : Nat) (S : Nat → Prop) (L : LimS) (m r v : Int) (st : PS) (A : Option Addr) (c : Nat) (os : List MOne) (l : List Wr) (hi : Nat) (AW : Option Addr) (cW low : Nat) (w : World) (h : RefM w p S L m r v st.time A c os) (hK : os.map MOne.k = st.K)
    (ho : OkS st) (hin : InS L st) (hmay : MayS L = true) (hlast : L.last < 18446744073709551616) (hp : ¬ S p) (hS : ∀ b, w.heap.size ≤ b → S b)
    (hll : l.length ≤ 1048576) (hW : ChW w 0 hi AW cW l) (hhi : hi ≤ w.heap.size) (hSW : ∀ b, b < hi → S b) :
    Calls Try.prog 65 #[ptrS p, .slice AW l.length cW, .int .u64 low] w (TurnF w p S L m r v (commitS L st l low)) := by
  have HM := Lib.hid h
  have HK := Lib.hid hK
  have HO := Lib.hid ho
  have HIn := Lib.hid hin
  have HMay := Lib.hid hmay
  have HSm := Lib.hid (small_of hmay hin)
  have HLast := Lib.hid hlast
  have HP := Lib.hid hp
  have HS := Lib.hid hS
  have HR := Lib.hid hW
  have HHi := Lib.hid hhi
  have HSW := Lib.hid hSW
  have HSep : Hid (∀ k, (fun k => k = p) k → k < 0 ∨ hi ≤ k) := Lib.hid fun k hk => by
    have e : k = p := hk
    rcases Nat.lt_or_ge k hi with h1 | h1
    · exact absurd (hSW k h1) (by rw [e]; exact hp)
    · exact .inr h1
  have hll2 : l.length ≤ 9223372036854775807 := by omega
  have HCk := Lib.hid (refCheck_any l 0 hi AW cW w hll2 hW.row hhi)
  have HCo : Hid (commitS L st l low = if checkS [] l ≠ 0 then (st, 0, checkS [] l) else if l = [] then (st, st.time, 0) else if st.time = L.last then (st, 0, 5) else if fitsS L (withS (roomS L st l low) l) = true then (⟨st.time + 1, withS (roomS L st l low) l⟩, st.time + 1, 0) else (roomS L st l low, 0, 5)) := Lib.hid rfl
  have HRo : Hid (roomS L st l low = if fitsS L (withS st l) = true then st else ⟨st.time, collectS st.K low⟩) := Lib.hid rfl
  generalize commitS L st l low = C at *
  clear h hK ho hin hmay hlast hp hS hW hhi hSW
  unfold ptrS
  go_enter Try.func65, Try.ntmps65
  go_wp2_with fail
  refine HCk.out.mono ?_
  rintro e w1 ⟨rfl, hb1⟩
  have HB1 := Lib.hid hb1
  clear hb1 HCk
  by_cases hck : checkS [] l = 0
  · rw [hck]
    have HCk0 := Lib.hid hck
    have HCo2 := Lib.hid (HCo.out.trans (if_neg (by rw [hck]; simp)))
    clear hck HCo
    by_cases hl0 : l = []
    · have hll0 : l.length = 0 := by rw [hl0]; rfl
      have HCo3 := Lib.hid (HCo2.out.trans (if_pos hl0))
      have c7 := cell_of_row w1 p 7 _ _ _ (HM.out.below HB1.out).box
      have d0 : ((l.length : Int) == 0) = true := by rw [hll0]; rfl
      rw [hll0]
      go_wp2
      refine bodyPost_ret (v := .tuple #[.int .u64 st.time, .int .i64 0]) (by simp [results, Try.results65, go_sem]) rfl ?_
      rw [HCo3.out]
      exact ⟨rfl, ⟨A, c, os, HM.out.below HB1.out, HK.out⟩, Below.mut HB1.out _⟩
    · have hlp : 0 < l.length := List.length_pos_iff.2 hl0
      have d0 : ((l.length : Int) == 0) = false := by rw [beq_eq_false_iff_ne]; omega
      have d0' : ¬ ((l.length : Int) = 0) := by omega
      have HCo3 := Lib.hid (HCo2.out.trans (if_neg hl0))
      have c7 := cell_of_row w1 p 7 _ _ _ (HM.out.below HB1.out).box
      have c6 := cell_of_row w1 p 6 _ _ _ (HM.out.below HB1.out).box
      clear HCo2
      by_cases htl : st.time = L.last
      · have d1 : ((st.time : Int) == (L.last : Int)) = true := by rw [htl]; exact beq_self_eq_true _
        have HCo4 := Lib.hid (HCo3.out.trans (if_pos htl))
        have hti : (st.time : Int) = (L.last : Int) := by rw [htl]
        go_wp2_with fail
        go_region
        go_wp2
        refine bodyPost_ret (v := .tuple #[.int .u64 0, .int .i64 5]) (by simp [results, Try.results65, go_sem]) rfl ?_
        rw [HCo4.out]
        exact ⟨rfl, ⟨A, c, os, HM.out.below HB1.out.drew, HK.out⟩, Below.mut HB1.out.drew _⟩
      · have d1 : ((st.time : Int) == (L.last : Int)) = false := by rw [beq_eq_false_iff_ne]; omega
        have HCo4 := Lib.hid (HCo3.out.trans (if_neg htl))
        have hti : ¬ (st.time : Int) = (L.last : Int) := by omega
        have HTl := Lib.hid htl
        have HTm := Lib.hid (show st.time + 1 < 18446744073709551616 by have := HIn.out.2; have := HLast.out; omega)
        clear HCo3 htl
        go_wp2_with fail
        go_region
        obtain ⟨w2, hw2⟩ : ∃ y, w1.drew = y := ⟨_, rfl⟩
        have HB2 := Lib.hid (show Below w.heap.size w w2 by rw [← hw2]; exact HB1.out.drew)
        rw [hw2]
        clear hw2 c7 c6
        have hsz2 := HB2.out.size
        obtain ⟨b1, b2, b3⟩ := up_small HO.out HSm.out HCk0.out l.length (Nat.le_refl _)
        rw [upG_len] at b1 b2 b3
        unfold szS at b1 b2 b3
        simp only at b1 b2 b3
        have HBnd1 := Lib.hid (And.intro b2 b3)
        clear b1 b2 b3
        have HWi1 := Lib.hid (refWith_any p S L m r v st A c os l hi AW cW w2 (HM.out.below HB2.out) HK.out (fun b hb => HS.out b (Nat.le_trans hsz2 hb)) HSm.out.len HSm.out.vers HTm.out hll (HR.out.mut (Below.mut HB2.out (fun k => k = p)) HHi.out HSep.out) (Nat.le_trans HHi.out hsz2) HSW.out)
        unfold ptrS at HWi1
        clear hsz2
        go_wp2_with fail
        refine HWi1.out.mono ?_
        rintro e w3 ⟨q1, rfl, _, ⟨A4, c4, os4, hm4, hk4⟩, hb3⟩
        have HFi1 := Lib.hid (refFits_any q1 (fun b => S b ∧ b ≠ q1) L m r v (st.time + 1) A4 c4 os4 w3 hm4 (by rw [hk4]; have := HBnd1.out.1; omega) (by rw [hk4]; have := HBnd1.out.2; omega))
        rw [hk4] at HFi1
        have HB3 := Lib.hid (HB2.out.trans (hb3.mono HB2.out.size))
        clear hm4 hk4 hb3 HWi1
        go_wp2_with fail
        refine HFi1.out.mono ?_
        rintro e w5 ⟨rfl, hb5⟩
        have HB5 := Lib.hid (HB3.out.trans (hb5.mono HB3.out.size))
        clear hb5 HFi1
        cases hfit : fitsS L (withS st l)
        · have HRo2 := Lib.hid (show roomS L st l low = (⟨st.time, collectS st.K low⟩ : PS) from HRo.out.trans (by rw [hfit]; exact if_neg (by simp)))
          have hinC : InS L ⟨st.time, collectS st.K low⟩ := ⟨fits_collect HO.out.sort HO.out.full low HIn.out.1, HIn.out.2⟩
          have hsmC := small_of HMay.out hinC
          have HCol := Lib.hid (refCollect_any p S L m r v st.time A c os st.K low w5 (HM.out.below HB5.out) HK.out HP.out (fun b hb => HS.out b (Nat.le_trans HB5.out.size hb)) HO.out.sort HO.out.full HSm.out.len HSm.out.vers HSm.out.byts (vers_collect HO.out low) hsmC.byts)
          obtain ⟨st2, hst2⟩ : ∃ y : PS, (⟨st.time, collectS st.K low⟩ : PS) = y := ⟨_, rfl⟩
          have ht2 : st2.time = st.time := by rw [← hst2]
          have hK2 : st2.K = collectS st.K low := by rw [← hst2]
          have HO2 := Lib.hid (okS_collect HO.out low)
          have HSm2 := Lib.hid hsmC
          rw [hst2] at HRo2 HO2 HSm2
          have HTm2 := Lib.hid (show st2.time + 1 < 18446744073709551616 by rw [ht2]; exact HTm.out)
          have HCo5 := Lib.hid (show C = if fitsS L (withS st2 l) = true then (⟨st2.time + 1, withS st2 l⟩, st2.time + 1, 0) else (st2, 0, 5) from HCo4.out.trans (by rw [HRo2.out, ht2]))
          rw [← ht2, ← hK2] at HCol
          unfold ptrS at HCol
          clear hinC hsmC hst2 ht2 hK2
          go_wp2_with fail
          refine HCol.out.mono ?_
          rintro e wi ⟨rfl, ⟨A2, c2, os2, hm2, hk2⟩, hmu2⟩
          have HM2 := Lib.hid hm2
          have HK2 := Lib.hid hk2
          have HMut2 := Lib.hid ((Below.mut HB5.out (fun k => k = p)).trans hmu2 (fun k hk => .inl hk))
          clear hm2 hk2 hmu2 HCol
          have hsz2 := HMut2.out.size
          obtain ⟨b1, b2, b3⟩ := up_small HO2.out HSm2.out HCk0.out l.length (Nat.le_refl _)
          rw [upG_len] at b1 b2 b3
          unfold szS at b1 b2 b3
          simp only at b1 b2 b3
          have HBnd := Lib.hid (And.intro b2 b3)
          clear b1 b2 b3
          have HWi2 := Lib.hid (refWith_any p S L m r v st2 A2 c2 os2 l hi AW cW wi HM2.out HK2.out (fun b hb => HS.out b (Nat.le_trans hsz2 hb)) HSm2.out.len HSm2.out.vers HTm2.out hll (HR.out.mut HMut2.out HHi.out HSep.out) (Nat.le_trans HHi.out hsz2) HSW.out)
          unfold ptrS at HWi2
          clear hsz2
          go_wp2_with fail
          refine HWi2.out.mono ?_
          rintro e wj ⟨q, rfl, hq, ⟨A3, c3, os3, hm3, hk3⟩, hbj⟩
          have HFi2 := Lib.hid (refFits_any q (fun b => S b ∧ b ≠ q) L m r v (st2.time + 1) A3 c3 os3 wj hm3 (by rw [hk3]; have := HBnd.out.1; omega) (by rw [hk3]; have := HBnd.out.2; omega))
          rw [hk3] at HFi2
          have HQ := Lib.hid hq
          have HM3 := Lib.hid hm3
          have HK3 := Lib.hid hk3
          have HBj := Lib.hid hbj
          clear hq hm3 hk3 hbj HWi2
          go_wp2_with fail
          refine HFi2.out.mono ?_
          rintro e wk ⟨rfl, hbk⟩
          have HMutK := Lib.hid (HMut2.out.trans (Below.mut (HBj.out.trans (hbk.mono HBj.out.size)) (fun k => k = p)) (fun k hk => .inl hk))
          have HMp := Lib.hid (HM2.out.below (HBj.out.trans (hbk.mono HBj.out.size)))
          have HMq := Lib.hid (HM3.out.below hbk)
          have HNe := Lib.hid (show q ≠ p by have := HM2.out.lt; have := HQ.out; omega)
          clear hbk HFi2
          cases hfit2 : fitsS L (withS st2 l)
          · have HCoF := Lib.hid (show C = (st2, 0, 5) from HCo5.out.trans (by rw [hfit2]; exact if_neg (by simp)))
            go_wp2
            refine bodyPost_ret (v := .tuple #[.int .u64 0, .int .i64 5]) (by simp [results, Try.results65, go_sem]) rfl ?_
            rw [HCoF.out]
            exact ⟨rfl, ⟨A2, c2, os2, HMp.out, HK2.out⟩, HMutK.out⟩
          · have HCoF := Lib.hid (show C = (⟨st2.time + 1, withS st2 l⟩, st2.time + 1, 0) from HCo5.out.trans (by rw [hfit2]; exact if_pos rfl))
            have HAd := Lib.hid (RefM.adopt HMp.out HMq.out HP.out (fun b hb => hb.1))
            have q7 := cell_of_row wk q 7 _ _ _ HMq.out.box
            have q8 := cell_of_row wk q 8 _ _ _ HMq.out.box
            have p7 := cell_of_row wk p 7 _ _ _ HMp.out.box
            have p8 := cell_of_row wk p 8 _ _ _ HMp.out.box
            have f7 := frozen_of HMp.out.box 7
            have f8 := frozen_of HMp.out.box 8
            have hne := HNe.out
            have t7 := cell_of_row _ p 7 _ _ _ HAd.out.1.box
            go_wp2_with fail
            go_region
            go_wp2_with fail
            refine bodyPost_ret (v := .tuple #[.int .u64 ((st2.time + 1 : Nat) : Int), .int .i64 0]) (by simp [results, Try.results65, go_sem]) rfl ?_
            rw [HCoF.out]
            exact ⟨rfl, ⟨A3, c3, os3, HAd.out.1.below (Below.refl _ _).drew, HK3.out⟩, (HMutK.out.trans HAd.out.2 (fun k hk => .inl hk)).trans (Below.mut (Below.refl _ _).drew _) (fun k hk => .inl hk)⟩
        · have HRo2 := Lib.hid (show roomS L st l low = st from HRo.out.trans (by rw [hfit]; exact if_pos rfl))
          have HCo5 := Lib.hid (show C = if fitsS L (withS st l) = true then (⟨st.time + 1, withS st l⟩, st.time + 1, 0) else (st, 0, 5) from HCo4.out.trans (by rw [HRo2.out]))
          have HM2 := Lib.hid (HM.out.below HB5.out)
          have HK2 := HK
          have HMut2 := Lib.hid (Below.mut HB5.out (fun k => k = p))
          have HO2 := HO
          have HSm2 := HSm
          have HTm2 := HTm
          clear hfit
          have hsz2 := HMut2.out.size
          obtain ⟨b1, b2, b3⟩ := up_small HO2.out HSm2.out HCk0.out l.length (Nat.le_refl _)
          rw [upG_len] at b1 b2 b3
          unfold szS at b1 b2 b3
          simp only at b1 b2 b3
          have HBnd := Lib.hid (And.intro b2 b3)
          clear b1 b2 b3
          have HWi2 := Lib.hid (refWith_any p S L m r v st A c os l hi AW cW w5 HM2.out HK2.out (fun b hb => HS.out b (Nat.le_trans hsz2 hb)) HSm2.out.len HSm2.out.vers HTm2.out hll (HR.out.mut HMut2.out HHi.out HSep.out) (Nat.le_trans HHi.out hsz2) HSW.out)
          unfold ptrS at HWi2
          clear hsz2
          go_wp2_with fail
          refine HWi2.out.mono ?_
          rintro e wj ⟨q, rfl, hq, ⟨A3, c3, os3, hm3, hk3⟩, hbj⟩
          have HFi2 := Lib.hid (refFits_any q (fun b => S b ∧ b ≠ q) L m r v (st.time + 1) A3 c3 os3 wj hm3 (by rw [hk3]; have := HBnd.out.1; omega) (by rw [hk3]; have := HBnd.out.2; omega))
          rw [hk3] at HFi2
          have HQ := Lib.hid hq
          have HM3 := Lib.hid hm3
          have HK3 := Lib.hid hk3
          have HBj := Lib.hid hbj
          clear hq hm3 hk3 hbj HWi2
          go_wp2_with fail
          refine HFi2.out.mono ?_
          rintro e wk ⟨rfl, hbk⟩
          have HMutK := Lib.hid (HMut2.out.trans (Below.mut (HBj.out.trans (hbk.mono HBj.out.size)) (fun k => k = p)) (fun k hk => .inl hk))
          have HMp := Lib.hid (HM2.out.below (HBj.out.trans (hbk.mono HBj.out.size)))
          have HMq := Lib.hid (HM3.out.below hbk)
          have HNe := Lib.hid (show q ≠ p by have := HM2.out.lt; have := HQ.out; omega)
          clear hbk HFi2
          cases hfit2 : fitsS L (withS st l)
          · have HCoF := Lib.hid (show C = (st, 0, 5) from HCo5.out.trans (by rw [hfit2]; exact if_neg (by simp)))
            go_wp2
            refine bodyPost_ret (v := .tuple #[.int .u64 0, .int .i64 5]) (by simp [results, Try.results65, go_sem]) rfl ?_
            rw [HCoF.out]
            exact ⟨rfl, ⟨A, c, os, HMp.out, HK2.out⟩, HMutK.out⟩
          · have HCoF := Lib.hid (show C = (⟨st.time + 1, withS st l⟩, st.time + 1, 0) from HCo5.out.trans (by rw [hfit2]; exact if_pos rfl))
            have HAd := Lib.hid (RefM.adopt HMp.out HMq.out HP.out (fun b hb => hb.1))
            have q7 := cell_of_row wk q 7 _ _ _ HMq.out.box
            have q8 := cell_of_row wk q 8 _ _ _ HMq.out.box
            have p7 := cell_of_row wk p 7 _ _ _ HMp.out.box
            have p8 := cell_of_row wk p 8 _ _ _ HMp.out.box
            have f7 := frozen_of HMp.out.box 7
            have f8 := frozen_of HMp.out.box 8
            have hne := HNe.out
            have t7 := cell_of_row _ p 7 _ _ _ HAd.out.1.box
            go_wp2_with fail
            go_region
            go_wp2_with fail
            refine bodyPost_ret (v := .tuple #[.int .u64 ((st.time + 1 : Nat) : Int), .int .i64 0]) (by simp [results, Try.results65, go_sem]) rfl ?_
            rw [HCoF.out]
            exact ⟨rfl, ⟨A3, c3, os3, HAd.out.1.below (Below.refl _ _).drew, HK3.out⟩, (HMutK.out.trans HAd.out.2 (fun k hk => .inl hk)).trans (Below.mut (Below.refl _ _).drew _) (fun k hk => .inl hk)⟩
  · have d1 : ((checkS [] l) == 0) = false := by rw [beq_eq_false_iff_ne]; exact hck
    have HCo2 := Lib.hid (HCo.out.trans (if_pos hck))
    go_wp2
    refine bodyPost_ret (v := .tuple #[.int .u64 0, .int .i64 (checkS [] l)]) (by simp [results, Try.results65, go_sem]) rfl ?_
    rw [HCo2.out]
    exact ⟨rfl, ⟨A, c, os, HM.out.below HB1.out, HK.out⟩, Below.mut HB1.out _⟩
end Go.Proofs.Ytooegjdppeiccaa
