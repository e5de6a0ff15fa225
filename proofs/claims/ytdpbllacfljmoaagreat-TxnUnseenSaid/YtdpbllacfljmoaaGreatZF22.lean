import Derived.Test.YtdpbllacfljmoaaGreatZF20
import Derived.Test.YtdpbllacfljmoaaGreatZF21
import Derived.Deep.RegionHeld3
set_option maxRecDepth 100000
set_option maxHeartbeats 16000000
set_option linter.unusedVariables false
namespace Go.Proofs.YtdpbllacfljmoaaGreat
open Go.RowKit
def q87 (w : World) (F : Nat → Prop) (hi : Nat) (A : Option Addr) (c : Nat) (l : List Wr) : Prop := ∀ w' : World, Mut F w w' → ChW w' 0 hi A c l
theorem q87.of {w : World} {F : Nat → Prop} {lo hi : Nat} {A : Option Addr} {c : Nat} {l : List Wr} (h : ChW w lo hi A c l) (hhi : hi ≤ w.heap.size) (hsep : ∀ k, F k → k < lo ∨ hi ≤ k) : q87 w F hi A c l := fun _ hm =>
 (h.keep fun b h1 h2 => hm.block b (Nat.lt_of_lt_of_le h2 hhi) fun hf => by rcases hsep b hf with h3 | h3 <;> omega).wide (Nat.zero_le _) (Nat.le_refl _)
theorem q87.turn {w w1 : World} {F F1 : Nat → Prop} {hi : Nat} {A : Option Addr} {c : Nat} {l : List Wr} (h : q87 w F hi A c l) (hm : Mut F w w1) (hF : ∀ k, F1 k → F k ∨ w.heap.size ≤ k) : q87 w1 F1 hi A c l := fun w' hm' => h w' (hm.trans hm' hF)
theorem q1S (l : List UInt8) (A : Option Addr) (c hi : Nat) (W : World) (hl : l.length ≤ 4294967296) (hs : Sl W hi A c l) (hhi : hi ≤ W.heap.size) :
  Calls Tryz.prog 77 #[.slice A l.length c] W fun e w' => ∃ A' c', e = .returned (.slice A' l.length c') ∧ SlI w' W.heap.size w'.heap.size A' c' l ∧ Below W.heap.size W w' :=
 (q72 l A c hi W hl hs hhi).mono fun _ _ ⟨A', c', e, h1, h2, h3, h4, h5⟩ => ⟨A', c', e, ⟨h1, h2, h3, h4⟩, h5⟩
theorem qaJ {w : World} {p : Nat} {F D : Nat → Prop} {B : Nat} {kv : Value} {cv : KeyS → Value} {L : LimS} {m r v : Int} (st : PS) (z : Sz) (l : List Wr) (hi : Nat) (A : Option Addr) (c : Nat)
  (h : RawS w p F D B kv cv L m r v (st.time + 1) (q03 st.K) (st.K.map Prod.fst) z) (ho : OkS st) (hs : q5g st) (hc : q0h [] l = 0) (hl : l.length ≤ 1048576) (hr : q87 w F hi A c l) (hhi : hi ≤ w.heap.size) (htm : st.time + 1 < 18446744073709551616) :
  Calls Tryz.prog 199 #[ptrS p, .slice A l.length c] w fun e w' => e = .returned (.tuple #[]) ∧
   ∃ F' D' kv' cv', RawS w' p F' D' B kv' cv' L m r v (st.time + 1) (q03 (q0n st l)) ((q0n st l).map Prod.fst) z ∧ Mut F w w' ∧ ∀ b, F' b → F b ∨ w.heap.size ≤ b := by
 have HH := qh h
 have HO := qh ho
 have HS := qh hs
 have HC := qh hc
 have HR := qh hr
 have HHi := qh hhi
 have HTm := qh htm
 clear h ho hs hc hr hhi htm
 unfold ptrS
 go_enter Tryz.func199, Tryz.ntmps199
 go_wp2_with fail
 go_loopg [4, 10] l.length (fun q u i wr => ∃ (j : Nat) (F' D' : Nat → Prop) (cv' : KeyS → Value), j + q = l.length ∧ i = .int .i64 j ∧ OwnG 9 1 q0w wr w.heap.size u (q0U st l j) ∧ (q0U st l j = [] → u = .slice none 0 0) ∧
  RawS wr p F' D' B kv cv' L m r v (st.time + 1) (q03 (upG st l j)) (st.K.map Prod.fst) z ∧ Mut F w wr ∧ (∀ b, F' b → F b ∨ w.heap.size ≤ b) ∧ ∀ b, u.ownBlock = some b → ¬ F' b)
 case atStart => exact ⟨0, F, D, cv, by omega, rfl, OwnG.none_ _ _ _ _ _, fun _ => rfl, HH.out, Mut.refl _ _, fun _ h => .inl h, fun b hb => by simp [Value.ownBlock] at hb⟩
 case round =>
  obtain ⟨j, F1, D1, cv1, hk, rfl, hfr, hfr0, hraw, hmut, hF1, hsepf⟩ := hrel
  have HK := qh hk
  have HFr := qh hfr
  have HFr0 := qh hfr0
  have HRaw := qh hraw
  have HMut := qh hmut
  have HF1 := qh hF1
  have HSepF := qh hsepf
  clear hk hfr hfr0 hraw hmut hF1 hsepf
  by_cases hj : j < l.length
  ·have hlt : decide ((j : Int) < (l.length : Int)) = true := by simpa using hj
   have hlt2 : decide (j < l.length) = true := by simpa using hj
   obtain ⟨b, o, A', c', rfl, _, d0, d1, d2, hsl, hkl⟩ := (HR.out wr HMut.out).2.2.2.at_ hj
   have hwb := (q0M HC.out).1 _ (List.getElem_mem hj)
   obtain ⟨u1, u2, u3⟩ := qbg HO.out HC.out j
   have hch := u3 j hj (Nat.le_refl _)
   have HBr := qh (q8g HO.out (l[j]'hj) (Nat.le_succ st.time))
   have HCh := qh hch
   have HTm1 := qh (show q24 (q03 st.K (l[j]'hj).key) ≤ st.time from q7P (HO.out.upto _))
   have HNo := qh (fun h => show upG st l (j + 1) = upG st l j from qbf hj h)
   have HYes := qh (fun h => qfB HO.out HC.out hj h)
   have HFY := qh (fun h => q8L (st := st) hj h)
   have HFN := qh (fun h => q7I (st := st) hj h)
   have HIs : Hid (q7M st (l[j]'hj) = (q1x st (l[j]'hj) && (q03 st.K (l[j]'hj).key).isEmpty)) := qh rfl
   have HVer : Hid (verW st (l[j]'hj) = ⟨st.time + 1, (l[j]'hj).gone, (l[j]'hj).dat⟩) := qh rfl
   obtain ⟨w2, hw2⟩ : ∃ y, wr.alloc (.cells #[.string (bs (l[j]'hj).key), .bool (l[j]'hj).gone, .slice A' (l[j]'hj).dat.length c'] 37) = y := ⟨_, rfl⟩
   have b2 : Below wr.heap.size wr w2 := by rw [← hw2]; exact (Below.refl _ wr).alloc (Nat.le_refl _) _
   have s2 : w2.heap.size = wr.heap.size + 1 := by rw [← hw2]; simp
   have hx2 : w2.heap[wr.heap.size]? = some (.cells #[.string (bs (l[j]'hj).key), .bool (l[j]'hj).gone, .slice A' (l[j]'hj).dat.length c'] 37 (0, 0)) := by rw [← hw2]; exact heap_alloc_new wr _
   have HCall := qh (q60 (HRaw.out.below b2) (l[j]'hj).key (l[j]'hj).gone A' (l[j]'hj).dat.length c' (by rw [hch]; exact HS.out.ok _) (by rw [hch]; exact HO.out.rightC _))
   rw [hch, HBr.out] at HCall
   have x0 := cell_of_row _ _ 0 _ _ _ hx2
   have x1 := cell_of_row _ _ 1 _ _ _ hx2
   have x2 := cell_of_row _ _ 2 _ _ _ hx2
   have hlow : wr.heap.size ≥ hi := Nat.le_trans HHi.out HMut.out.size
   have HSl := qh (hsl.sl.below b2 hlow (Nat.le_refl hi))
   have HX2 := qh hx2
   have HB2 := qh b2
   have HS2 := qh s2
   have HW2 := qh hw2
   have HLow := qh hlow
   have HWb := qh hwb
   clear hsl hx2 b2 s2 hw2 hkl hch u1 u2 u3 hwb hlow
   generalize hX : l[j] = X at *
   generalize hcc : q1x st X = cm at *
   generalize hee : (q03 st.K X.key).isEmpty = em at *
   have HEm := qh hee
   obtain ⟨key, gone, dat⟩ := X
   simp only at d0 d1 d2 HCh HYes HFY HCall x0 x1 x2 HX2 HW2 HTm1 HVer HSl HEm
   clear hX hcc hee
   unfold ptrS at HCall
   go_upto_region 4 with fail
   rw [HW2.out]
   clear HW2 d0 d1 d2
   go_wp2_with fail
   refine HCall.out.mono ?_
   rintro e w3 ⟨rfl, hb3⟩
   have hx3 := q01 HX2.out hb3 (q00 HX2.out)
   have hb13 := HB2.out.trans (hb3.mono HB2.out.size)
   have HB3 := qh hb13
   have HX3 := qh hx3
   have HRaw3 := qh (HRaw.out.below hb13)
   have HFr3 := qh (OwnG.below HFr.out hb13)
   have HSl3 := qh (HSl.out.below hb3 (by have := HS2.out; have := HLow.out; omega) (Nat.le_refl hi))
   clear hx3 hb13 hb3 HCall x0 x1 x2 HX2 HSl
   cases cm
   ·simp only [Bool.false_eq_true, if_false]
    have HFr4 := qh (show q0U st l (j + 1) = q0U st l j from HFN.out (by rw [HIs.out]; rfl))
    go_wp2
    go_roundg (gk - 1)
    case measure => have := HK.out; omega
    case rel => exact ⟨j + 1, F1, D1, cv1, by have := HK.out; omega, by go_num, by rw [HFr4.out]; exact HFr3.out, by rw [HFr4.out]; exact HFr0.out, by rw [HNo.out (by first | rfl | trivial)]; exact HRaw3.out, HMut.out.trans (Below.mut HB3.out F1) HF1.out, HF1.out, HSepF.out⟩
   ·cases em
    ·simp only [Bool.false_eq_true, if_false, if_true]
     have HFE := qh (show q0U st l (j + 1) = q0U st l j from HFN.out (by rw [HIs.out]; rfl))
     have HRaw4 := HRaw3
     have HX4 := HX3
     have HSl4 := HSl3
     have HHi4 := qh (show hi ≤ w3.heap.size by have := HB3.out.size; have := HLow.out; omega)
     have HMut4 := qh (HMut.out.trans (Below.mut HB3.out F1) HF1.out)
     have HFr4 := HFr3
     rw [← HFE.out] at HFr4
     have HFr40 := HFr0
     rw [← HFE.out] at HFr40
     have HSepF4 := HSepF
     have hraw3 := HRaw3.out
     have KEEP : Hid (∀ W, Below w3.heap.size w3 W → W.cell? ⟨p, 7, none⟩ = some (.int .u64 ((st.time + 1 : Nat) : Int)) ∧ W.cell? ⟨wr.heap.size, 1, none⟩ = some (.bool gone) ∧ W.cell? ⟨wr.heap.size, 2, none⟩ = some (.slice A' dat.length c') ∧ Below w3.heap.size w3 W) := qh fun W hb =>
      ⟨(HRaw3.out.below hb).now_, cell_of_row W _ 1 _ _ _ (q01 HX4.out hb (q00 HX4.out)), cell_of_row W _ 2 _ _ _ (q01 HX4.out hb (q00 HX4.out)), hb⟩
     have HCl : Hid (∀ W, Below w3.heap.size w3 W → Calls Tryz.prog 77 #[.slice A' dat.length c'] W fun e w' => ∃ A9 c9, e = .returned (.slice A9 dat.length c9) ∧ SlI w' w3.heap.size w'.heap.size A9 c9 dat ∧ Below w3.heap.size w3 w') := qh fun W hb =>
      (q1S dat A' c' hi W (by have := HWb.out.2.2.1; omega) (HSl4.out.below hb HHi4.out (Nat.le_refl hi)) (Nat.le_trans HHi4.out hb.size)).mono fun _ _ ⟨A9, c9, e, h1, h2⟩ => ⟨A9, c9, e, h1.wide hb.size (Nat.le_refl _), hb.trans (h2.mono hb.size)⟩
     have HClA : Hid (Calls Tryz.prog 77 #[.slice A' dat.length c'] (w3.alloc (.cells #[.int .u64 0, .bool false, .slice none 0 0] 182)).drew fun e w' => ∃ A9 c9, e = .returned (.slice A9 dat.length c9) ∧ SlI w' (w3.heap.size + 1) w'.heap.size A9 c9 dat ∧ Below w3.heap.size w3 w' ∧ w'.heap[w3.heap.size]? = some (.cells #[.int .u64 0, .bool false, .slice none 0 0] 182 (0, 0)) ∧ w'.cell? ⟨w3.heap.size, 0, none⟩ = some (.int .u64 0) ∧ w'.cell? ⟨w3.heap.size, 1, none⟩ = some (.bool false) ∧ w'.cell? ⟨w3.heap.size, 2, none⟩ = some (.slice none 0 0) ∧ w'.frozen? ⟨w3.heap.size, 0, none⟩ = false ∧ w'.frozen? ⟨w3.heap.size, 1, none⟩ = false ∧ w'.frozen? ⟨w3.heap.size, 2, none⟩ = false) := qh (by
      have hb : Below w3.heap.size w3 (w3.alloc (.cells #[.int .u64 0, .bool false, .slice none 0 0] 182)).drew := ((Below.refl _ w3).alloc (Nat.le_refl _) _).drew
      have hsz : (w3.alloc (.cells #[.int .u64 0, .bool false, .slice none 0 0] 182)).drew.heap.size = w3.heap.size + 1 := by show (w3.alloc _).heap.size = _; simp
      refine (q1S dat A' c' hi _ (by have := HWb.out.2.2.1; omega) (HSl4.out.below hb HHi4.out (Nat.le_refl hi)) (Nat.le_trans HHi4.out hb.size)).mono ?_
      rintro e w' ⟨A9, c9, he, h1, h2⟩
      have h3 : w'.heap[w3.heap.size]? = some (.cells #[.int .u64 0, .bool false, .slice none 0 0] 182 (0, 0)) := (h2.block _ (by rw [hsz]; omega)).trans (heap_alloc_new w3 _)
      rw [hsz] at h1
      exact ⟨A9, c9, he, h1, hb.trans (h2.mono hb.size), h3, cell_of_row w' _ 0 _ _ _ h3, cell_of_row w' _ 1 _ _ _ h3, cell_of_row w' _ 2 _ _ _ h3, q02 h3 0, q02 h3 1, q02 h3 2⟩)
     obtain ⟨y0, y1, y2, _⟩ := KEEP.out _ (Below.refl _ _)
     clear hraw3
     go_wp2_with fail
     go_region_held3 (fun W => W.cell? ⟨p, 7, none⟩ = some (.int .u64 ((st.time + 1 : Nat) : Int)) ∧ W.cell? ⟨wr.heap.size, 1, none⟩ = some (.bool gone) ∧ W.cell? ⟨wr.heap.size, 2, none⟩ = some (.slice A' dat.length c') ∧ Below w3.heap.size w3 W)
      (first
       | with_reducible exact KEEP.out _ hb6
       | with_reducible exact KEEP.out _ (Below.refl _ _).drew
       | exact KEEP.out _ (hb6.alloc hb6.size _)
       | exact KEEP.out _ ((Below.refl _ _).alloc (Nat.le_refl _) _).drew
       | exact KEEP.out _ (Below.box3 hb6 (Nat.le_refl _) _ _ _)
       | exact KEEP.out _ (Below.box3 (hb6.alloc hb6.size _) hb6.size _ _ _))
      ((first
       | (go_at_call 77; with_reducible refine HClA.out.mono ?_; rintro e w6 ⟨A9, c9, rfl, hs6, hb6, hx6, q0, q1, q2, q3, q4, q5⟩)
       | (go_at_call 77; refine (HCl.out _ (by go_split_ands; assumption)).mono ?_; rintro e w6 ⟨A9, c9, rfl, hs6, hb6⟩)))
     ·have MID := midB ((st.time : Int) + 1) gone hb6 hs6
      clear hb6 hs6 HClA HCl KEEP y0 y1 y2
      obtain ⟨W, vb, hW, hvb, hvl, hbW, hxW, hdW⟩ := MID
      rw [hW, hvb]
      have hrawW := HRaw3.out.below hbW
      obtain ⟨v9, w9, w10, happ, hupd, hsame, hsp, hs10, hos, hraw10⟩ := q5E hrawW w3.heap.size HRaw3.out.lt hbW.size vb (st.time + 1) gone dat A9 c9 HTm.out hdW key (by rw [HCh.out]; exact (HS.out.ok _).1)
      rw [HCh.out, ← HVer.out, ← HYes.out (by first | rfl | trivial)] at hraw10
      have hxa := q01 HX4.out hbW (q00 HX4.out)
      have hF1x : ¬ F1 wr.heap.size := fun hf => by have := HRaw.out.lt _ hf; omega
      have hF1v : ¬ F1 vb := fun hf => by have := HRaw3.out.lt _ hf; omega
      have hxlt : wr.heap.size < W.heap.size := q00 hxa
      have hvlt : vb < W.heap.size := q00 hxW
      have KK : ∀ W' : World, W'.heap[p]? = W.heap[p]? → W'.heap[wr.heap.size]? = W.heap[wr.heap.size]? → W'.heap[vb]? = W.heap[vb]? → W'.cell? ⟨p, 8, none⟩ = some (.map (some B)) ∧ W'.cell? ⟨wr.heap.size, 0, none⟩ = some (.string (bs key)) ∧ W'.cell? ⟨vb, 0, none⟩ = some (.int .u64 ((st.time : Int) + 1)) ∧ W'.cell? ⟨vb, 1, none⟩ = some (.bool gone) ∧ W'.cell? ⟨vb, 2, none⟩ = some (.slice A9 dat.length c9) := fun W' h1 h2 h3 =>
       ⟨cell_of_row W' p 8 _ _ _ (h1.trans hrawW.box), cell_of_row W' _ 0 _ _ _ (h2.trans hxa), cell_of_row W' _ 0 _ _ _ (h3.trans hxW), cell_of_row W' _ 1 _ _ _ (h3.trans hxW), cell_of_row W' _ 2 _ _ _ (h3.trans hxW)⟩
      have haloc : ∀ b, b < W.heap.size → (W.drew.alloc (.cells (q0E ((st.time : Int) + 1) gone A9 dat.length c9) 182)).heap[b]? = W.heap[b]? := fun b hb => ((Below.refl _ W).drew.alloc (Nat.le_refl _) _).block b hb
      have hplt := hrawW.lt p hrawW.Fp
      have K0 := qh (KK W.drew rfl rfl rfl)
      have K1 := qh (KK (W.drew.alloc (.cells (q0E ((st.time : Int) + 1) gone A9 dat.length c9) 182)) (haloc p hplt) (haloc _ hxlt) (haloc _ hvlt))
      have K2 := qh (KK w9 hsp.1 (hsame _ hxlt hF1x).1 (hsame _ hvlt hF1v).1)
      have K3 := qh (KK w10 hsp.2 (hsame _ hxlt hF1x).2 (hsame _ hvlt hF1v).2)
      have hlk0 := (hrawW.keep (w' := W.drew) fun _ _ => rfl).look key
      have hlk1 := (hrawW.keep (w' := W.drew.alloc (.cells (q0E ((st.time : Int) + 1) gone A9 dat.length c9) 182)) fun b hb => haloc b (hrawW.lt b hb)).look key
      have HApp := qh happ
      have HUpd := qh hupd
      have HRaw10 := qh hraw10
      have hmut9 : Mut F1 w3 w10 := ⟨hos.1.trans hbW.os, hos.2.1.trans hbW.tape, hos.2.2.trans hbW.output, Nat.le_trans hbW.size hs10, fun b hb hf => (hsame b (Nat.lt_of_lt_of_le hb hbW.size) hf).2.trans (hbW.block b hb)⟩
      have HMut10 := qh (HMut4.out.trans hmut9 HF1.out)
      have HFr10 := qh (OwnG.keep HFr4.out (fun b hb hlt => hmut9.block b hlt (HSepF4.out b hb)) (Nat.le_refl _))
      have HF10 := qh (show ∀ b, (F1 b ∨ (w3.heap.size ≤ b ∧ b < w10.heap.size)) → F b ∨ w.heap.size ≤ b from fun b hb => by
       rcases hb with h1 | h1
       ·exact HF1.out b h1
       ·exact .inr (Nat.le_trans HMut4.out.size h1.1))
      have HSep10 := qh (fun b hb => show ¬ (F1 b ∨ (w3.heap.size ≤ b ∧ b < w10.heap.size)) from fun h => by
       rcases h with h1 | h1
       ·exact HSepF4.out b hb h1
       ·have := (HFr4.out.lt b hb).2
        omega)
      unfold q0E at K1 hlk1 HApp
      obtain ⟨k8, kx, kv0, kv1, kv2⟩ := K0.out
      clear happ hupd hsame hsp hs10 hos hraw10 hmut9 haloc KK hrawW hW hvb hvl hbW hxW hdW hxa hF1x hF1v hxlt hvlt hplt
      have hlk2 : (Instr.lookup 162 (.map (some B)) (.string (bs key)) false).run Tryz.prog (W.alloc (.cells #[.int .u64 ((st.time : Int) + 1), .bool gone, .slice A9 dat.length c9] 182)).drew = .ok (valS (q03 (upG st l j)) cv1 key) (W.alloc (.cells #[.int .u64 ((st.time : Int) + 1), .bool gone, .slice A9 dat.length c9] 182)).drew := hlk1
      have hupd2 := HUpd.out
      go_wp2_with fail
      go_region_held3 (fun W' => W'.cell? ⟨p, 8, none⟩ = some (.map (some B)) ∧ W'.cell? ⟨wr.heap.size, 0, none⟩ = some (.string (bs key)) ∧ W'.cell? ⟨vb, 0, none⟩ = some (.int .u64 ((st.time : Int) + 1)) ∧ W'.cell? ⟨vb, 1, none⟩ = some (.bool gone) ∧ W'.cell? ⟨vb, 2, none⟩ = some (.slice A9 dat.length c9))
       (first | exact K0.out | exact K1.out | exact K2.out | exact K3.out)
       ((refine q2h (by rfl) _ _ 123 (by rfl) _ _ _ (by rfl) (by rfl) (HApp.out _) ?_))
      all_goals
       go_wp2
       go_roundg (gk - 1)
       case measure => have := HK.out; omega
       case rel => exact ⟨j + 1, _, _, _, by have := HK.out; omega, by go_num, HFr10.out, HFr40.out, HRaw10.out, HMut10.out, HF10.out, HSep10.out⟩
     ·have MID := midA ((st.time : Int) + 1) gone hx6 hb6 hs6
      clear q0 q1 q2 q3 q4 q5 hx6 hb6 hs6 HClA HCl KEEP y0 y1 y2
      obtain ⟨W, vb, hW, hvb, hvl, hbW, hxW, hdW⟩ := MID
      rw [hW, hvb]
      have hrawW := HRaw3.out.below hbW
      obtain ⟨v9, w9, w10, happ, hupd, hsame, hsp, hs10, hos, hraw10⟩ := q5E hrawW w3.heap.size HRaw3.out.lt hbW.size vb (st.time + 1) gone dat A9 c9 HTm.out hdW key (by rw [HCh.out]; exact (HS.out.ok _).1)
      rw [HCh.out, ← HVer.out, ← HYes.out (by first | rfl | trivial)] at hraw10
      have hxa := q01 HX4.out hbW (q00 HX4.out)
      have hF1x : ¬ F1 wr.heap.size := fun hf => by have := HRaw.out.lt _ hf; omega
      have hF1v : ¬ F1 vb := fun hf => by have := HRaw3.out.lt _ hf; omega
      have hxlt : wr.heap.size < W.heap.size := q00 hxa
      have hvlt : vb < W.heap.size := q00 hxW
      have KK : ∀ W' : World, W'.heap[p]? = W.heap[p]? → W'.heap[wr.heap.size]? = W.heap[wr.heap.size]? → W'.heap[vb]? = W.heap[vb]? → W'.cell? ⟨p, 8, none⟩ = some (.map (some B)) ∧ W'.cell? ⟨wr.heap.size, 0, none⟩ = some (.string (bs key)) ∧ W'.cell? ⟨vb, 0, none⟩ = some (.int .u64 ((st.time : Int) + 1)) ∧ W'.cell? ⟨vb, 1, none⟩ = some (.bool gone) ∧ W'.cell? ⟨vb, 2, none⟩ = some (.slice A9 dat.length c9) := fun W' h1 h2 h3 =>
       ⟨cell_of_row W' p 8 _ _ _ (h1.trans hrawW.box), cell_of_row W' _ 0 _ _ _ (h2.trans hxa), cell_of_row W' _ 0 _ _ _ (h3.trans hxW), cell_of_row W' _ 1 _ _ _ (h3.trans hxW), cell_of_row W' _ 2 _ _ _ (h3.trans hxW)⟩
      have haloc : ∀ b, b < W.heap.size → (W.drew.alloc (.cells (q0E ((st.time : Int) + 1) gone A9 dat.length c9) 182)).heap[b]? = W.heap[b]? := fun b hb => ((Below.refl _ W).drew.alloc (Nat.le_refl _) _).block b hb
      have hplt := hrawW.lt p hrawW.Fp
      have K0 := qh (KK W.drew rfl rfl rfl)
      have K1 := qh (KK (W.drew.alloc (.cells (q0E ((st.time : Int) + 1) gone A9 dat.length c9) 182)) (haloc p hplt) (haloc _ hxlt) (haloc _ hvlt))
      have K2 := qh (KK w9 hsp.1 (hsame _ hxlt hF1x).1 (hsame _ hvlt hF1v).1)
      have K3 := qh (KK w10 hsp.2 (hsame _ hxlt hF1x).2 (hsame _ hvlt hF1v).2)
      have hlk0 := (hrawW.keep (w' := W.drew) fun _ _ => rfl).look key
      have hlk1 := (hrawW.keep (w' := W.drew.alloc (.cells (q0E ((st.time : Int) + 1) gone A9 dat.length c9) 182)) fun b hb => haloc b (hrawW.lt b hb)).look key
      have HApp := qh happ
      have HUpd := qh hupd
      have HRaw10 := qh hraw10
      have hmut9 : Mut F1 w3 w10 := ⟨hos.1.trans hbW.os, hos.2.1.trans hbW.tape, hos.2.2.trans hbW.output, Nat.le_trans hbW.size hs10, fun b hb hf => (hsame b (Nat.lt_of_lt_of_le hb hbW.size) hf).2.trans (hbW.block b hb)⟩
      have HMut10 := qh (HMut4.out.trans hmut9 HF1.out)
      have HFr10 := qh (OwnG.keep HFr4.out (fun b hb hlt => hmut9.block b hlt (HSepF4.out b hb)) (Nat.le_refl _))
      have HF10 := qh (show ∀ b, (F1 b ∨ (w3.heap.size ≤ b ∧ b < w10.heap.size)) → F b ∨ w.heap.size ≤ b from fun b hb => by
       rcases hb with h1 | h1
       ·exact HF1.out b h1
       ·exact .inr (Nat.le_trans HMut4.out.size h1.1))
      have HSep10 := qh (fun b hb => show ¬ (F1 b ∨ (w3.heap.size ≤ b ∧ b < w10.heap.size)) from fun h => by
       rcases h with h1 | h1
       ·exact HSepF4.out b hb h1
       ·have := (HFr4.out.lt b hb).2
        omega)
      unfold q0E at K1 hlk1 HApp
      obtain ⟨k8, kx, kv0, kv1, kv2⟩ := K0.out
      clear happ hupd hsame hsp hs10 hos hraw10 hmut9 haloc KK hrawW hW hvb hvl hbW hxW hdW hxa hF1x hF1v hxlt hvlt hplt
      have hlk2 : (Instr.lookup 162 (.map (some B)) (.string (bs key)) false).run Tryz.prog (W.alloc (.cells #[.int .u64 ((st.time : Int) + 1), .bool gone, .slice A9 dat.length c9] 182)).drew = .ok (valS (q03 (upG st l j)) cv1 key) (W.alloc (.cells #[.int .u64 ((st.time : Int) + 1), .bool gone, .slice A9 dat.length c9] 182)).drew := hlk1
      have hupd2 := HUpd.out
      go_wp2_with fail
      go_region_held3 (fun W' => W'.cell? ⟨p, 8, none⟩ = some (.map (some B)) ∧ W'.cell? ⟨wr.heap.size, 0, none⟩ = some (.string (bs key)) ∧ W'.cell? ⟨vb, 0, none⟩ = some (.int .u64 ((st.time : Int) + 1)) ∧ W'.cell? ⟨vb, 1, none⟩ = some (.bool gone) ∧ W'.cell? ⟨vb, 2, none⟩ = some (.slice A9 dat.length c9))
       (first | exact K0.out | exact K1.out | exact K2.out | exact K3.out)
       ((refine q2h (by rfl) _ _ 123 (by rfl) _ _ _ (by rfl) (by rfl) (HApp.out _) ?_))
      all_goals
       go_wp2
       go_roundg (gk - 1)
       case measure => have := HK.out; omega
       case rel => exact ⟨j + 1, _, _, _, by have := HK.out; omega, by go_num, HFr10.out, HFr40.out, HRaw10.out, HMut10.out, HF10.out, HSep10.out⟩
    ·simp only [if_true]
     have HFE := qh (show q0U st l (j + 1) = q0U st l j ++ [key] from HFY.out (by rw [HIs.out]; rfl))
     have hz0 := cell_of_row _ _ 0 _ _ _ HX3.out
     have hfl := q8K st l j
     go_wp2_with (at_builtin; refine q13 _ rfl _ _ 163 9 16 kF qdo Tryz.underlying163 rfl w.heap.size _ (q0U st l j) rfl (OwnG.allocs HFr3.out _) w3.heap.size (w3.heap.size + 1) ⟨w3.heap.size, 0, none⟩ 1 1 [key] rfl rfl (RowG.one (cs := q0w) (heap_alloc_new w3 _)) (by simp only [List.length_singleton]; unfold maxLen; omega) (by simp only [List.length_singleton]; omega) (by have := HB3.out.size; have := HMut.out.size; simp; omega) ?_; intro v1 w4 ho4 hg4 hat4; have HO4 := qh ho4; have HG4 := qh hg4; have HA4 := qh hat4; clear ho4 hg4 hat4)
     have HFr4 := HO4
     rw [← HFE.out] at HFr4
     have hult := HFr.out.lt
     have hw3 : wr.heap.size ≤ w3.heap.size := HB3.out.size
     have hkp : ∀ b, b < w3.heap.size → u4.ownBlock ≠ some b → w4.heap[b]? = w3.heap[b]? := fun b hb hne => (HG4.out.block b (by simp; omega) (fun e => hne e.symm)).trans (((Below.refl _ w3).alloc (Nat.le_refl _) _).block b hb)
     have hsz4 : w3.heap.size + 1 ≤ w4.heap.size := by have := HG4.out.size; simpa using this
     have HRaw4 := qh (HRaw3.out.keep (w' := w4) fun b hf => hkp b (HRaw3.out.lt b hf) (fun e => HSepF.out b e hf))
     have HX4 := qh ((hkp wr.heap.size (q00 HX3.out) (fun e => by have := (hult _ e).2; omega)).trans HX3.out)
     have hhi := HHi.out
     have HSl4 : Hid (Sl w4 hi A' c' dat) := qh ⟨HSl3.out.1, HSl3.out.2.1, HSl3.out.2.2.1, HSl3.out.2.2.2.keep fun q h1 h2 => World.cell?_of_block (hkp q.block (by have := HMut.out.size; omega) (fun e => by have := (hult _ e).1; omega))⟩
     have HHi4 := qh (show hi ≤ w4.heap.size by have := HMut.out.size; omega)
     have HMut4 : Hid (Mut F w w4) := qh (by
      have h3 := HMut.out.trans (Below.mut HB3.out F1) HF1.out
      exact ⟨HG4.out.os.trans h3.os, HG4.out.tape.trans h3.tape, HG4.out.output.trans h3.output, by have := HMut.out.size; omega, fun b hb hf => (hkp b (by have := HMut.out.size; omega) (fun e => by have := (hult _ e).1; omega)).trans (h3.block b hb hf)⟩)
     have HFr40 : Hid (q0U st l (j + 1) = [] → v1 = .slice none 0 0) := qh fun e => by
      rw [HFE.out] at e
      simp at e
     have HSepF4 : Hid (∀ b, v1.ownBlock = some b → ¬ F1 b) := qh fun b hb hf => by
      rcases HA4.out with h1 | h1
      ·exact HSepF.out b (h1 ▸ hb) hf
      ·rw [h1] at hb
       injection hb with hb
       have := HRaw.out.lt b hf
       simp at hb
       omega
     clear hult hw3 hkp hsz4 hhi hz0 hfl
     have hraw4 := HRaw4.out
     have KEEP : Hid (∀ W, Below w4.heap.size w4 W → W.cell? ⟨p, 7, none⟩ = some (.int .u64 ((st.time + 1 : Nat) : Int)) ∧ W.cell? ⟨wr.heap.size, 1, none⟩ = some (.bool gone) ∧ W.cell? ⟨wr.heap.size, 2, none⟩ = some (.slice A' dat.length c') ∧ Below w4.heap.size w4 W) := qh fun W hb =>
      ⟨(HRaw4.out.below hb).now_, cell_of_row W _ 1 _ _ _ (q01 HX4.out hb (q00 HX4.out)), cell_of_row W _ 2 _ _ _ (q01 HX4.out hb (q00 HX4.out)), hb⟩
     have HCl : Hid (∀ W, Below w4.heap.size w4 W → Calls Tryz.prog 77 #[.slice A' dat.length c'] W fun e w' => ∃ A9 c9, e = .returned (.slice A9 dat.length c9) ∧ SlI w' w4.heap.size w'.heap.size A9 c9 dat ∧ Below w4.heap.size w4 w') := qh fun W hb =>
      (q1S dat A' c' hi W (by have := HWb.out.2.2.1; omega) (HSl4.out.below hb HHi4.out (Nat.le_refl hi)) (Nat.le_trans HHi4.out hb.size)).mono fun _ _ ⟨A9, c9, e, h1, h2⟩ => ⟨A9, c9, e, h1.wide hb.size (Nat.le_refl _), hb.trans (h2.mono hb.size)⟩
     have HClA : Hid (Calls Tryz.prog 77 #[.slice A' dat.length c'] (w4.alloc (.cells #[.int .u64 0, .bool false, .slice none 0 0] 182)).drew fun e w' => ∃ A9 c9, e = .returned (.slice A9 dat.length c9) ∧ SlI w' (w4.heap.size + 1) w'.heap.size A9 c9 dat ∧ Below w4.heap.size w4 w' ∧ w'.heap[w4.heap.size]? = some (.cells #[.int .u64 0, .bool false, .slice none 0 0] 182 (0, 0)) ∧ w'.cell? ⟨w4.heap.size, 0, none⟩ = some (.int .u64 0) ∧ w'.cell? ⟨w4.heap.size, 1, none⟩ = some (.bool false) ∧ w'.cell? ⟨w4.heap.size, 2, none⟩ = some (.slice none 0 0) ∧ w'.frozen? ⟨w4.heap.size, 0, none⟩ = false ∧ w'.frozen? ⟨w4.heap.size, 1, none⟩ = false ∧ w'.frozen? ⟨w4.heap.size, 2, none⟩ = false) := qh (by
      have hb : Below w4.heap.size w4 (w4.alloc (.cells #[.int .u64 0, .bool false, .slice none 0 0] 182)).drew := ((Below.refl _ w4).alloc (Nat.le_refl _) _).drew
      have hsz : (w4.alloc (.cells #[.int .u64 0, .bool false, .slice none 0 0] 182)).drew.heap.size = w4.heap.size + 1 := by show (w4.alloc _).heap.size = _; simp
      refine (q1S dat A' c' hi _ (by have := HWb.out.2.2.1; omega) (HSl4.out.below hb HHi4.out (Nat.le_refl hi)) (Nat.le_trans HHi4.out hb.size)).mono ?_
      rintro e w' ⟨A9, c9, he, h1, h2⟩
      have h3 : w'.heap[w4.heap.size]? = some (.cells #[.int .u64 0, .bool false, .slice none 0 0] 182 (0, 0)) := (h2.block _ (by rw [hsz]; omega)).trans (heap_alloc_new w4 _)
      rw [hsz] at h1
      exact ⟨A9, c9, he, h1, hb.trans (h2.mono hb.size), h3, cell_of_row w' _ 0 _ _ _ h3, cell_of_row w' _ 1 _ _ _ h3, cell_of_row w' _ 2 _ _ _ h3, q02 h3 0, q02 h3 1, q02 h3 2⟩)
     obtain ⟨y0, y1, y2, _⟩ := KEEP.out _ (Below.refl _ _)
     clear hraw4
     go_wp2_with fail
     go_region_held3 (fun W => W.cell? ⟨p, 7, none⟩ = some (.int .u64 ((st.time + 1 : Nat) : Int)) ∧ W.cell? ⟨wr.heap.size, 1, none⟩ = some (.bool gone) ∧ W.cell? ⟨wr.heap.size, 2, none⟩ = some (.slice A' dat.length c') ∧ Below w4.heap.size w4 W)
      (first
       | with_reducible exact KEEP.out _ hb6
       | with_reducible exact KEEP.out _ (Below.refl _ _).drew
       | exact KEEP.out _ (hb6.alloc hb6.size _)
       | exact KEEP.out _ ((Below.refl _ _).alloc (Nat.le_refl _) _).drew
       | exact KEEP.out _ (Below.box3 hb6 (Nat.le_refl _) _ _ _)
       | exact KEEP.out _ (Below.box3 (hb6.alloc hb6.size _) hb6.size _ _ _))
      ((first
       | (go_at_call 77; with_reducible refine HClA.out.mono ?_; rintro e w6 ⟨A9, c9, rfl, hs6, hb6, hx6, q0, q1, q2, q3, q4, q5⟩)
       | (go_at_call 77; refine (HCl.out _ (by go_split_ands; assumption)).mono ?_; rintro e w6 ⟨A9, c9, rfl, hs6, hb6⟩)))
     ·have MID := midB ((st.time : Int) + 1) gone hb6 hs6
      clear hb6 hs6 HClA HCl KEEP y0 y1 y2
      obtain ⟨W, vb, hW, hvb, hvl, hbW, hxW, hdW⟩ := MID
      rw [hW, hvb]
      have hrawW := HRaw4.out.below hbW
      obtain ⟨v9, w9, w10, happ, hupd, hsame, hsp, hs10, hos, hraw10⟩ := q5E hrawW w4.heap.size HRaw4.out.lt hbW.size vb (st.time + 1) gone dat A9 c9 HTm.out hdW key (by rw [HCh.out]; exact (HS.out.ok _).1)
      rw [HCh.out, ← HVer.out, ← HYes.out (by first | rfl | trivial)] at hraw10
      have hxa := q01 HX4.out hbW (q00 HX4.out)
      have hF1x : ¬ F1 wr.heap.size := fun hf => by have := HRaw.out.lt _ hf; omega
      have hF1v : ¬ F1 vb := fun hf => by have := HRaw4.out.lt _ hf; omega
      have hxlt : wr.heap.size < W.heap.size := q00 hxa
      have hvlt : vb < W.heap.size := q00 hxW
      have KK : ∀ W' : World, W'.heap[p]? = W.heap[p]? → W'.heap[wr.heap.size]? = W.heap[wr.heap.size]? → W'.heap[vb]? = W.heap[vb]? → W'.cell? ⟨p, 8, none⟩ = some (.map (some B)) ∧ W'.cell? ⟨wr.heap.size, 0, none⟩ = some (.string (bs key)) ∧ W'.cell? ⟨vb, 0, none⟩ = some (.int .u64 ((st.time : Int) + 1)) ∧ W'.cell? ⟨vb, 1, none⟩ = some (.bool gone) ∧ W'.cell? ⟨vb, 2, none⟩ = some (.slice A9 dat.length c9) := fun W' h1 h2 h3 =>
       ⟨cell_of_row W' p 8 _ _ _ (h1.trans hrawW.box), cell_of_row W' _ 0 _ _ _ (h2.trans hxa), cell_of_row W' _ 0 _ _ _ (h3.trans hxW), cell_of_row W' _ 1 _ _ _ (h3.trans hxW), cell_of_row W' _ 2 _ _ _ (h3.trans hxW)⟩
      have haloc : ∀ b, b < W.heap.size → (W.drew.alloc (.cells (q0E ((st.time : Int) + 1) gone A9 dat.length c9) 182)).heap[b]? = W.heap[b]? := fun b hb => ((Below.refl _ W).drew.alloc (Nat.le_refl _) _).block b hb
      have hplt := hrawW.lt p hrawW.Fp
      have K0 := qh (KK W.drew rfl rfl rfl)
      have K1 := qh (KK (W.drew.alloc (.cells (q0E ((st.time : Int) + 1) gone A9 dat.length c9) 182)) (haloc p hplt) (haloc _ hxlt) (haloc _ hvlt))
      have K2 := qh (KK w9 hsp.1 (hsame _ hxlt hF1x).1 (hsame _ hvlt hF1v).1)
      have K3 := qh (KK w10 hsp.2 (hsame _ hxlt hF1x).2 (hsame _ hvlt hF1v).2)
      have hlk0 := (hrawW.keep (w' := W.drew) fun _ _ => rfl).look key
      have hlk1 := (hrawW.keep (w' := W.drew.alloc (.cells (q0E ((st.time : Int) + 1) gone A9 dat.length c9) 182)) fun b hb => haloc b (hrawW.lt b hb)).look key
      have HApp := qh happ
      have HUpd := qh hupd
      have HRaw10 := qh hraw10
      have hmut9 : Mut F1 w4 w10 := ⟨hos.1.trans hbW.os, hos.2.1.trans hbW.tape, hos.2.2.trans hbW.output, Nat.le_trans hbW.size hs10, fun b hb hf => (hsame b (Nat.lt_of_lt_of_le hb hbW.size) hf).2.trans (hbW.block b hb)⟩
      have HMut10 := qh (HMut4.out.trans hmut9 HF1.out)
      have HFr10 := qh (OwnG.keep HFr4.out (fun b hb hlt => hmut9.block b hlt (HSepF4.out b hb)) (Nat.le_refl _))
      have HF10 := qh (show ∀ b, (F1 b ∨ (w4.heap.size ≤ b ∧ b < w10.heap.size)) → F b ∨ w.heap.size ≤ b from fun b hb => by
       rcases hb with h1 | h1
       ·exact HF1.out b h1
       ·exact .inr (Nat.le_trans HMut4.out.size h1.1))
      have HSep10 := qh (fun b hb => show ¬ (F1 b ∨ (w4.heap.size ≤ b ∧ b < w10.heap.size)) from fun h => by
       rcases h with h1 | h1
       ·exact HSepF4.out b hb h1
       ·have := (HFr4.out.lt b hb).2
        omega)
      unfold q0E at K1 hlk1 HApp
      obtain ⟨k8, kx, kv0, kv1, kv2⟩ := K0.out
      clear happ hupd hsame hsp hs10 hos hraw10 hmut9 haloc KK hrawW hW hvb hvl hbW hxW hdW hxa hF1x hF1v hxlt hvlt hplt
      have hlk2 : (Instr.lookup 162 (.map (some B)) (.string (bs key)) false).run Tryz.prog (W.alloc (.cells #[.int .u64 ((st.time : Int) + 1), .bool gone, .slice A9 dat.length c9] 182)).drew = .ok (valS (q03 (upG st l j)) cv1 key) (W.alloc (.cells #[.int .u64 ((st.time : Int) + 1), .bool gone, .slice A9 dat.length c9] 182)).drew := hlk1
      have hupd2 := HUpd.out
      go_wp2_with fail
      go_region_held3 (fun W' => W'.cell? ⟨p, 8, none⟩ = some (.map (some B)) ∧ W'.cell? ⟨wr.heap.size, 0, none⟩ = some (.string (bs key)) ∧ W'.cell? ⟨vb, 0, none⟩ = some (.int .u64 ((st.time : Int) + 1)) ∧ W'.cell? ⟨vb, 1, none⟩ = some (.bool gone) ∧ W'.cell? ⟨vb, 2, none⟩ = some (.slice A9 dat.length c9))
       (first | exact K0.out | exact K1.out | exact K2.out | exact K3.out)
       ((refine q2h (by rfl) _ _ 123 (by rfl) _ _ _ (by rfl) (by rfl) (HApp.out _) ?_))
      all_goals
       go_wp2
       go_roundg (gk - 1)
       case measure => have := HK.out; omega
       case rel => exact ⟨j + 1, _, _, _, by have := HK.out; omega, by go_num, HFr10.out, HFr40.out, HRaw10.out, HMut10.out, HF10.out, HSep10.out⟩
     ·have MID := midA ((st.time : Int) + 1) gone hx6 hb6 hs6
      clear q0 q1 q2 q3 q4 q5 hx6 hb6 hs6 HClA HCl KEEP y0 y1 y2
      obtain ⟨W, vb, hW, hvb, hvl, hbW, hxW, hdW⟩ := MID
      rw [hW, hvb]
      have hrawW := HRaw4.out.below hbW
      obtain ⟨v9, w9, w10, happ, hupd, hsame, hsp, hs10, hos, hraw10⟩ := q5E hrawW w4.heap.size HRaw4.out.lt hbW.size vb (st.time + 1) gone dat A9 c9 HTm.out hdW key (by rw [HCh.out]; exact (HS.out.ok _).1)
      rw [HCh.out, ← HVer.out, ← HYes.out (by first | rfl | trivial)] at hraw10
      have hxa := q01 HX4.out hbW (q00 HX4.out)
      have hF1x : ¬ F1 wr.heap.size := fun hf => by have := HRaw.out.lt _ hf; omega
      have hF1v : ¬ F1 vb := fun hf => by have := HRaw4.out.lt _ hf; omega
      have hxlt : wr.heap.size < W.heap.size := q00 hxa
      have hvlt : vb < W.heap.size := q00 hxW
      have KK : ∀ W' : World, W'.heap[p]? = W.heap[p]? → W'.heap[wr.heap.size]? = W.heap[wr.heap.size]? → W'.heap[vb]? = W.heap[vb]? → W'.cell? ⟨p, 8, none⟩ = some (.map (some B)) ∧ W'.cell? ⟨wr.heap.size, 0, none⟩ = some (.string (bs key)) ∧ W'.cell? ⟨vb, 0, none⟩ = some (.int .u64 ((st.time : Int) + 1)) ∧ W'.cell? ⟨vb, 1, none⟩ = some (.bool gone) ∧ W'.cell? ⟨vb, 2, none⟩ = some (.slice A9 dat.length c9) := fun W' h1 h2 h3 =>
       ⟨cell_of_row W' p 8 _ _ _ (h1.trans hrawW.box), cell_of_row W' _ 0 _ _ _ (h2.trans hxa), cell_of_row W' _ 0 _ _ _ (h3.trans hxW), cell_of_row W' _ 1 _ _ _ (h3.trans hxW), cell_of_row W' _ 2 _ _ _ (h3.trans hxW)⟩
      have haloc : ∀ b, b < W.heap.size → (W.drew.alloc (.cells (q0E ((st.time : Int) + 1) gone A9 dat.length c9) 182)).heap[b]? = W.heap[b]? := fun b hb => ((Below.refl _ W).drew.alloc (Nat.le_refl _) _).block b hb
      have hplt := hrawW.lt p hrawW.Fp
      have K0 := qh (KK W.drew rfl rfl rfl)
      have K1 := qh (KK (W.drew.alloc (.cells (q0E ((st.time : Int) + 1) gone A9 dat.length c9) 182)) (haloc p hplt) (haloc _ hxlt) (haloc _ hvlt))
      have K2 := qh (KK w9 hsp.1 (hsame _ hxlt hF1x).1 (hsame _ hvlt hF1v).1)
      have K3 := qh (KK w10 hsp.2 (hsame _ hxlt hF1x).2 (hsame _ hvlt hF1v).2)
      have hlk0 := (hrawW.keep (w' := W.drew) fun _ _ => rfl).look key
      have hlk1 := (hrawW.keep (w' := W.drew.alloc (.cells (q0E ((st.time : Int) + 1) gone A9 dat.length c9) 182)) fun b hb => haloc b (hrawW.lt b hb)).look key
      have HApp := qh happ
      have HUpd := qh hupd
      have HRaw10 := qh hraw10
      have hmut9 : Mut F1 w4 w10 := ⟨hos.1.trans hbW.os, hos.2.1.trans hbW.tape, hos.2.2.trans hbW.output, Nat.le_trans hbW.size hs10, fun b hb hf => (hsame b (Nat.lt_of_lt_of_le hb hbW.size) hf).2.trans (hbW.block b hb)⟩
      have HMut10 := qh (HMut4.out.trans hmut9 HF1.out)
      have HFr10 := qh (OwnG.keep HFr4.out (fun b hb hlt => hmut9.block b hlt (HSepF4.out b hb)) (Nat.le_refl _))
      have HF10 := qh (show ∀ b, (F1 b ∨ (w4.heap.size ≤ b ∧ b < w10.heap.size)) → F b ∨ w.heap.size ≤ b from fun b hb => by
       rcases hb with h1 | h1
       ·exact HF1.out b h1
       ·exact .inr (Nat.le_trans HMut4.out.size h1.1))
      have HSep10 := qh (fun b hb => show ¬ (F1 b ∨ (w4.heap.size ≤ b ∧ b < w10.heap.size)) from fun h => by
       rcases h with h1 | h1
       ·exact HSepF4.out b hb h1
       ·have := (HFr4.out.lt b hb).2
        omega)
      unfold q0E at K1 hlk1 HApp
      obtain ⟨k8, kx, kv0, kv1, kv2⟩ := K0.out
      clear happ hupd hsame hsp hs10 hos hraw10 hmut9 haloc KK hrawW hW hvb hvl hbW hxW hdW hxa hF1x hF1v hxlt hvlt hplt
      have hlk2 : (Instr.lookup 162 (.map (some B)) (.string (bs key)) false).run Tryz.prog (W.alloc (.cells #[.int .u64 ((st.time : Int) + 1), .bool gone, .slice A9 dat.length c9] 182)).drew = .ok (valS (q03 (upG st l j)) cv1 key) (W.alloc (.cells #[.int .u64 ((st.time : Int) + 1), .bool gone, .slice A9 dat.length c9] 182)).drew := hlk1
      have hupd2 := HUpd.out
      go_wp2_with fail
      go_region_held3 (fun W' => W'.cell? ⟨p, 8, none⟩ = some (.map (some B)) ∧ W'.cell? ⟨wr.heap.size, 0, none⟩ = some (.string (bs key)) ∧ W'.cell? ⟨vb, 0, none⟩ = some (.int .u64 ((st.time : Int) + 1)) ∧ W'.cell? ⟨vb, 1, none⟩ = some (.bool gone) ∧ W'.cell? ⟨vb, 2, none⟩ = some (.slice A9 dat.length c9))
       (first | exact K0.out | exact K1.out | exact K2.out | exact K3.out)
       ((refine q2h (by rfl) _ _ 123 (by rfl) _ _ _ (by rfl) (by rfl) (HApp.out _) ?_))
      all_goals
       go_wp2
       go_roundg (gk - 1)
       case measure => have := HK.out; omega
       case rel => exact ⟨j + 1, _, _, _, by have := HK.out; omega, by go_num, HFr10.out, HFr40.out, HRaw10.out, HMut10.out, HF10.out, HSep10.out⟩
  ·have hj' : j = l.length := by have := HK.out; omega
   subst hj'
   have hlt : decide ((l.length : Int) < (l.length : Int)) = false := by simp
   have hlt2 : decide (l.length < l.length) = false := by simp
   have hraw := HRaw.out
   rw [qay] at hraw
   have hkl := HS.out.len
   have hfl := q8K st l l.length
   have HM : Hid (Calls Tryz.prog 243 #[kv, u4] wr (RetM (st.K.map Prod.fst) (q0U st l l.length) kv wr)) := qh (by
    by_cases hfe : q0U st l l.length = []
    ·rw [HFr0.out hfe, hfe]
     exact q68 _ kv wr (by rw [List.length_map]; exact hkl) hraw.keys (q4N HO.out.sort)
    ·obtain ⟨g, cap, _, hv, _, _, _, _, _⟩ := q3G HFr.out (List.length_pos_iff.2 hfe)
     obtain ⟨A9, c9, e9, _, _, _, hrow⟩ := HFr.out.form
     rw [hv] at e9
     injection e9 with e9 _ _
     rw [← e9] at hrow
     rw [hv]
     exact q9U (st.K.map Prod.fst) (q0U st l l.length) kv ⟨g, 0, none⟩ cap w.heap.size wr.heap.size wr (by rw [List.length_map]; exact hkl) (by omega) (List.length_pos_iff.2 hfe) hraw.keys hrow (Nat.le_refl _)
      (fun b hb => .inl (HH.out.lt b (HH.out.Fk b hb))) (q4N HO.out.sort) (qbK HC.out _) (qa6 HO.out))
   have d9 := hraw.keys_
   have HRaw2 := qh hraw
   clear hraw
   go_wp2_with fail
   refine HM.out.mono ?_
   rintro e w5 ⟨v5, out, rfl, ho5, hr5, hm5, hg5, hat5⟩
   obtain ⟨A5, c5, hv5, _⟩ := OwnG.form ho5
   have hp5 : w5.heap[p]? = wr.heap[p]? := hg5.block p (HRaw2.out.lt p HRaw2.out.Fp) (fun e => (HRaw2.out.kvp p e.symm).1 rfl)
   have hbox5 := hp5.trans HRaw2.out.box
   have e9 : w5.cell? ⟨p, 9, none⟩ = some kv := by rw [cell_of_row w5 p 9 _ _ _ hbox5]; rfl
   have f9 := q02 hbox5 9
   have hout := qeu HO.out HC.out hr5 hm5
   have hvlt := OwnG.lt ho5
   have hvp : ∀ b, v5.ownBlock = some b → b ≠ p := fun b hb e => by
    rcases hat5 with h1 | h1
    ·exact (HRaw2.out.kvp b (h1 ▸ hb)).1 e
    ·rw [h1] at hb
     injection hb with hb
     have := HRaw2.out.lt p HRaw2.out.Fp
     omega
   have hraw6 : RawS (w5.setCell ⟨p, 9, none⟩ v5) p (fun b => F1 b ∨ (wr.heap.size ≤ b ∧ b < (w5.setCell ⟨p, 9, none⟩ v5).heap.size)) D1 B v5 cv1 L m r v (st.time + 1) (q03 (q0n st l)) ((q0n st l).map Prod.fst) z := by
    refine HRaw2.out.keysNew HRaw2.out.lt (q2f hbox5 9 v5) (by rw [← hout]; exact OwnG.keep ho5 (fun b hb _ => q0b (hvp b hb) _ _) (Nat.le_refl _)) (by simp [World.setCell]; exact hg5.size) (fun b hb => ?_) (fun b hb hne hne2 => ?_)
    ·rcases hat5 with h1 | h1
     ·exact .inl (h1 ▸ hb)
     ·refine .inr ⟨?_, by simp [World.setCell]; exact (hvlt b hb).2⟩
      rw [h1] at hb
      injection hb with hb
      omega
    ·rw [q0b hne]
     exact hg5.block b (HRaw2.out.lt b hb) (fun e => hne2 e.symm)
   have hmut6 : Mut F w (w5.setCell ⟨p, 9, none⟩ v5) := HMut.out.trans (G := F1) ⟨hg5.os, hg5.tape, hg5.output, by simp [World.setCell]; exact hg5.size, fun b hb hf => by
    rw [q0b (fun e => hf (by rw [e]; exact HRaw2.out.Fp))]
    exact hg5.block b hb (fun e => hf (HRaw2.out.Fk b e.symm))⟩ HF1.out
   have HFin := qh (show ∃ F' D' kv' cv', RawS (w5.setCell ⟨p, 9, none⟩ v5) p F' D' B kv' cv' L m r v (st.time + 1) (q03 (q0n st l)) ((q0n st l).map Prod.fst) z ∧ Mut F w (w5.setCell ⟨p, 9, none⟩ v5) ∧ ∀ b, F' b → F b ∨ w.heap.size ≤ b from
    ⟨_, D1, v5, cv1, hraw6, hmut6, fun b hb => by
     rcases hb with h1 | h1
     ·exact HF1.out b h1
     ·exact .inr (Nat.le_trans HMut.out.size h1.1)⟩)
   clear ho5 hr5 hm5 hg5 hat5 hp5 hbox5 hout hvlt hvp hraw6 hmut6 HM
   subst hv5
   go_wp2
   refine bodyPost_end (v := .tuple #[]) (by simp [results, Tryz.results199, go_sem]) rfl ?_
   exact ⟨rfl, HFin.out⟩
end Go.Proofs.YtdpbllacfljmoaaGreat
