import Derived.Test.YtdpbllacfljmoaaGreatZF23
import Derived.Test.YtdpbllacfljmoaaGreatZF19
import Derived.Test.YtdpbllacfljmoaaGreatZF17
set_option maxRecDepth 100000
set_option maxHeartbeats 16000000
set_option linter.unusedVariables false
namespace Go.Proofs.YtdpbllacfljmoaaGreat
open Go.RowKit
theorem q5x {P : Program} {t k e : TypeId} (ht : P.underlying t = some (.map k e)) (w : World) (n : Int) : (Instr.makeMap t (some (.int .i64 n))).run P w = .ok (.map (some w.heap.size)) (w.alloc (.map #[] 0)) := by
 have h := @run_makeMap P t w
 unfold Instr.makeMap at h ⊢
 simp [run_underlying ht, asInt, asIntOf, Result.andThen] at h ⊢
theorem q9d (w : World) (n : Nat) : (Instr.makeMap 162 (some (.int .i64 (n : Int)))).run Tryz.prog w = .ok (.map (some w.heap.size)) (w.alloc (.map #[] 0)) := q5x Tryz.underlying162 w n
theorem qbr {K : KsS} (h : q0F K) (hf : q2i K) {j : Nat} (hj : j < K.length) : q03 (K.take (j + 1)) = updG (q03 (K.take j)) (K[j]'hj).1 (K[j]'hj).2 := funext fun k => by
 rw [List.take_succ_eq_append_getElem hj, q50 (fun x hx => hf x (List.mem_of_mem_take hx))]
 by_cases e : k = (K[j]'hj).1
 ·have h0 : q03 (K.take j) (K[j]'hj).1 = [] := q2G fun x hx => q1j (qaw h hx (by rw [List.drop_eq_getElem_cons hj]; exact List.mem_cons_self ..))
  rw [e, q2r, h0, if_pos (show ([] : List Ver).isEmpty = true from rfl), q0s, if_pos rfl]
 ·rw [q26 _ e]
  have h1 : q03 [K[j]'hj] k = [] := by rw [q0s, if_neg (fun e2 => e e2.symm), q6Z]
  rw [h1]
  cases h2 : q03 (K.take j) k <;> rfl
theorem qen {K : KsS} (h : q0F K) {j : Nat} (hj : j < K.length) : q03 (K.take j) (K[j]'hj).1 = [] := q2G fun x hx => q1j (qaw h hx (by rw [List.drop_eq_getElem_cons hj]; exact List.mem_cons_self ..))
theorem q9C {w3 : World} {q B' n0 : Nat} {kv' : Value} {L : LimS} {m r v : Int} {now : Nat} {ks : List KeyS} {z : Sz} (hb : w3.heap[q]? = some (.cells (boxS L m r v now B' kv' z) 165 (0, 0))) (hm : MapS w3 B' fun _ => none) (ho : OwnG 9 1 q0w w3 0 kv' ks)
  (hn : n0 ≤ q) (hq : q < w3.heap.size) (hB : n0 ≤ B') (hqB : q ≠ B') (hk : ∀ b, kv'.ownBlock = some b → n0 ≤ b ∧ b ≠ q ∧ b ≠ B') :
  RawS w3 q (fun b => n0 ≤ b ∧ b < w3.heap.size) (fun _ => False) B' kv' (fun _ => .slice none 0 0) L m r v now (q03 []) ks z where
 box := hb
 map := hm
 keys := ho
 chain := fun _ h => absurd rfl h
 Fp := ⟨hn, hq⟩
 FB := ⟨hB, hm.lt⟩
 Fk := fun b hb2 => ⟨(hk b hb2).1, (OwnG.lt ho b hb2).2⟩
 Fc := fun _ h => absurd rfl h
 FD := fun _ h => h.elim
 lt := fun _ h => h.2
 pB := hqB
 kvp := fun b hb2 => ⟨(hk b hb2).2.1, (hk b hb2).2.2, fun h => h⟩
 cvp := fun _ h => absurd rfl h
 apart := fun _ _ h => absurd rfl h
 Dp := fun h => h
 DB := fun h => h
theorem q9K {w : World} {p : Nat} {F D : Nat → Prop} {B : Nat} {kv : Value} {cv : KeyS → Value} {L : LimS} {m r v : Int} (st : PS) (h : RawS w p F D B kv cv L m r v st.time (q03 st.K) (st.K.map Prod.fst) (szS st.K)) (ho : OkS st) (hs : q5g st) :
  Calls Tryz.prog 87 #[ptrS p] w fun e w' => ∃ q F' D' B' kv' cv', e = .returned (ptrS q) ∧ RawS w' q F' D' B' kv' cv' L m r v st.time (q03 st.K) (st.K.map Prod.fst) (szS st.K) ∧ (∀ k, F' k → w.heap.size ≤ k) ∧ Below w.heap.size w w' := by
 have HM := qh (q2k h)
 obtain ⟨A, c, hkv, f1, f2, f3, f4⟩ := OwnG.form h.keys
 rw [List.length_map] at hkv f1
 subst hkv
 have HRaw := qh h
 have HO := qh ho
 have HS := qh hs
 have c0 := h.lim0
 have c1 := h.lim1
 have c2 := h.lim2
 have c3 : w.cell? ⟨p, 3, none⟩ = some (.int .i64 m) := h.cell 3 _ rfl
 have c4 : w.cell? ⟨p, 4, none⟩ = some (.int .i64 r) := h.cell 4 _ rfl
 have c5 : w.cell? ⟨p, 5, none⟩ = some (.int .i64 v) := h.cell 5 _ rfl
 have c6 := h.lim6
 have c7 := h.now_
 have c8 := h.map_
 have c9 := h.keys_
 have c10 := h.sz0
 have c11 := h.sz1
 have c12 := h.sz2
 obtain ⟨w1, hw1⟩ : ∃ y, w.alloc (.cells #[.int .i64 L.keys, .int .i64 L.vers, .int .i64 L.byts, .int .i64 m, .int .i64 r, .int .i64 v, .int .u64 L.last, .int .u64 st.time, .map (some B), .slice A st.K.length c, .int .i64 ((szS st.K).k : Int), .int .i64 ((szS st.K).v : Int), .int .i64 ((szS st.K).b : Int)] 165) = y := ⟨_, rfl⟩
 have b1 : Below w.heap.size w w1 := by rw [← hw1]; exact (Below.refl _ w).alloc (Nat.le_refl _) _
 have s1 : w1.heap.size = w.heap.size + 1 := by rw [← hw1]; simp
 have hx1 : w1.heap[w.heap.size]? = some (.cells (boxS L m r v st.time B (.slice A st.K.length c) (szS st.K)) 165 (0, 0)) := by rw [← hw1]; exact heap_alloc_new w _
 have d9 := (h.below b1).keys_
 have HCl := qh (q9M (.slice A st.K.length c) (st.K.map Prod.fst) w1 (h.below b1).keys (by rw [List.length_map]; exact hs.len))
 have HW1 := qh hw1
 have HB1 := qh b1
 have HX1 := qh hx1
 have HS1 := qh s1
 have HF4 := qh f4
 have hnl := hs.len
 clear h ho hs hw1 b1 hx1 s1 f1 f2 f3 f4
 unfold ptrS at HM ⊢
 go_enter Tryz.func87, Tryz.ntmps87
 go_wp2_with fail
 refine HM.out.mono ?_
 rintro e w9 ⟨rfl, hw9⟩
 rw [hw9]
 clear HM hw9 w9
 go_upto_region 4 with fail
 rw [HW1.out]
 clear HW1 c0 c1 c2 c3 c4 c5 c6 c7 c8 c9 c10 c11 c12
 go_wp2_with fail
 refine HCl.out.mono ?_
 rintro e w2 ⟨kv', rfl, ho2, hb2⟩
 obtain ⟨A', c', hkv', _⟩ := OwnG.form ho2
 rw [List.length_map] at hkv'
 have hbt2 := HB1.out.trans (hb2.mono HB1.out.size)
 have hx2 := q01 HX1.out hb2 (q00 HX1.out)
 have hkl : ∀ b, kv'.ownBlock = some b → w1.heap.size ≤ b ∧ b < w2.heap.size := OwnG.lt ho2
 subst hkv'
 obtain ⟨w3, hw3⟩ : ∃ y, w2.setCell ⟨w.heap.size, 9, none⟩ (.slice A' st.K.length c') = y := ⟨_, rfl⟩
 have hx3 : w3.heap[w.heap.size]? = some (.cells (boxS L m r v st.time B (.slice A' st.K.length c') (szS st.K)) 165 (0, 0)) := by rw [← hw3]; exact q2f hx2 9 _
 have hs3 : w3.heap.size = w2.heap.size := by rw [← hw3]; simp [World.setCell]
 have hbt3 : Below w.heap.size w w3 := by rw [← hw3]; exact hbt2.setCell (Nat.le_refl _) _
 have ho3 : OwnG 9 1 q0w w3 0 (.slice A' st.K.length c') (st.K.map Prod.fst) := OwnG.keep ho2 (fun b hb _ => by rw [← hw3]; exact q0b (fun e => by have := (hkl b hb).1; have := HS1.out; omega) _ _) (Nat.zero_le _)
 obtain ⟨w4, hw4⟩ : ∃ y, w3.alloc (.map #[] 0) = y := ⟨_, rfl⟩
 obtain ⟨w5, hw5⟩ : ∃ y, w4.setCell ⟨w.heap.size, 8, none⟩ (.map (some w3.heap.size)) = y := ⟨_, rfl⟩
 have hx4 : w4.heap[w.heap.size]? = some (.cells (boxS L m r v st.time B (.slice A' st.K.length c') (szS st.K)) 165 (0, 0)) := by rw [← hw4]; exact q0G hx3 _
 have hx5 : w5.heap[w.heap.size]? = some (.cells (boxS L m r v st.time w3.heap.size (.slice A' st.K.length c') (szS st.K)) 165 (0, 0)) := by rw [← hw5]; exact q2f hx4 8 _
 have hbt5 : Below w.heap.size w w5 := by rw [← hw5, ← hw4]; exact (hbt3.alloc hbt3.size _).setCell (Nat.le_refl _) _
 have hs5 : w5.heap.size = w3.heap.size + 1 := by rw [← hw5, ← hw4]; simp [World.setCell]
 have hlt := q00 hx3
 have hm5 : MapS w5 w3.heap.size fun _ => none := MapS.keep (w := w4) (by rw [← hw4]; exact MapS.made w3) (by rw [← hw5]; exact q0b (by omega) _ _)
 have ho5 : OwnG 9 1 q0w w5 0 (.slice A' st.K.length c') (st.K.map Prod.fst) := OwnG.keep ho3 (fun b hb hb3 => by
  rw [← hw5, q0b (fun e => by have := (hkl b hb).1; have := HS1.out; omega), ← hw4]
  exact ((Below.refl _ w3).alloc (Nat.le_refl _) _).block b hb3) (Nat.le_refl _)
 have hstart := q9C (n0 := w.heap.size) hx5 hm5 ho5 (Nat.le_refl _) (by omega) (by omega) (by omega) (fun b hb => by
  have h1 := hkl b hb
  have := HS1.out
  exact ⟨by omega, by omega, by omega⟩)
 have e9 := (HRaw.out.below hbt3).keys_
 have e9b := (HRaw.out.below hbt5).keys_
 have g9 := q02 hx2 9
 have i9 : w2.cell? ⟨w.heap.size, 9, none⟩ = some (.slice A st.K.length c) := by rw [cell_of_row w2 _ 9 _ _ _ hx2]; rfl
 have i8 : w4.cell? ⟨w.heap.size, 8, none⟩ = some (.map (some B)) := by rw [cell_of_row w4 _ 8 _ _ _ hx4]; rfl
 have g8 := q02 hx4 8
 have hmk := q9d w3 st.K.length
 rw [hw4] at hmk
 have HStart := qh hstart
 have HB5 := qh hbt5
 have HW3 := qh hw3
 have HW5 := qh hw5
 have HQB := qh (show w.heap.size ≠ w3.heap.size by omega)
 clear ho2 hb2 hbt2 hx2 hkl hw3 hx3 hs3 hbt3 ho3 hw4 hw5 hx4 hx5 hbt5 hs5 hlt hm5 ho5 hstart HCl HX1 HB1
 go_upto_region 5 with fail
 rw [HW3.out]
 clear HW3
 go_upto_region 6 with fail
 rw [HW5.out]
 clear HW5
 go_wp2_with fail
 go_loopg [30] st.K.length (fun q i wr => ∃ (j : Nat) (F' D' : Nat → Prop) (cv' : KeyS → Value), j + q = st.K.length ∧ i = .int .i64 j ∧ RawS wr w.heap.size F' D' w3.heap.size (.slice A' st.K.length c') cv' L m r v st.time (q03 (st.K.take j)) (st.K.map Prod.fst) (szS st.K) ∧ (∀ b, F' b → w.heap.size ≤ b) ∧ Below w.heap.size w wr)
 case atStart => exact ⟨0, _, _, _, by omega, rfl, HStart.out, fun _ h => h.1, HB5.out⟩
 case round =>
  obtain ⟨j, F1, D1, cv1, hk, rfl, hraw1, hF1, hb⟩ := hrel
  have HK := qh hk
  have HRaw1 := qh hraw1
  have HF1 := qh hF1
  have HB := qh hb
  clear hk hraw1 hF1 hb e9 e9b
  by_cases hj : j < st.K.length
  ·have hlt : decide ((j : Int) < (st.K.length : Int)) = true := by simpa using hj
   have hlt2 : decide (j < st.K.length) = true := by simpa using hj
   obtain ⟨b, o, hA, _, _, hcell⟩ := (HF4.out.below HB.out (Nat.le_refl _)).at_ kF (j := j) (by rw [List.length_map]; exact hj)
   subst hA
   have d0 := hcell 0 _ rfl
   simp only [Nat.add_zero, Nat.mul_one, List.getElem_map] at d0
   have hch : q03 st.K (st.K[j]'hj).1 = (st.K[j]'hj).2 := q0K HO.out.sort (List.getElem_mem hj)
   have hne : (st.K[j]'hj).2 ≠ [] := HO.out.full _ (List.getElem_mem hj)
   have hrw := HRaw.out.below HB.out
   have hrd := hrw.keep (w' := wr.drew) fun _ _ => rfl
   obtain ⟨A9, c9, hv9, hc9⟩ := hrd.ch (st.K[j]'hj).1
   rw [hch] at hv9 hc9
   have hstep := qbr HO.out.sort HO.out.full hj
   have hnone := qen HO.out.sort hj
   have hok := HS.out.ok (st.K[j]'hj).1
   have hri := HO.out.rightC (st.K[j]'hj).1
   rw [hch] at hok hri
   have SS : ∀ W, Below w.heap.size w W → W.heap[w.heap.size]? = wr.heap[w.heap.size]? → W.cell? ⟨w.heap.size, 8, none⟩ = some (.map (some w3.heap.size)) ∧ W.cell? ⟨p, 8, none⟩ = some (.map (some B)) ∧ (Instr.lookup 162 (.map (some B)) (.string (bs (st.K[j]'hj).1)) false).run Tryz.prog W = .ok (.slice A9 (st.K[j]'hj).2.length c9) W := fun W h1 h2 => by
    have h3 := HRaw.out.below h1
    refine ⟨by rw [cell_of_row W _ 8 _ _ _ (h2.trans HRaw1.out.box)]; rfl, h3.map_, ?_⟩
    rw [h3.look, hv9]
   have HWh : Hid (Calls Tryz.prog 140 #[.slice A9 (st.K[j]'hj).2.length c9] wr.drew fun e w6 => ∃ q' cT w7, e = .returned (.slice (some ⟨q', 0, none⟩) (st.K[j]'hj).2.length cT) ∧
     (Instr.mapUpdate 162 (.map (some w3.heap.size)) (.string (bs (st.K[j]'hj).1)) (.slice (some ⟨q', 0, none⟩) (st.K[j]'hj).2.length cT)).run Tryz.prog w6 = .ok () w7 ∧
     (w6.cell? ⟨w.heap.size, 8, none⟩ = some (.map (some w3.heap.size)) ∧ w6.cell? ⟨p, 8, none⟩ = some (.map (some B)) ∧ (Instr.lookup 162 (.map (some B)) (.string (bs (st.K[j]'hj).1)) false).run Tryz.prog w6 = .ok (.slice A9 (st.K[j]'hj).2.length c9) w6) ∧
     (w7.cell? ⟨w.heap.size, 8, none⟩ = some (.map (some w3.heap.size)) ∧ w7.cell? ⟨p, 8, none⟩ = some (.map (some B)) ∧ (Instr.lookup 162 (.map (some B)) (.string (bs (st.K[j]'hj).1)) false).run Tryz.prog w7 = .ok (.slice A9 (st.K[j]'hj).2.length c9) w7) ∧
     ∃ (F' D' : Nat → Prop) (cv' : KeyS → Value), RawS w7 w.heap.size F' D' w3.heap.size (.slice A' st.K.length c') cv' L m r v st.time (q03 (st.K.take (j + 1))) (st.K.map Prod.fst) (szS st.K) ∧ (∀ b, F' b → w.heap.size ≤ b) ∧ Below w.heap.size w w7) := qh (by
    refine (qbI (st.K[j]'hj).2 A9 c9 wr.drew hok hc9 hri).mono ?_
    rintro e w6 ⟨q', cT, ms, he, hms, hq, hown, hfar, hb6⟩
    have hs6 : wr.heap.size ≤ w6.heap.size := hb6.size
    have hqs : wr.heap.size ≤ q' := hq
    have hk6 : ∀ b, b < wr.heap.size → w6.heap[b]? = wr.heap[b]? := fun b hb => hb6.block b hb
    have hraw6 := HRaw1.out.keep (w' := w6) fun b hb => hk6 b (HRaw1.out.lt b hb)
    obtain ⟨w7, hupd, hmp, hgr, hs7⟩ := MapS.store (P := Tryz.prog) hraw6.map Tryz.underlying162 Tryz.underlying9 (st.K[j]'hj).1 (.slice (some ⟨q', 0, none⟩) (st.K[j]'hj).2.length cT)
    unfold keyV at hupd
    have hbw6 : Below w.heap.size w w6 := HB.out.trans ⟨hb6.os, hb6.tape, hb6.output, hs6, fun k hk => hk6 k (Nat.lt_of_lt_of_le hk HB.out.size)⟩
    have hB1 := HF1.out _ HRaw1.out.FB
    have hBl := HRaw1.out.lt _ HRaw1.out.FB
    have hbw7 : Below w.heap.size w w7 := hbw6.grown hgr hbw6.size (fun k hk => by cases hk; exact hB1)
    have hkp7 : ∀ b, b ≠ w3.heap.size → b < w6.heap.size → w7.heap[b]? = w6.heap[b]? := fun b hb h2 => hgr.block b h2 (fun e => hb (by injection e))
    have hpl := HRaw1.out.lt _ HRaw1.out.Fp
    have hsm := hgr.size
    refine ⟨q', cT, w7, he, hupd, SS w6 hbw6 (hk6 _ hpl), SS w7 hbw7 ((hkp7 _ HRaw1.out.pB (by omega)).trans (hk6 _ hpl)), ?_⟩
    have hown7 : OwnG 182 3 q1D w7 0 (.slice (some ⟨q', 0, none⟩) (st.K[j]'hj).2.length cT) ms := OwnG.keep hown (fun b hb h2 => by
     simp only [Value.ownBlock, Option.some.injEq] at hb
     exact hkp7 b (by omega) h2) (Nat.zero_le _)
    have hq6 := (OwnG.lt hown q' rfl).2
    have hfin := hraw6.putC (w' := w7) (k := (st.K[j]'hj).1) (u := .slice (some ⟨q', 0, none⟩) (st.K[j]'hj).2.length cT) (D' := fun b => D1 b ∨ (q' + 1 ≤ b ∧ b < w6.heap.size)) (N := fun b => wr.heap.size ≤ b ∧ b < w7.heap.size) (fun b hb => ⟨fun hf => by have := HRaw1.out.lt b hf; omega, hb.2⟩) hne (by rw [q7R hne]; exact hmp)
     ⟨ms, hms, hown7, fun x hx => ((hfar x hx).keep (w' := w7) (fun b h1 h2 => hkp7 b (by omega) h2) (Nat.le_refl _)).okD fun b h1 h2 => .inr ⟨h1, h2⟩⟩ hgr.size (fun b hb => .inl hb)
     (fun b hb => by
      rcases hb with h1 | h1
      ·exact .inl h1
      ·exact .inr ⟨by omega, by omega⟩)
     (fun b hb => by
      simp only [Value.ownBlock, Option.some.injEq] at hb
      subst hb
      refine ⟨.inl ⟨hqs, by omega⟩, fun hd => ?_⟩
      rcases hd with h1 | h1
      ·have := HRaw1.out.lt _ (HRaw1.out.FD _ h1)
       omega
      ·omega)
     (fun b hb hne2 _ => hkp7 b hne2 (by have := HRaw1.out.lt b hb; omega))
    rw [← hstep] at hfin
    exact ⟨_, _, _, hfin, fun b hb => by
     rcases hb with h1 | h1
     ·exact HF1.out b h1
     ·exact Nat.le_trans HB.out.size h1.1, hbw7⟩)
   have K0 := qh (SS wr.drew HB.out.drew rfl)
   obtain ⟨k8, kp8, klk⟩ := K0.out
   clear SS hcell hch hne hrw hrd hv9 hc9 hstep hnone hok hri
   generalize (st.K[j]'hj).2.length = n9 at *
   generalize (st.K[j]'hj).1 = key at *
   go_wp2_with fail
   go_region_held3 (fun W => W.cell? ⟨w.heap.size, 8, none⟩ = some (.map (some w3.heap.size)) ∧ W.cell? ⟨p, 8, none⟩ = some (.map (some B)) ∧ (Instr.lookup 162 (.map (some B)) (.string (bs key)) false).run Tryz.prog W = .ok (.slice A9 n9 c9) W)
    (first | exact K0.out | exact hS6 | exact hS7)
    ((go_at_call 140; refine HWh.out.mono ?_; rintro e w6 ⟨q', cT, w7, rfl, hupd, hS6, hS7, hfin⟩))
   all_goals
    have HFn := qh hfin
    clear hS6 hS7 hupd hfin
    go_wp2
    go_roundg (gk - 1)
    case measure => have := HK.out; omega
    case rel =>
     obtain ⟨F', D', cv', q1, q2, q3⟩ := HFn.out
     exact ⟨j + 1, F', D', cv', by have := HK.out; omega, by go_num, q1, q2, q3⟩
  ·have hj' : j = st.K.length := by have := HK.out; omega
   subst hj'
   have hlt : decide ((st.K.length : Int) < (st.K.length : Int)) = false := by simp
   have hlt2 : decide (st.K.length < st.K.length) = false := by simp
   have hraw := HRaw1.out
   rw [List.take_length] at hraw
   have HFin := qh hraw
   clear hraw
   go_wp2
   go_ret
   exact ⟨w.heap.size, F1, D1, _, _, cv1, rfl, HFin.out, HF1.out, HB.out⟩
open Go.RowKit
theorem q1W.drop {ks : List KeyS} {t : KeyS} {n : Nat} (h : q1W ks t n) : ks.filter (fun k => !blt k t) = ks.drop n := by
 conv => lhs; rw [← List.take_append_drop n ks]
 rw [List.filter_append]
 have e1 : (ks.take n).filter (fun k => !blt k t) = [] := by
  rw [List.filter_eq_nil_iff]
  intro x hx
  obtain ⟨i, hi, rfl⟩ := List.mem_take_iff_getElem.1 hx
  rw [h.2.1 i (by omega) (by omega)]
  simp
 have e2 : (ks.drop n).filter (fun k => !blt k t) = ks.drop n := by
  rw [List.filter_eq_self]
  intro x hx
  obtain ⟨i, hi, rfl⟩ := List.mem_drop_iff_getElem.1 hx
  rw [h.2.2 (n + i) (by omega) (by omega)]
  rfl
 rw [e1, e2, List.nil_append]
theorem q1W.take {ks : List KeyS} {t : KeyS} {n : Nat} (h : q1W ks t n) : ks.filter (fun k => blt k t) = ks.take n := by
 conv => lhs; rw [← List.take_append_drop n ks]
 rw [List.filter_append]
 have e1 : (ks.take n).filter (fun k => blt k t) = ks.take n := by
  rw [List.filter_eq_self]
  intro x hx
  obtain ⟨i, hi, rfl⟩ := List.mem_take_iff_getElem.1 hx
  exact h.2.1 i (by omega) (by omega)
 have e2 : (ks.drop n).filter (fun k => blt k t) = [] := by
  rw [List.filter_eq_nil_iff]
  intro x hx
  obtain ⟨i, hi, rfl⟩ := List.mem_drop_iff_getElem.1 hx
  rw [h.2.2 (n + i) (by omega) (by omega)]
  simp
 rw [e1, e2, List.append_nil]
def betw (ks : List KeyS) (lo hi : KeyS) : List KeyS := ks.filter (inS lo hi)
theorem qcr {ks : List KeyS} {lo : KeyS} {n : Nat} (h : q1W ks lo n) : betw ks lo [] = ks.drop n := by
 rw [← h.drop]
 exact List.filter_congr fun x _ => by unfold inS; simp
theorem qcs {ks : List KeyS} {lo hi : KeyS} {n m : Nat} (hh : hi ≠ []) (h : q1W ks lo n) (h2 : q1W (ks.drop n) hi m) : betw ks lo hi = (ks.drop n).take m := by
 rw [← h2.take, ← h.drop, List.filter_filter]
 exact List.filter_congr fun x _ => by
  unfold inS
  cases hi with
  | nil => exact absurd rfl hh
  | cons a b => simp [Bool.and_comm]
def RetB (ks : List KeyS) (w0 : World) (w : World) (lo hi : Nat) (e : Ending) (w' : World) : Prop := (∃ A' c', e = .returned (.slice A' ks.length c') ∧ RowG q0w w0 lo hi A' ks) ∧ w' = w
theorem q8n (ks : List KeyS) (A : Option Addr) (c lb hb : Nat) (lo hi : KeyS) (w : World) (hl : ks.length ≤ 2097152) (hc : ks.length ≤ c) (hr : RowG q0w w lb hb A ks) (hri : q2s ks) :
  Calls Tryz.prog 119 #[.slice A ks.length c, .string (bs lo), .string (bs hi)] w (RetB (betw ks lo hi) w w lb hb) := by
 have HS := qh (q6d ks A c lb hb lo w hl hr hri)
 have HR := qh (fun j (hj : j ≤ ks.length) => RowG.drop kF hr j c hj hc)
 have HS2 : Hid (∀ (n : Nat), n ≤ ks.length → ∀ (c' : Nat) A', RowG q0w w lb hb A' (ks.drop n) → Calls Tryz.prog 177 #[.slice A' (ks.drop n).length c', .string (bs hi)] w fun e w' => (∃ (m : Nat) (is : Bool), e = .returned (.tuple #[.int .i64 m, .bool is]) ∧ q1W (ks.drop n) hi m) ∧ w' = w) :=
  qh fun n hn c' A' hr' => q6d (ks.drop n) A' c' lb hb hi w (by rw [List.length_drop]; omega) hr' (List.Pairwise.sublist (List.drop_sublist _ _) hri)
 have HOpen : Hid (∀ n, q1W ks lo n → hi = [] → betw ks lo hi = ks.drop n) := qh fun n h e => by rw [e]; exact qcr h
 have HShut : Hid (∀ n m, hi ≠ [] → q1W ks lo n → q1W (ks.drop n) hi m → betw ks lo hi = (ks.drop n).take m) := qh fun n m => qcs
 have hbs := q4a hi []
 have HK : Hid (∀ (A' : Option Addr) (l : List KeyS) (j : Nat), RowG q0w w lb hb A' l → RowG q0w w lb hb A' (l.take j)) := qh fun A' l j h => RowG.take kF h j
 generalize betw ks lo hi = O at *
 have HL := qh hl
 have HC := qh hc
 clear hr hri hl hc
 go_enter Tryz.func119, Tryz.ntmps119
 go_wp2_with fail
 refine HS.out.mono ?_
 rintro e w' ⟨⟨n, is, rfl, hsp⟩, rfl⟩
 have HSP := qh hsp
 have hn := hsp.1
 have hcn := HC.out
 have h1 : (0 : Int) ≤ (n : Int) := by omega
 have h2 : (n : Int) ≤ (ks.length : Int) := by omega
 have h3 : (ks.length : Int) ≤ (c : Int) := by omega
 have hdl : (ks.drop n).length = ks.length - n := List.length_drop
 have HRn := qh (HR.out n hn)
 clear hsp HS HR
 by_cases hh : hi = []
 ·have HO := qh (HOpen.out n HSP.out hh)
  have e0 : (bs hi).toList.isEmpty = true := by rw [q1k, hh]; rfl
  have e3 : (bs hi).toList = [] := by rw [q1k, hh]
  clear HShut HS2 hbs hh
  by_cases hcc : c = n
  ·have HRf := qh (show RowG q0w _ lb hb A (ks.drop n) from by have h := HRn.out; rw [if_pos hcc] at h; exact h)
   have hz : ks.length - n = 0 := by omega
   subst hcc
   go_wp2
   go_ret
   rw [HO.out]
   exact ⟨⟨_, _, by rw [hdl, hz]; rfl, HRf.out⟩, rfl⟩
  ·have HRf := qh (show RowG q0w _ lb hb (A.map (·.add n)) (ks.drop n) from by have h := HRn.out; rw [if_neg hcc, Nat.mul_one] at h; exact h)
   go_wp2
   go_ret
   rw [HO.out]
   exact ⟨⟨_, _, by rw [hdl]; rfl, HRf.out⟩, rfl⟩
 ·have e0 : (bs hi).toList.isEmpty = false := by rw [q1k]; simpa using hh
  have e3 : ¬ (bs hi).toList = [] := by rw [q1k]; exact hh
  have HSh := qh (fun m h => HShut.out n m hh HSP.out h)
  clear HShut hbs hh
  by_cases hcc : c = n
  ·have hrf := HRn.out
   rw [if_pos hcc] at hrf
   have HRf := qh hrf
   have hz : ks.length - n = 0 := by omega
   have hC := HS2.out n hn 0 _ hrf
   rw [hdl, hz] at hC
   have HCall := qh hC
   subst hcc
   clear hrf hC HS2
   go_wp2_with fail
   refine HCall.out.mono ?_
   rintro e w' ⟨⟨m, is, rfl, hsp⟩, rfl⟩
   have HO := qh (HSh.out m hsp)
   have hm := hsp.1
   rw [hdl, hz] at hm
   obtain rfl : m = 0 := by omega
   have HF := qh (HK.out _ _ 0 HRf.out)
   have hml : ((ks.drop c).take 0).length = 0 := rfl
   clear hsp
   go_wp2
   go_ret
   rw [HO.out]
   exact ⟨⟨_, _, by rw [hml]; rfl, HF.out⟩, rfl⟩
  ·have hrf := HRn.out
   rw [if_neg hcc, Nat.mul_one] at hrf
   have HRf := qh hrf
   have hC := HS2.out n hn (c - n) _ hrf
   rw [hdl] at hC
   have HCall := qh hC
   clear hrf hC HS2
   go_wp2_with fail
   refine HCall.out.mono ?_
   rintro e w' ⟨⟨m, is, rfl, hsp⟩, rfl⟩
   have HO := qh (HSh.out m hsp)
   have hm := hsp.1
   rw [hdl] at hm
   have k1 : (0 : Int) ≤ (m : Int) := by omega
   have k2 : (m : Int) ≤ ((c - n : Nat) : Int) := by omega
   have HF := qh (HK.out _ _ m HRf.out)
   have hml : ((ks.drop n).take m).length = m := by rw [List.length_take, hdl]; omega
   clear hsp
   go_wp2
   go_ret
   rw [HO.out]
   exact ⟨⟨_, _, by rw [hml]; rfl, HF.out⟩, rfl⟩
open Go.RowKit
theorem qdU : q2a Tryz.prog 107 2 40 := q2a.of (by kernel_rfl)
def q37 (g : KeyS → List Ver) (t : Nat) (k : KeyS) : Option (KeyS × List UInt8) := (getH (g k) t).map fun b => (k, b)
def qea (g : KeyS → List Ver) (ks : List KeyS) (lo hi : KeyS) (t : Nat) : List (KeyS × List UInt8) := (betw ks lo hi).filterMap (q37 g t)
theorem q6S {α β : Type} (f : α → Option β) {l : List α} {j : Nat} (hj : j < l.length) : (l.take (j + 1)).filterMap f = (l.take j).filterMap f ++ (f (l[j]'hj)).toList := by
 rw [List.take_succ_eq_append_getElem hj, List.filterMap_append]
 congr 1
def qfM (lo hi : Nat) (v : Value) (b : Nat) : Prop := lo ≤ b ∧ b < hi ∧ v.ownBlock ≠ some b
def qfP (l : List (KeyS × List UInt8)) (w : World) (e : Ending) (w' : World) : Prop := ∃ v ms, e = .returned v ∧ ms.map MP.p = l ∧ OwnG 107 2 q0e w' w.heap.size v ms ∧ (∀ x ∈ ms, SlD w' (qfM w.heap.size w'.heap.size v) x.A x.c x.b) ∧ Below w.heap.size w w'
section
variable {w : World} {p : Nat} {F D : Nat → Prop} {B : Nat} {kv : Value} {cv : KeyS → Value} {L : LimS} {m r v : Int} {now : Nat} {g : KeyS → List Ver} {ks : List KeyS} {z : Sz}
theorem q78 (h : RawS w p F D B kv cv L m r v now g ks z) (lo hi : KeyS) (t : Nat) (hl : ks.length ≤ 1048576) (hri : q2s ks) (hok : ∀ k, q4G (g k) ∧ q1A (g k) = true) :
  Calls Tryz.prog 74 #[ptrS p, .string (bs lo), .string (bs hi), .int .u64 t] w (qfP (qea g ks lo hi t) w) := by
 have c9 := h.keys_
 have HM := qh (q2k h)
 obtain ⟨A0, c0, hkv, f1, f2, f3, f4⟩ := OwnG.form h.keys
 have HBt := qh (q8n ks A0 c0 0 w.heap.size lo hi w (by omega) f1 f4 hri)
 have hbl : (betw ks lo hi).length ≤ 1048576 := Nat.le_trans (List.length_filter_le _ _) hl
 have HBL := qh hbl
 unfold qea
 generalize betw ks lo hi = bl at *
 have HH := qh h
 have HOK := qh hok
 subst hkv
 clear h hok hl hri f1 f2 f3 f4 hbl
 have HRd : Hid (∀ (k : KeyS) (wr : World), Below w.heap.size w wr → Calls Tryz.prog 80 #[ptrS p, .string (bs k), .int .u64 t] wr (q9t (getH (g k) t) wr)) := qh fun k wr hb => q6b (HH.out.below hb) k t (HOK.out k).1 (HOK.out k).2
 clear HH HOK
 unfold ptrS at HM HRd ⊢
 go_enter Tryz.func74, Tryz.ntmps74
 go_wp2_with fail
 refine HM.out.mono ?_
 rintro e w' ⟨rfl, rfl⟩
 go_wp2_with fail
 refine HBt.out.mono ?_
 rintro e w0 ⟨⟨A1, c1, rfl, hr1⟩, rfl⟩
 have HR := qh hr1
 clear hr1 HM HBt
 go_wp2_with fail
 go_loopg [9, 25] bl.length (fun q u i wr => ∃ (j : Nat) (ms : List MP), j + q = bl.length ∧ i = .int .i64 j ∧ OwnG 107 2 q0e wr w0.heap.size u ms ∧ ms.map MP.p = (bl.take j).filterMap (q37 g t) ∧ (∀ x ∈ ms, SlD wr (qfM w0.heap.size wr.heap.size u) x.A x.c x.b) ∧ Below w0.heap.size w0 wr)
 case atStart => exact ⟨0, [], by omega, rfl, OwnG.none_ _ _ _ _ _, rfl, by simp, Below.refl _ _⟩
 case round =>
  obtain ⟨j, ms, hk, rfl, ho, hms, hin, hb⟩ := hrel
  have HK := qh hk
  have HO := qh ho
  have HMs := qh hms
  have HIn := qh hin
  have HB := qh hb
  have hble := HBL.out
  clear hk ho hms hin hb
  by_cases hj : j < bl.length
  ·have hlt : decide ((j : Int) < (bl.length : Int)) = true := by simpa using hj
   have hlt2 : decide (j < bl.length) = true := by simpa using hj
   obtain ⟨b, o, rfl, _, hbh, hcell⟩ := (HR.out.below HB.out (Nat.le_refl _)).at_ kF hj
   have d0 := hcell 0 _ rfl
   simp only [Nat.add_zero, Nat.mul_one] at d0
   have HTk := qh (q6S (q37 g t) hj)
   have HLn := qh (show ms.length ≤ 1048576 by
    have h1 := List.length_filterMap_le (q37 g t) (bl.take j)
    rw [← HMs.out, List.length_map] at h1
    have h2 := List.length_take_le j bl
    have := HBL.out
    have h3 : (bl.take j).length ≤ bl.length := by rw [List.length_take]; omega
    omega)
   have HCall := qh (HRd.out (bl[j]'hj) wr HB.out)
   have HPO : Hid (q37 g t (bl[j]'hj) = (getH (g (bl[j]'hj)) t).map fun b => (bl[j]'hj, b)) := qh rfl
   clear hcell hbh
   generalize bl[j] = x at *
   generalize q37 g t x = so at *
   generalize getH (g x) t = G at *
   go_wp2_with fail
   refine HCall.out.mono ?_
   rintro e w3 ⟨A3, c3, rfl, hs3, hb3⟩
   have HB3 := qh (HB.out.trans (hb3.mono HB.out.size))
   have HO3 := qh (HO.out.below hb3)
   have HS3 := qh hs3
   have hlt3 := HO.out.lt
   have HLt := qh hlt3
   have HB3' := qh hb3
   clear hs3 hb3 HCall hlt3
   cases G with
   | none =>
    simp only [Option.getD_none, Option.isSome_none] at HS3 ⊢
    have HT := qh (show (bl.take (j + 1)).filterMap (q37 g t) = (bl.take j).filterMap (q37 g t) by rw [HTk.out, HPO.out]; simp)
    clear HTk HPO
    go_wp2_with fail
    go_roundg (gk - 1)
    case measure => have := HK.out; omega
    case rel => exact ⟨j + 1, ms, by have := HK.out; omega, by go_num, HO3.out, by rw [HT.out]; exact HMs.out, fun y hy => (HIn.out y hy).step fun b hb => ⟨HB3'.out.block b hb.2.1, hb.1, Nat.lt_of_lt_of_le hb.2.1 HB3'.out.size, hb.2.2⟩, HB3.out⟩
   | some d =>
    simp only [Option.getD_some, Option.isSome_some] at HS3 ⊢
    have HT := qh (show (bl.take (j + 1)).filterMap (q37 g t) = (bl.take j).filterMap (q37 g t) ++ [(x, d)] by rw [HTk.out, HPO.out]; simp)
    clear HTk HPO
    go_wp2_with (at_builtin; refine q13 _ rfl _ _ 41 107 40 mpF qdU Tryz.underlying41 rfl w0.heap.size _ ms rfl (HO3.out.allocs _) w3.heap.size (w3.heap.size + 1) ⟨w3.heap.size, 0, none⟩ 1 1 [⟨x, d, A3, c3⟩] rfl rfl (RowG.one (cs := q0e) (heap_alloc_new w3 _)) (by have e8 := HLn.out; simp only [List.length_singleton]; unfold maxLen; omega) (by have e8 := HLn.out; simp only [List.length_singleton]; omega) (by have := HB3.out.size; simp; omega) ?_; intro v1 w5 ho5 hg5 hat5; have HO5 := qh ho5; have HG5 := qh hg5; have HA5 := qh hat5; have HB5 := qh ((HB3.out.alloc HB3.out.size (.cells #[.string (bs x), .slice A3 d.length c3] 107)).grown hg5 (by have := HB3.out.size; simp; omega) (fun k hk => (HO3.out.lt k hk).1)); clear ho5 hg5 hat5)
    go_roundg (gk - 1)
    case measure => have := HK.out; omega
    case rel =>
     have hs3 := HB3'.out.size
     have hs5 : w3.heap.size + 1 ≤ w5.heap.size := by have := HG5.out.size; simpa using this
     have hfar : ∀ b, w0.heap.size ≤ b → b < w3.heap.size → u9.ownBlock ≠ some b → w5.heap[b]? = w3.heap[b]? ∧ qfM w0.heap.size w5.heap.size v1 b := fun b h1 h2 h3 => by
      refine ⟨?_, h1, by omega, fun e => ?_⟩
      ·rw [HG5.out.block b (by simp; omega) (fun e => h3 e.symm)]
       exact ((Below.refl w3.heap.size w3).alloc (Nat.le_refl _) _).block b h2
      ·rcases HA5.out with h4 | h4
       ·exact h3 (h4.symm.trans e)
       ·rw [h4] at e
        injection e with e
        simp at e
        omega
     refine ⟨j + 1, ms ++ [⟨x, d, A3, c3⟩], by have := HK.out; omega, by go_num, HO5.out, by rw [HT.out, List.map_append, HMs.out]; rfl, fun y hy => ?_, HB5.out⟩
     rcases List.mem_append.1 hy with hy | hy
     ·refine (HIn.out y hy).step fun b hb => ?_
      obtain ⟨k1, k2⟩ := hfar b hb.1 (Nat.lt_of_lt_of_le hb.2.1 hs3) hb.2.2
      exact ⟨k1.trans (HB3'.out.block b hb.2.1), k2⟩
     ·rw [List.mem_singleton] at hy
      subst hy
      refine (HS3.out.slD (D := fun b => wr.heap.size ≤ b ∧ b < w3.heap.size) fun b h1 h2 => ⟨h1, h2⟩).step fun b hb => ?_
      exact hfar b (Nat.le_trans HB.out.size hb.1) hb.2 fun e => by have := (HLt.out b e).2; omega
  ·have hj' : j = bl.length := by have := HK.out; omega
   subst hj'
   have hlt : decide ((bl.length : Int) < (bl.length : Int)) = false := by simp
   have hlt2 : decide (bl.length < bl.length) = false := by simp
   have hms := HMs.out
   rw [List.take_length] at hms
   have HMs2 := qh hms
   clear hms
   go_wp2
   go_ret
   exact ⟨_, ms, rfl, HMs2.out, HO.out, HIn.out, HB.out⟩
theorem qcW (h : RawS w p F D B kv cv L m r v now g ks z) (lo hi : KeyS) (t : Nat) (hl : ks.length ≤ 1048576) (hri : q2s ks) (hok : ∀ k, q4G (g k) ∧ q1A (g k) = true) :
  Calls Tryz.prog 74 #[ptrS p, .string (bs lo), .string (bs hi), .int .u64 t] w fun e w' => ∃ A c, e = .returned (.slice A (qea g ks lo hi t).length c) ∧ ChP w' w.heap.size w'.heap.size A c (qea g ks lo hi t) ∧ Below w.heap.size w w' := (q78 h lo hi t hl hri hok).mono fun _ _ q => by
 obtain ⟨v, ms, rfl, hm, ho, hi, hb⟩ := q
 obtain ⟨A9, c9, rfl, k1, k2, k3, k4⟩ := ho.form
 rw [← hm]
 exact ⟨A9, c9, by simp only [List.length_map], ⟨by rw [List.length_map]; exact k1, k2, k3, ms, rfl, k4, fun y hy => (hi y hy).slI fun b hb => ⟨hb.1, hb.2.1⟩⟩, hb⟩
end
open Go.RowKit
theorem q7q (g : KeyS → List Ver) (lo hi : KeyS) (t : Nat) : ∀ (l : KsS), (∀ x ∈ l, g x.1 = x.2) → ((l.map Prod.fst).filter (inS lo hi)).filterMap (q37 g t) = l.filterMap (q3J lo hi t)
 | [], _ => rfl
 | x :: l, h => by
  have ih := q7q g lo hi t l fun y hy => h y (List.mem_cons_of_mem _ hy)
  have hx := h x (List.mem_cons_self ..)
  rw [List.map_cons, List.filter_cons, List.filterMap_cons]
  have e : q3J lo hi t x = if inS lo hi x.1 = true then q37 g t x.1 else none := by unfold q3J q37; rw [hx]
  rw [e]
  by_cases hi' : inS lo hi x.1 = true
  ·rw [if_pos hi', if_pos hi', List.filterMap_cons, ih]
  ·rw [if_neg hi', if_neg hi', ih]
theorem qb8 {K : KsS} (h : q0F K) (lo hi : KeyS) (t : Nat) : qea (q03 K) (K.map Prod.fst) lo hi t = q1w K lo hi t :=
 q7q (q03 K) lo hi t K fun _ hx => q0K h hx
theorem q1Y : qgy StD where
 keep := fun h hk => by
  obtain ⟨D, B, kv, cv, m, r, v, h1, h2⟩ := h
  exact ⟨D, B, kv, cv, m, r, v, h1.keep hk, h2⟩
 upto := fun h k hk => by
  obtain ⟨D, B, kv, cv, m, r, v, h1, h2⟩ := h
  exact h1.lt k hk
 okay := fun h => by
  obtain ⟨D, B, kv, cv, m, r, v, h1, h2, h3, h4, h5, h6, h7⟩ := h
  exact ⟨h2, h3, h4, h5, h6⟩
 check := fun l lo hi A c w hl hr hhi => q61 l lo hi A c w (by have := hl.1; omega) hr.2.2.2 hhi
 new := fun L m r v w _ _ _ hlast => (qeW L m r v w).mono fun e w' ⟨hb, h⟩ => by
  refine ⟨hb, ?_⟩
  by_cases hm : MayS L = true
  ·rw [if_pos hm] at h ⊢
   obtain ⟨p, F, D, B, rfl, hraw, hF⟩ := h
   exact ⟨p, F, rfl, ⟨D, B, _, _, m, r, v, hraw, ok_none, qdl hm, hm, (fun _ hx => by cases hx), hlast, qeE⟩, hF⟩
  ·rw [if_neg hm] at h ⊢
   exact h
 now := fun p F L st w h => by
  obtain ⟨D, B, kv, cv, m, r, v, h1, _⟩ := h
  exact (qaK h1).mono fun e w' ⟨he, hw⟩ => ⟨he, by rw [hw]; exact Below.refl _ _⟩
 count := fun p F L st w h => by
  obtain ⟨D, B, kv, cv, m, r, v, h1, _⟩ := h
  exact qbw h1
 latest := fun p F L st k w h hk => by
  obtain ⟨D, B, kv, cv, m, r, v, h1, h2, h3, h4, _⟩ := h
  exact (q9S h1 k (by have := ((q2S h4 h3).ok k).1; omega)).mono fun e w' ⟨he, hw⟩ => ⟨he, by rw [hw]; exact Below.refl _ _⟩
 read := fun p F L st k t w h hk ht => by
  obtain ⟨D, B, kv, cv, m, r, v, h1, h2, h3, h4, _⟩ := h
  exact (q6b h1 k t ((q2S h4 h3).ok k) (h2.rightC k)).mono fun e w' h => h
 scan := fun p F L st lo hi t w h hlo hhi ht => by
  obtain ⟨D, B, kv, cv, m, r, v, h1, h2, h3, h4, _⟩ := h
  have hs := q2S h4 h3
  have hd := qcW h1 lo hi t (by rw [List.length_map]; exact hs.len) (q4N h2.sort) (fun k => ⟨hs.ok k, h2.rightC k⟩)
  rw [qb8 h2.sort] at hd
  exact hd
 commit := fun p F L st l lo hi A c low w h hl hr hhi hsep hlow => q9N p F L st l lo hi A c low w h hl hr hhi hsep
 collect := fun p F L st low w h hlow => by
  obtain ⟨D, B, kv, cv, m, r, v, h1, h2, h3, h4, h5, h6, h7⟩ := h
  refine (q5m st low h1 h2 (q2S h4 h3) h7 h5).mono fun e w' ⟨he, F', D', kv', cv', hr, hm, hf⟩ => ?_
  exact ⟨he, F', ⟨D', B, kv', cv', m, r, v, hr, q1V h2 low, ⟨q2n h2.sort h2.full low h3.1, h3.2⟩, h4, q5r h5 low, h6, q5Q h2 h7 low⟩, hm, hf⟩
 clone := fun p F L st w h => by
  obtain ⟨D, B, kv, cv, m, r, v, h1, h2, h3, h4, h5, h6, h7⟩ := h
  exact (q9K st h1 h2 (q2S h4 h3)).mono fun e w' ⟨q, F', D', B', kv', cv', he, hr, hf, hb⟩ => ⟨q, F', he, ⟨D', B', kv', cv', m, r, v, hr, h2, h3, h4, h5, h6, h7⟩, hf, hb⟩
end Go.Proofs.YtdpbllacfljmoaaGreat
