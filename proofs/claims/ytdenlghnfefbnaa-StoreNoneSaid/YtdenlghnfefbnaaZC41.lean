import Derived.Test.YtdenlghnfefbnaaZC40
/-
  The developers' store: Clone.
-/
namespace Go.Proofs.Ytdenlghnfefbnaa
open Go.RowKit

theorem run_makeMap_hint {P : Program} {t k e : TypeId} (ht : P.underlying t = some (.map k e)) (w : World) (n : Int) : (Instr.makeMap t (some (.int .i64 n))).run P w = .ok (.map (some w.heap.size)) (w.alloc (.map #[] 0)) := by
  have h := @run_makeMap P t w
  unfold Instr.makeMap at h ⊢
  simp [run_underlying ht, asInt, asIntOf, Result.andThen] at h ⊢
theorem run_makeMapN (w : World) (n : Nat) : (Instr.makeMap 75 (some (.int .i64 (n : Int)))).run Try.prog w = .ok (.map (some w.heap.size)) (w.alloc (.map #[] 0)) := run_makeMap_hint Try.underlying75 w n
theorem chain_take {K : KsS} (h : SortS K) (hf : FullS K) {j : Nat} (hj : j < K.length) : chainS (K.take (j + 1)) = updG (chainS (K.take j)) (K[j]'hj).1 (K[j]'hj).2 := funext fun k => by
  rw [List.take_succ_eq_append_getElem hj, chainS_app (fun x hx => hf x (List.mem_of_mem_take hx))]
  by_cases e : k = (K[j]'hj).1
  · have h0 : chainS (K.take j) (K[j]'hj).1 = [] := chainS_no fun x hx => blt_ne (take_lt h hx (by rw [List.drop_eq_getElem_cons hj]; exact List.mem_cons_self ..))
    rw [e, updG_self, h0, if_pos (show ([] : List Ver).isEmpty = true from rfl), chainS_cons, if_pos rfl]
  · rw [updG_ne _ e]
    have h1 : chainS [K[j]'hj] k = [] := by rw [chainS_cons, if_neg (fun e2 => e e2.symm), chainS_nil]
    rw [h1]
    cases h2 : chainS (K.take j) k <;> rfl
theorem take_none {K : KsS} (h : SortS K) {j : Nat} (hj : j < K.length) : chainS (K.take j) (K[j]'hj).1 = [] := chainS_no fun x hx => blt_ne (take_lt h hx (by rw [List.drop_eq_getElem_cons hj]; exact List.mem_cons_self ..))
theorem clone_start {w3 : World} {q B' n0 : Nat} {kv' : Value} {L : LimS} {m r v : Int} {now : Nat} {ks : List KeyS} {z : Sz} (hb : w3.heap[q]? = some (.cells (boxS L m r v now B' kv' z) 77 (0, 0))) (hm : MapS w3 B' fun _ => none) (ho : OwnG 9 1 kCells w3 0 kv' ks)
    (hn : n0 ≤ q) (hq : q < w3.heap.size) (hB : n0 ≤ B') (hqB : q ≠ B') (hk : ∀ b, kv'.ownBlock = some b → n0 ≤ b ∧ b ≠ q ∧ b ≠ B') :
    RawS w3 q (fun b => n0 ≤ b ∧ b < w3.heap.size) (fun _ => False) B' kv' (fun _ => .slice none 0 0) L m r v now (chainS []) ks z where
  box := hb
  map := hm
  keys := ho
  chain := fun _ h => absurd rfl h
  Fp := ⟨hn, hq⟩
  FB := ⟨hB, hm.lt⟩
  Fk := fun b hb2 => ⟨(hk b hb2).1, (OwnG.lt ho b hb2).2⟩
  Fc := fun _ h => absurd rfl h
  FD := fun _ h => h.elim
  lt := fun _ h => h.2
  pB := hqB
  kvp := fun b hb2 => ⟨(hk b hb2).2.1, (hk b hb2).2.2, fun h => h⟩
  cvp := fun _ h => absurd rfl h
  apart := fun _ _ h => absurd rfl h
  Dp := fun h => h
  DB := fun h => h
set_option maxRecDepth 100000 in
set_option maxHeartbeats 4000000 in
theorem dClone8_any {w : World} {p : Nat} {F D : Nat → Prop} {B : Nat} {kv : Value} {cv : KeyS → Value} {L : LimS} {m r v : Int} (st : PS) (h : RawS w p F D B kv cv L m r v st.time (chainS st.K) (st.K.map Prod.fst) (szS st.K)) (ho : OkS st) (hs : SmallS st) :
    Calls Try.prog 35 #[ptrS p] w fun e w' => ∃ q F' D' B' kv' cv', e = .returned (ptrS q) ∧ RawS w' q F' D' B' kv' cv' L m r v st.time (chainS st.K) (st.K.map Prod.fst) (szS st.K) ∧ (∀ k, F' k → w.heap.size ≤ k) ∧ Below w.heap.size w w' := by
  have HM := Lib.hid (dMade_any h)
  obtain ⟨A, c, hkv, f1, f2, f3, f4⟩ := OwnG.form h.keys
  rw [List.length_map] at hkv f1
  subst hkv
  have HRaw := Lib.hid h
  have HO := Lib.hid ho
  have HS := Lib.hid hs
  have c0 := h.lim0
  have c1 := h.lim1
  have c2 := h.lim2
  have c3 : w.cell? ⟨p, 3, none⟩ = some (.int .i64 m) := h.cell 3 _ rfl
  have c4 : w.cell? ⟨p, 4, none⟩ = some (.int .i64 r) := h.cell 4 _ rfl
  have c5 : w.cell? ⟨p, 5, none⟩ = some (.int .i64 v) := h.cell 5 _ rfl
  have c6 := h.lim6
  have c7 := h.now_
  have c8 := h.map_
  have c9 := h.keys_
  have c10 := h.sz0
  have c11 := h.sz1
  have c12 := h.sz2
  obtain ⟨w1, hw1⟩ : ∃ y, w.alloc (.cells #[.int .i64 L.keys, .int .i64 L.vers, .int .i64 L.byts, .int .i64 m, .int .i64 r, .int .i64 v, .int .u64 L.last, .int .u64 st.time, .map (some B), .slice A st.K.length c, .int .i64 ((szS st.K).k : Int), .int .i64 ((szS st.K).v : Int), .int .i64 ((szS st.K).b : Int)] 77) = y := ⟨_, rfl⟩
  have b1 : Below w.heap.size w w1 := by rw [← hw1]; exact (Below.refl _ w).alloc (Nat.le_refl _) _
  have s1 : w1.heap.size = w.heap.size + 1 := by rw [← hw1]; simp
  have hx1 : w1.heap[w.heap.size]? = some (.cells (boxS L m r v st.time B (.slice A st.K.length c) (szS st.K)) 77 (0, 0)) := by rw [← hw1]; exact heap_alloc_new w _
  have d9 := (h.below b1).keys_
  have HCl := Lib.hid (dCloneK_any (.slice A st.K.length c) (st.K.map Prod.fst) w1 (h.below b1).keys (by rw [List.length_map]; exact hs.len))
  have HW1 := Lib.hid hw1
  have HB1 := Lib.hid b1
  have HX1 := Lib.hid hx1
  have HS1 := Lib.hid s1
  have HF4 := Lib.hid f4
  have hnl := hs.len
  clear h ho hs hw1 b1 hx1 s1 f1 f2 f3 f4
  unfold ptrS at HM ⊢
  go_enter Try.func35, Try.ntmps35
  go_wp2_with fail
  refine HM.out.mono ?_
  rintro e w9 ⟨rfl, hw9⟩
  rw [hw9]
  clear HM hw9 w9
  go_upto_region 4 with fail
  rw [HW1.out]
  clear HW1 c0 c1 c2 c3 c4 c5 c6 c7 c8 c9 c10 c11 c12
  go_wp2_with fail
  refine HCl.out.mono ?_
  rintro e w2 ⟨kv', rfl, ho2, hb2⟩
  obtain ⟨A', c', hkv', _⟩ := OwnG.form ho2
  rw [List.length_map] at hkv'
  have hbt2 := HB1.out.trans (hb2.mono HB1.out.size)
  have hx2 := heap_below HX1.out hb2 (lt_of_heap HX1.out)
  have hkl : ∀ b, kv'.ownBlock = some b → w1.heap.size ≤ b ∧ b < w2.heap.size := OwnG.lt ho2
  subst hkv'
  obtain ⟨w3, hw3⟩ : ∃ y, w2.setCell ⟨w.heap.size, 9, none⟩ (.slice A' st.K.length c') = y := ⟨_, rfl⟩
  have hx3 : w3.heap[w.heap.size]? = some (.cells (boxS L m r v st.time B (.slice A' st.K.length c') (szS st.K)) 77 (0, 0)) := by rw [← hw3]; exact setCell_box hx2 9 _
  have hs3 : w3.heap.size = w2.heap.size := by rw [← hw3]; simp [World.setCell]
  have hbt3 : Below w.heap.size w w3 := by rw [← hw3]; exact hbt2.setCell (Nat.le_refl _) _
  have ho3 : OwnG 9 1 kCells w3 0 (.slice A' st.K.length c') (st.K.map Prod.fst) := OwnG.keep ho2 (fun b hb _ => by rw [← hw3]; exact box_farJ (fun e => by have := (hkl b hb).1; have := HS1.out; omega) _ _) (Nat.zero_le _)
  obtain ⟨w4, hw4⟩ : ∃ y, w3.alloc (.map #[] 0) = y := ⟨_, rfl⟩
  obtain ⟨w5, hw5⟩ : ∃ y, w4.setCell ⟨w.heap.size, 8, none⟩ (.map (some w3.heap.size)) = y := ⟨_, rfl⟩
  have hx4 : w4.heap[w.heap.size]? = some (.cells (boxS L m r v st.time B (.slice A' st.K.length c') (szS st.K)) 77 (0, 0)) := by rw [← hw4]; exact heap_allocs hx3 _
  have hx5 : w5.heap[w.heap.size]? = some (.cells (boxS L m r v st.time w3.heap.size (.slice A' st.K.length c') (szS st.K)) 77 (0, 0)) := by rw [← hw5]; exact setCell_box hx4 8 _
  have hbt5 : Below w.heap.size w w5 := by rw [← hw5, ← hw4]; exact (hbt3.alloc hbt3.size _).setCell (Nat.le_refl _) _
  have hs5 : w5.heap.size = w3.heap.size + 1 := by rw [← hw5, ← hw4]; simp [World.setCell]
  have hlt := lt_of_heap hx3
  have hm5 : MapS w5 w3.heap.size fun _ => none := MapS.keep (w := w4) (by rw [← hw4]; exact MapS.made w3) (by rw [← hw5]; exact box_farJ (by omega) _ _)
  have ho5 : OwnG 9 1 kCells w5 0 (.slice A' st.K.length c') (st.K.map Prod.fst) := OwnG.keep ho3 (fun b hb hb3 => by
    rw [← hw5, box_farJ (fun e => by have := (hkl b hb).1; have := HS1.out; omega), ← hw4]
    exact ((Below.refl _ w3).alloc (Nat.le_refl _) _).block b hb3) (Nat.le_refl _)
  have hstart := clone_start (n0 := w.heap.size) hx5 hm5 ho5 (Nat.le_refl _) (by omega) (by omega) (by omega) (fun b hb => by
    have h1 := hkl b hb
    have := HS1.out
    exact ⟨by omega, by omega, by omega⟩)
  have e9 := (HRaw.out.below hbt3).keys_
  have e9b := (HRaw.out.below hbt5).keys_
  have g9 := frozen_of hx2 9
  have i9 : w2.cell? ⟨w.heap.size, 9, none⟩ = some (.slice A st.K.length c) := by rw [cell_of_row w2 _ 9 _ _ _ hx2]; rfl
  have i8 : w4.cell? ⟨w.heap.size, 8, none⟩ = some (.map (some B)) := by rw [cell_of_row w4 _ 8 _ _ _ hx4]; rfl
  have g8 := frozen_of hx4 8
  have hmk := run_makeMapN w3 st.K.length
  rw [hw4] at hmk
  have HStart := Lib.hid hstart
  have HB5 := Lib.hid hbt5
  have HW3 := Lib.hid hw3
  have HW5 := Lib.hid hw5
  have HQB := Lib.hid (show w.heap.size ≠ w3.heap.size by omega)
  clear ho2 hb2 hbt2 hx2 hkl hw3 hx3 hs3 hbt3 ho3 hw4 hw5 hx4 hx5 hbt5 hs5 hlt hm5 ho5 hstart HCl HX1 HB1
  go_upto_region 5 with fail
  rw [HW3.out]
  clear HW3
  go_upto_region 6 with fail
  rw [HW5.out]
  clear HW5
  go_wp2_with fail
  go_loopg [30] st.K.length (fun q i wr => ∃ (j : Nat) (F' D' : Nat → Prop) (cv' : KeyS → Value), j + q = st.K.length ∧ i = .int .i64 j ∧ RawS wr w.heap.size F' D' w3.heap.size (.slice A' st.K.length c') cv' L m r v st.time (chainS (st.K.take j)) (st.K.map Prod.fst) (szS st.K) ∧ (∀ b, F' b → w.heap.size ≤ b) ∧ Below w.heap.size w wr)
  case atStart => exact ⟨0, _, _, _, by omega, rfl, HStart.out, fun _ h => h.1, HB5.out⟩
  case round =>
    obtain ⟨j, F1, D1, cv1, hk, rfl, hraw1, hF1, hb⟩ := hrel
    have HK := Lib.hid hk
    have HRaw1 := Lib.hid hraw1
    have HF1 := Lib.hid hF1
    have HB := Lib.hid hb
    clear hk hraw1 hF1 hb e9 e9b
    by_cases hj : j < st.K.length
    · have hlt : decide ((j : Int) < (st.K.length : Int)) = true := by simpa using hj
      have hlt2 : decide (j < st.K.length) = true := by simpa using hj
      obtain ⟨b, o, hA, _, _, hcell⟩ := (HF4.out.below HB.out (Nat.le_refl _)).at_ kF (j := j) (by rw [List.length_map]; exact hj)
      subst hA
      have d0 := hcell 0 _ rfl
      simp only [Nat.add_zero, Nat.mul_one, List.getElem_map] at d0
      have hch : chainS st.K (st.K[j]'hj).1 = (st.K[j]'hj).2 := chainS_mem HO.out.sort (List.getElem_mem hj)
      have hne : (st.K[j]'hj).2 ≠ [] := HO.out.full _ (List.getElem_mem hj)
      have hrw := HRaw.out.below HB.out
      have hrd := hrw.keep (w' := wr.drew) fun _ _ => rfl
      obtain ⟨A9, c9, hv9, hc9⟩ := hrd.ch (st.K[j]'hj).1
      rw [hch] at hv9 hc9
      have hstep := chain_take HO.out.sort HO.out.full hj
      have hnone := take_none HO.out.sort hj
      have hok := HS.out.ok (st.K[j]'hj).1
      have hri := HO.out.rightC (st.K[j]'hj).1
      rw [hch] at hok hri
      have SS : ∀ W, Below w.heap.size w W → W.heap[w.heap.size]? = wr.heap[w.heap.size]? → W.cell? ⟨w.heap.size, 8, none⟩ = some (.map (some w3.heap.size)) ∧ W.cell? ⟨p, 8, none⟩ = some (.map (some B)) ∧ (Instr.lookup 75 (.map (some B)) (.string (bs (st.K[j]'hj).1)) false).run Try.prog W = .ok (.slice A9 (st.K[j]'hj).2.length c9) W := fun W h1 h2 => by
        have h3 := HRaw.out.below h1
        refine ⟨by rw [cell_of_row W _ 8 _ _ _ (h2.trans HRaw1.out.box)]; rfl, h3.map_, ?_⟩
        rw [h3.look, hv9]
      have HWh : Hid (Calls Try.prog 51 #[.slice A9 (st.K[j]'hj).2.length c9] wr.drew fun e w6 => ∃ q' cT w7, e = .returned (.slice (some ⟨q', 0, none⟩) (st.K[j]'hj).2.length cT) ∧
          (Instr.mapUpdate 75 (.map (some w3.heap.size)) (.string (bs (st.K[j]'hj).1)) (.slice (some ⟨q', 0, none⟩) (st.K[j]'hj).2.length cT)).run Try.prog w6 = .ok () w7 ∧
          (w6.cell? ⟨w.heap.size, 8, none⟩ = some (.map (some w3.heap.size)) ∧ w6.cell? ⟨p, 8, none⟩ = some (.map (some B)) ∧ (Instr.lookup 75 (.map (some B)) (.string (bs (st.K[j]'hj).1)) false).run Try.prog w6 = .ok (.slice A9 (st.K[j]'hj).2.length c9) w6) ∧
          (w7.cell? ⟨w.heap.size, 8, none⟩ = some (.map (some w3.heap.size)) ∧ w7.cell? ⟨p, 8, none⟩ = some (.map (some B)) ∧ (Instr.lookup 75 (.map (some B)) (.string (bs (st.K[j]'hj).1)) false).run Try.prog w7 = .ok (.slice A9 (st.K[j]'hj).2.length c9) w7) ∧
          ∃ (F' D' : Nat → Prop) (cv' : KeyS → Value), RawS w7 w.heap.size F' D' w3.heap.size (.slice A' st.K.length c') cv' L m r v st.time (chainS (st.K.take (j + 1))) (st.K.map Prod.fst) (szS st.K) ∧ (∀ b, F' b → w.heap.size ≤ b) ∧ Below w.heap.size w w7) := Lib.hid (by
        refine (dWhole_any (st.K[j]'hj).2 A9 c9 wr.drew hok hc9 hri).mono ?_
        rintro e w6 ⟨q', cT, ms, he, hms, hq, hown, hfar, hb6⟩
        have hs6 : wr.heap.size ≤ w6.heap.size := hb6.size
        have hqs : wr.heap.size ≤ q' := hq
        have hk6 : ∀ b, b < wr.heap.size → w6.heap[b]? = wr.heap[b]? := fun b hb => hb6.block b hb
        have hraw6 := HRaw1.out.keep (w' := w6) fun b hb => hk6 b (HRaw1.out.lt b hb)
        obtain ⟨w7, hupd, hmp, hgr, hs7⟩ := MapS.store (P := Try.prog) hraw6.map Try.underlying75 Try.underlying9 (st.K[j]'hj).1 (.slice (some ⟨q', 0, none⟩) (st.K[j]'hj).2.length cT)
        unfold keyV at hupd
        have hbw6 : Below w.heap.size w w6 := HB.out.trans ⟨hb6.os, hb6.tape, hb6.output, hs6, fun k hk => hk6 k (Nat.lt_of_lt_of_le hk HB.out.size)⟩
        have hB1 := HF1.out _ HRaw1.out.FB
        have hBl := HRaw1.out.lt _ HRaw1.out.FB
        have hbw7 : Below w.heap.size w w7 := hbw6.grown hgr hbw6.size (fun k hk => by cases hk; exact hB1)
        have hkp7 : ∀ b, b ≠ w3.heap.size → b < w6.heap.size → w7.heap[b]? = w6.heap[b]? := fun b hb h2 => hgr.block b h2 (fun e => hb (by injection e))
        have hpl := HRaw1.out.lt _ HRaw1.out.Fp
        have hsm := hgr.size
        refine ⟨q', cT, w7, he, hupd, SS w6 hbw6 (hk6 _ hpl), SS w7 hbw7 ((hkp7 _ HRaw1.out.pB (by omega)).trans (hk6 _ hpl)), ?_⟩
        have hown7 : OwnG 72 3 mvCells w7 0 (.slice (some ⟨q', 0, none⟩) (st.K[j]'hj).2.length cT) ms := OwnG.keep hown (fun b hb h2 => by
          simp only [Value.ownBlock, Option.some.injEq] at hb
          exact hkp7 b (by omega) h2) (Nat.zero_le _)
        have hq6 := (OwnG.lt hown q' rfl).2
        have hfin := hraw6.putC (w' := w7) (k := (st.K[j]'hj).1) (u := .slice (some ⟨q', 0, none⟩) (st.K[j]'hj).2.length cT) (D' := fun b => D1 b ∨ (q' + 1 ≤ b ∧ b < w6.heap.size)) (N := fun b => wr.heap.size ≤ b ∧ b < w7.heap.size) (fun b hb => ⟨fun hf => by have := HRaw1.out.lt b hf; omega, hb.2⟩) hne (by rw [mapG_put hne]; exact hmp)
          ⟨ms, hms, hown7, fun x hx => ((hfar x hx).keep (w' := w7) (fun b h1 h2 => hkp7 b (by omega) h2) (Nat.le_refl _)).okD fun b h1 h2 => .inr ⟨h1, h2⟩⟩ hgr.size (fun b hb => .inl hb)
          (fun b hb => by
            rcases hb with h1 | h1
            · exact .inl h1
            · exact .inr ⟨by omega, by omega⟩)
          (fun b hb => by
            simp only [Value.ownBlock, Option.some.injEq] at hb
            subst hb
            refine ⟨.inl ⟨hqs, by omega⟩, fun hd => ?_⟩
            rcases hd with h1 | h1
            · have := HRaw1.out.lt _ (HRaw1.out.FD _ h1)
              omega
            · omega)
          (fun b hb hne2 _ => hkp7 b hne2 (by have := HRaw1.out.lt b hb; omega))
        rw [← hstep] at hfin
        exact ⟨_, _, _, hfin, fun b hb => by
          rcases hb with h1 | h1
          · exact HF1.out b h1
          · exact Nat.le_trans HB.out.size h1.1, hbw7⟩)
      have K0 := Lib.hid (SS wr.drew HB.out.drew rfl)
      obtain ⟨k8, kp8, klk⟩ := K0.out
      clear SS hcell hch hne hrw hrd hv9 hc9 hstep hnone hok hri
      generalize (st.K[j]'hj).2.length = n9 at *
      generalize (st.K[j]'hj).1 = key at *
      go_wp2_with fail
      go_region_held3 (fun W => W.cell? ⟨w.heap.size, 8, none⟩ = some (.map (some w3.heap.size)) ∧ W.cell? ⟨p, 8, none⟩ = some (.map (some B)) ∧ (Instr.lookup 75 (.map (some B)) (.string (bs key)) false).run Try.prog W = .ok (.slice A9 n9 c9) W)
        (first | exact K0.out | exact hS6 | exact hS7)
        ((go_at_call 51; refine HWh.out.mono ?_; rintro e w6 ⟨q', cT, w7, rfl, hupd, hS6, hS7, hfin⟩))
      all_goals
        have HFn := Lib.hid hfin
        clear hS6 hS7 hupd hfin
        go_wp2
        go_roundg (gk - 1)
        case measure => have := HK.out; omega
        case rel =>
          obtain ⟨F', D', cv', q1, q2, q3⟩ := HFn.out
          exact ⟨j + 1, F', D', cv', by have := HK.out; omega, by go_num, q1, q2, q3⟩
    · have hj' : j = st.K.length := by have := HK.out; omega
      subst hj'
      have hlt : decide ((st.K.length : Int) < (st.K.length : Int)) = false := by simp
      have hlt2 : decide (st.K.length < st.K.length) = false := by simp
      have hraw := HRaw1.out
      rw [List.take_length] at hraw
      have HFin := Lib.hid hraw
      clear hraw
      go_wp2
      go_ret
      exact ⟨w.heap.size, F1, D1, _, _, cv1, rfl, HFin.out, HF1.out, HB.out⟩
end Go.Proofs.Ytdenlghnfefbnaa
