import Derived.Test.YtdpbllacfljmoaaGreatZE38
set_option maxRecDepth 100000
set_option maxHeartbeats 16000000
set_option linter.unusedVariables false
namespace Go.Proofs.YtdpbllacfljmoaaGreat
open Go.RowKit
def setA (ad : KeyS → Option Addr × Nat) (k : KeyS) (v : Option Addr × Nat) : KeyS → Option Addr × Nat := fun j => if j = k then v else ad j
theorem q8U (ad : KeyS → Option Addr × Nat) (k : KeyS) (v : Option Addr × Nat) : setA ad k v k = v := if_pos rfl
theorem qdz {ad : KeyS → Option Addr × Nat} {k j : KeyS} (v : Option Addr × Nat) (h : j ≠ k) : setA ad k v j = ad j := if_neg h
theorem qfN {ws : List Wr} (h : q4j ws) (ad : KeyS → Option Addr × Nat) (x : Wr) (A : Option Addr) (c : Nat) : wrF (putW ws x) (setA ad x.key (A, c)) = updK (wrF ws ad) x.key (some (q4h x A c)) := funext fun k => by
 unfold wrF
 rw [qdr h]
 by_cases e : k = x.key
 ·subst e
  rw [if_pos rfl, q2K]
  simp [q8U]
 ·rw [if_neg e, q4g _ e]
  cases hf : ws.find? (fun y => y.key == k) with
  | none => rfl
  | some y =>
   have hy : y.key = k := by simpa using List.find?_some hf
   simp only [Option.map_some]
   rw [qdz _ (by rw [hy]; exact e)]
section
variable {w w' : World} {o p : Nat} {ρ ρ' : q0m} {L : LimT} {b b' : q07} {ps B : Nat} {P : Nat → TxP} {rv hv : Value} {F F' : Nat → Prop} {t t' : TxS}
theorem RawB.wrote (h : RawB w o p ρ L b ps B P rv hv) (ht : t ∈ b.live) (hr : q4j t.ws) {wm : World} (hb : Below w.heap.size w wm) (x : Wr) {A : Option Addr} {c : Nat} (hd : SlI wm w.heap.size wm.heap.size A c x.dat)
  (hm : MapK strK w' (P t.id).m (updK (wrF t.ws (P t.id).ad) x.key (some (q4h x A c)))) (hg : wm.grownBy w' (some (P t.id).m)) (hs : w'.heap.size = wm.heap.size) :
  RawB w' o p (newR ρ w.heap.size wm.heap.size 6) L (setT b ⟨t.id, t.began, t.start, t.marks, putW t.ws x⟩) ps B (setP P t.id ⟨(P t.id).q, (P t.id).m, (P t.id).A, (P t.id).c, setA (P t.id).ad x.key (A, c)⟩) rv hv := by
 have htx := h.txs t ht
 have hml := htx.map.lt
 have hql := q00 htx.box
 have hqm : (P t.id).q ≠ (P t.id).m := fun e => by have h1 := htx.rq; have h2 := htx.rm; rw [e] at h1; omega
 have hfar : ∀ k, k < wm.heap.size → k ≠ (P t.id).m → w'.heap[k]? = wm.heap[k]? := fun k hk hn => hg.block k hk (fun e => hn (by injection e))
 have s' : q0K (fun n => n = 8 + 2 * t.id) ρ (newR ρ w.heap.size wm.heap.size 6) w w' := ⟨by rw [hs]; exact hb.size, fun k h1 _ h3 => ⟨(hfar k (Nat.lt_of_lt_of_le h1 hb.size) (fun e => h3 (by rw [e]; exact htx.rm))).trans (hb.block k h1), q1b h1⟩⟩
 have s : q0K (txR t.id) ρ (newR ρ w.heap.size wm.heap.size 6) w w' := s'.mono fun n hn => .inr hn
 refine h.setTx (t' := ⟨t.id, t.began, t.start, t.marks, putW t.ws x⟩) (a' := ⟨(P t.id).q, (P t.id).m, (P t.id).A, (P t.id).c, setA (P t.id).ad x.key (A, c)⟩) ht rfl rfl s ⟨?_, ?_, ?_, fun y hy => ?_, (q1b hql).trans htx.rq, (q1b hml).trans htx.rm⟩ (fun k e => ?_) (fun k hk => ?_)
 ·exact (hfar _ (Nat.lt_of_lt_of_le hql hb.size) hqm).trans ((hb.block _ hql).trans htx.box)
 ·exact htx.marks.keep (s'.dat (by omega))
 ·show MapK strK w' (P t.id).m (wrF (putW t.ws x) (setA (P t.id).ad x.key (A, c)))
  rw [qfN hr]
  exact hm
 ·rcases q5s.1 hy with rfl | ⟨hy2, hne⟩
  ·show ByS w' _ (setA (P t.id).ad y.key (A, c) y.key).1 (setA (P t.id).ad y.key (A, c) y.key).2 y.dat
   rw [q8U]
   have h1 : ByS wm (datR (newR ρ w.heap.size wm.heap.size 6)) A c y.dat := hd.byS fun k g1 g2 => q5q g1 g2
   exact h1.keep fun g hg2 hl => ⟨hfar g hl (fun e => by
    have : newR ρ w.heap.size wm.heap.size 6 g = 6 := hg2
    rw [e, q1b hml, htx.rm] at this
    omega), hg2⟩
  ·show ByS w' _ (setA (P t.id).ad x.key (A, c) y.key).1 (setA (P t.id).ad x.key (A, c) y.key).2 y.dat
   rw [qdz _ hne]
   exact (htx.dat y hy2).keep (s'.dat (by omega))
 ·rcases q17 (show newR ρ w.heap.size wm.heap.size 6 k ≠ 0 by rw [e]; omega) with ⟨_, _, h6⟩ | h6
  ·rw [h6] at e; omega
  ·rw [← h6]; exact e
 ·rw [hs]
  rcases q17 hk with ⟨h1, h2, _⟩ | h6
  ·exact ⟨Nat.le_trans h.o_le h1, h2⟩
  ·have := h.lo k (by rw [← h6]; exact hk)
   exact ⟨this.1, Nat.lt_of_lt_of_le this.2 hb.size⟩
theorem q9E (h : StT o w p F L b) (hsm : q0F b) (id : Int) (x : Wr) (A : Option Addr) (c : Nat) (hx : q2j x) (hd : SlI w 0 w.heap.size A c x.dat) :
  Calls Tryz.prog 41 #[ptrS p, .int .i64 id, q4h x A c] w fun r w' => r = .returned (.int .i64 (q0H b id x).2.e) ∧ ∃ F', q24 StT o w p F L (q0H b id x).1 w' F' := by
 have hst := h
 obtain ⟨ρ, ps, B, P, rv, hv, rfl, hraw, hok, hri, hm⟩ := h
 obtain ⟨w1, hw1⟩ : ∃ y, w.alloc (.cells #[.string (bs x.key), .bool x.gone, .slice A x.dat.length c] 37) = y := ⟨_, rfl⟩
 have hb1 : Below w.heap.size w w1 := by rw [← hw1]; exact (Below.refl _ w).alloc (Nat.le_refl _) _
 have hx1 : w1.heap[w.heap.size]? = some (.cells #[.string (bs x.key), .bool x.gone, .slice A x.dat.length c] 37 (0, 0)) := by rw [← hw1]; exact heap_alloc_new w _
 have HFd := qh (q2Z (hraw.below hb1) id)
 have HSt := qh hst
 have HW1 := qh hw1
 have HB1 := qh hb1
 have HLo := qh (fun k (hk : ownR ρ k) => (hraw.lo k hk).2)
 have c0 : w1.cell? ⟨w.heap.size, 0, none⟩ = some (.string (bs x.key)) := by rw [cell_of_row w1 _ 0 _ _ _ hx1]; rfl
 have c1 : w1.cell? ⟨w.heap.size, 1, none⟩ = some (.bool x.gone) := by rw [cell_of_row w1 _ 1 _ _ _ hx1]; rfl
 have c2 : w1.cell? ⟨w.heap.size, 2, none⟩ = some (.slice A x.dat.length c) := by rw [cell_of_row w1 _ 2 _ _ _ hx1]; rfl
 unfold q4h
 cases hf : ofT b id with
 | none =>
  have HE := qh (show q0H b id x = (b, errT 4) by unfold q0H; rw [hf])
  unfold q2o at HFd
  rw [hf] at HFd
  simp only at HFd
  clear hst hraw hok hri hm hsm hf hw1 hb1 hx1
  unfold ptrS at HFd ⊢
  go_enter Tryz.func41, Tryz.ntmps41
  go_upto_region 1 with fail
  rw [HW1.out]
  go_wp2_with fail
  refine HFd.out.mono ?_
  rintro e w' ⟨rfl, rfl⟩
  go_wp2
  go_ret
  rw [HE.out]
  exact ⟨rfl, ownR ρ, HSt.out.keep (fun k hk => HB1.out.block k (HLo.out k hk)) HB1.out.size, q0r _ HB1.out, fun _ h => .inl h⟩
 | some t =>
  obtain ⟨ht, hid⟩ := q20 hf
  unfold q2o at HFd
  rw [hf] at HFd
  simp only at HFd
  obtain ⟨w2, hw2⟩ : ∃ y, w1.alloc (.cells #[.string (bs x.key), .bool x.gone, .slice A x.dat.length c] 37) = y := ⟨_, rfl⟩
  have hb2 : Below w1.heap.size w1 w2 := by rw [← hw2]; exact (Below.refl _ w1).alloc (Nat.le_refl _) _
  have hx2 : w2.heap[w1.heap.size]? = some (.cells #[.string (bs x.key), .bool x.gone, .slice A x.dat.length c] 37 (0, 0)) := by rw [← hw2]; exact heap_alloc_new w1 _
  have hb12 := hb1.trans (hb2.mono hb1.size)
  have hd2 : SlI w2 0 w2.heap.size A c x.dat := (hd.keep fun g _ hg => hb12.block g hg).wide (Nat.le_refl _) hb12.size
  have hkl : x.key.length ≤ 300 := hx.1
  have hdl : x.dat.length ≤ 5000 := hx.2
  have hch : ChW w2 0 w2.heap.size (some ⟨w1.heap.size, 0, none⟩) 1 [x] := ⟨Nat.le_refl _, by simp [maxLen], (fun e => by cases e), [⟨x, A, c⟩], rfl, (RowG.one (cs := q0l) (x := ⟨x, A, c⟩) hx2).wide (Nat.zero_le _) (q00 hx2), fun y hy => by
   rw [List.mem_singleton] at hy
   subst hy
   exact ⟨by simp only [maxLen]; omega, hd2⟩⟩
  have HCk := qh (q1N.check [x] 0 w2.heap.size (some ⟨w1.heap.size, 0, none⟩) 1 w2 ⟨by simp, fun y hy => by
   rw [List.mem_singleton] at hy
   subst hy
   exact ⟨by omega, by omega⟩⟩ hch (Nat.le_refl _))
  have HW2 := qh hw2
  have HB2 := qh hb2
  by_cases hck : q0h [] [x] = 0
  ·have HE := qh (show q0H b id x = (setT b ⟨t.id, t.began, t.start, t.marks, putW t.ws x⟩, errT 0) by unfold q0H; rw [hf]; simp only; rw [if_neg (by rw [hck]; simp)])
   rw [hck] at HCk
   have HX2 := qh hx1
   have HCl : Hid (∀ W : World, Below w2.heap.size w2 W → Calls Tryz.prog 77 #[.slice A x.dat.length c] W fun e w' => ∃ A' c', e = .returned (.slice A' x.dat.length c') ∧ SlI w' w2.heap.size w'.heap.size A' c' x.dat ∧ Below w2.heap.size w2 w') := qh fun W hb => by
    have hd3 : SlI W 0 W.heap.size A c x.dat := (hd2.keep fun g _ hg => hb.block g hg).wide (Nat.le_refl _) hb.size
    exact (q1I x.dat A c W.heap.size W (by omega) hd3.sl (Nat.le_refl _)).mono fun _ _ ⟨A', c', e, h1, h2⟩ => ⟨A', c', e, h1.wide hb.size (Nat.le_refl _), hb.trans (h2.mono hb.size)⟩
   have HRaw := qh hraw
   have HTm := qh (And.intro ht (q7E (hok.ws t ht)))
   clear hst hraw hok hri hm hsm hf hw1 hb1 hx1 ht hid hw2 hb2 hx2 hb12 hd2 hch hd hx
   unfold ptrS at HFd ⊢
   go_enter Tryz.func41, Tryz.ntmps41
   go_upto_region 1 with fail
   rw [HW1.out]
   go_wp2_with fail
   refine HFd.out.mono ?_
   rintro e w' ⟨rfl, rfl⟩
   go_wp2_with fail
   rw [HW2.out]
   refine HCk.out.mono ?_
   rintro e w3 ⟨rfl, hb3⟩
   have HBo := qh (HB1.out.trans (HB2.out.mono HB1.out.size))
   have HS2 := qh (show w.heap.size + 2 = w2.heap.size by rw [← HW2.out, ← HW1.out]; simp)
   have hbx2 := q01 HX2.out HB2.out (q00 HX2.out)
   have hx3 := q01 hbx2 hb3 (q00 hbx2)
   have i2 : w3.cell? ⟨w.heap.size, 2, none⟩ = some (.slice A x.dat.length c) := by rw [cell_of_row w3 _ 2 _ _ _ hx3]; rfl
   have HBx2 := qh hbx2
   have HB3 := qh hb3
   clear c0 c1 c2 hbx2 hx3 hb3 HW1 HFd HCk HX2
   go_wp2_with fail
   refine (HCl.out _ HB3.out).mono ?_
   rintro e w4 ⟨A4, c4, rfl, h4, hb4⟩
   have hx4 := q01 HBx2.out hb4 (q00 HBx2.out)
   have f2 := q02 hx4 2
   have j2 : w4.cell? ⟨w.heap.size, 2, none⟩ = some (.slice A x.dat.length c) := by rw [cell_of_row w4 _ 2 _ _ _ hx4]; rfl
   obtain ⟨w5, hw5⟩ : ∃ y, w4.setCell ⟨w.heap.size, 2, none⟩ (.slice A4 x.dat.length c4) = y := ⟨_, rfl⟩
   have hx5 : w5.heap[w.heap.size]? = some (.cells #[.string (bs x.key), .bool x.gone, .slice A4 x.dat.length c4] 37 (0, 0)) := by rw [← hw5]; exact q1k hx4 2 _
   have hb5 : Below w.heap.size w w5 := by rw [← hw5]; exact (HBo.out.trans (hb4.mono HBo.out.size)).setCell (Nat.le_refl _) _
   have hs5 : w5.heap.size = w4.heap.size := by rw [← hw5]; simp [World.setCell]
   have h5 : SlI w5 w.heap.size w5.heap.size A4 c4 x.dat := by
    have h5 : SlI w5 w2.heap.size w4.heap.size A4 c4 x.dat := h4.keep fun g g1 _ => by
     rw [← hw5]
     exact q0b (by have := HS2.out; omega) _ _
    rw [hs5]
    exact h5.wide (by have := HS2.out; omega) (Nat.le_refl _)
   have HX5 := qh hx5
   have HB5 := qh hb5
   have H5 := qh h5
   have HW5 := qh hw5
   clear hx4 hx5 hb5 hs5 h5 hw5 h4 hb4 i2
   go_upto_region 8 with fail
   rw [HW5.out]
   clear HW5 j2 f2
   obtain ⟨ht, hrise⟩ := HTm.out
   have hfacts : ∀ W : World, Below w5.heap.size w5 W → W.cell? ⟨(P t.id).q, 3, none⟩ = some (.map (some (P t.id).m)) ∧ W.cell? ⟨w.heap.size, 0, none⟩ = some (.string (bs x.key)) ∧ W.cell? ⟨w.heap.size, 1, none⟩ = some (.bool x.gone) ∧ W.cell? ⟨w.heap.size, 2, none⟩ = some (.slice A4 x.dat.length c4) := fun W hb => by
    have hx := q01 HX5.out hb (q00 HX5.out)
    refine ⟨(((HRaw.out.below HB5.out).below hb).txs t ht).map_, ?_, ?_, ?_⟩ <;> rw [cell_of_row W _ _ _ _ _ hx] <;> rfl
   have hb6 : Below w5.heap.size w5 w5.drew := (Below.refl _ _).drew
   have hraw6 := (HRaw.out.below HB5.out).below hb6
   obtain ⟨w7, hup, hm7, hg7, hs7⟩ := (hraw6.txs t ht).map.store (P := Tryz.prog) (t := 115) (kt := 9) (et := 37) Tryz.underlying115 Tryz.underlying9 x.key (q4h x A4 c4)
   have hmr := (hraw6.txs t ht).rm
   have hmw : (P t.id).m < w.heap.size := (HRaw.out.txs t ht).map.lt
   obtain ⟨S, hS1, hS2, hS3⟩ : ∃ S : World → Prop, (∀ W : World, Below w5.heap.size w5 W → S W) ∧ S w7 ∧ ∀ W : World, S W → W.cell? ⟨(P t.id).q, 3, none⟩ = some (.map (some (P t.id).m)) ∧ W.cell? ⟨w.heap.size, 0, none⟩ = some (.string (bs x.key)) ∧ W.cell? ⟨w.heap.size, 1, none⟩ = some (.bool x.gone) ∧ W.cell? ⟨w.heap.size, 2, none⟩ = some (.slice A4 x.dat.length c4) := by
    refine ⟨fun W => W.cell? ⟨(P t.id).q, 3, none⟩ = some (.map (some (P t.id).m)) ∧ W.cell? ⟨w.heap.size, 0, none⟩ = some (.string (bs x.key)) ∧ W.cell? ⟨w.heap.size, 1, none⟩ = some (.bool x.gone) ∧ W.cell? ⟨w.heap.size, 2, none⟩ = some (.slice A4 x.dat.length c4), hfacts, ?_, fun _ h => h⟩
    have hf6 := hfacts _ hb6
    have hq := (hraw6.txs t ht).rq
    have hk : ∀ k, k ≠ (P t.id).m → k < w5.heap.size → w7.heap[k]? = w5.drew.heap[k]? := fun k h1 h2 => hg7.block k h2 (fun e => h1 (by injection e))
    have k1 : (P t.id).q ≠ (P t.id).m := fun e => by rw [e] at hq; omega
    have k2 : w.heap.size ≠ (P t.id).m := by omega
    have l1 : (P t.id).q < w5.heap.size := q00 (hraw6.txs t ht).box
    have l2 := q00 HX5.out
    refine ⟨?_, ?_, ?_, ?_⟩
    ·rw [World.cell?_of_block (hk _ k1 l1)]; exact hf6.1
    ·rw [World.cell?_of_block (hk _ k2 l2)]; exact hf6.2.1
    ·rw [World.cell?_of_block (hk _ k2 l2)]; exact hf6.2.2.1
    ·rw [World.cell?_of_block (hk _ k2 l2)]; exact hf6.2.2.2
   have HKp := qh hS1
   have HK7 := qh hS2
   have HRd := qh hS3
   have HFin := qh (show ∃ F', q24 StT o w p (ownR ρ) L (q0H b id x).1 w7 F' from by
    have hbw : Below w.heap.size w w5.drew := HB5.out.drew
    have hraw7 := HRaw.out.wrote ht hrise hbw x (show SlI w5.drew w.heap.size w5.drew.heap.size A4 c4 x.dat from H5.out) hm7 hg7 hs7
    refine ⟨ownR (newR ρ w.heap.size w5.drew.heap.size 6), ?_, ?_, qaF⟩
    ·refine StT.turn (op := ⟨3, id, x, []⟩) HSt.out ⟨newR ρ w.heap.size w5.drew.heap.size 6, ps, B, setP P t.id ⟨(P t.id).q, (P t.id).m, (P t.id).A, (P t.id).c, setA (P t.id).ad x.key (A4, c4)⟩, rv, hv, rfl, ?_⟩
     show RawB w7 o p _ L (q0H b id x).1 ps B _ rv hv
     rw [HE.out]
     exact hraw7
    ·have h1 := q0r (ownR ρ) hbw
     exact ⟨hg7.os.trans h1.os, hg7.tape.trans h1.tape, hg7.output.trans h1.output, by rw [hs7]; exact h1.size, fun k hk hn => (hg7.block k (Nat.lt_of_lt_of_le hk h1.size) (fun e => hn (by injection e with e; unfold ownR; rw [e, hmr]; omega))).trans (h1.block k hk hn)⟩)
   simp only [strK, keyV] at hup
   unfold q4h at hup
   clear hS1 hS2 hS3 hm7 hg7 hs7 hmr hmw hraw6 hb6 hfacts ht hrise
   refine wp_region_held_drew (S := S) (by kernel_rfl) ?_ (fun hGd => ?_)
   ·exact HKp.out _ (Below.refl _ _).drew
   refine tkS (i := 0) (v := ?_) ?_
   (try simp only [Act.put, qA, qB, qC])
   refine tkS (i := 1) (v := ?_) ?_
   (try simp only [Act.put, qA, qB, qC])
   refine tkS (i := 2) (v := ?_) ?_
   (try simp only [Act.put, qA, qB, qC])
   refine tkH (i := 3) (v := ?_) (fun w hSw => ?_) ?_
   rotate_left
   ·obtain ⟨z0, z1, z2, z3⟩ := HRd.out _ hSw; go_simp <;> with_reducible rfl
   (try simp only [Act.put, qA, qB, qC])
   refine tkS (i := 4) (v := ?_) ?_
   (try simp only [Act.put, qA, qB, qC])
   refine tkH (i := 5) (v := ?_) (fun w hSw => ?_) ?_
   rotate_left
   ·obtain ⟨z0, z1, z2, z3⟩ := HRd.out _ hSw; go_simp <;> with_reducible rfl
   (try simp only [Act.put, qA, qB, qC])
   refine tkH (i := 6) (v := ?_) (fun w hSw => ?_) ?_
   rotate_left
   ·obtain ⟨z0, z1, z2, z3⟩ := HRd.out _ hSw; go_simp <;> with_reducible rfl
   (try simp only [Act.put, qA, qB, qC])
   refine stH (i := 7) (fun K' hK => ?_)
   go_simp
   (first | (refine hK.out _ _ ?_ (fun hG2 => ?_)) | (go_wp2_with fail; refine hK.out _ _ ?_ (fun hG2 => ?_)))
   ·exact HK7.out
   clear hK K' hGd
   have hGd := hG2
   clear hG2
   (try simp only [Act.put, qA, qB, qC])
   refine wpAnyH_done (by kernel_rfl) ?_ _
   go_wp2_with fail
   go_ret
   exact ⟨by rw [HE.out]; rfl, HFin.out⟩
  ·have HE := qh (show q0H b id x = (b, errT (q0h [] [x])) by unfold q0H; rw [hf]; simp only; rw [if_pos hck])
   have d1 : (q0h [] [x] != 0) = true := by simpa using hck
   clear hst hraw hok hri hm hsm hf hw1 hb1 hx1 ht hid hw2 hb2 hx2 hb12 hd2 hch hd hx
   unfold ptrS at HFd ⊢
   go_enter Tryz.func41, Tryz.ntmps41
   go_upto_region 1 with fail
   rw [HW1.out]
   go_wp2_with fail
   refine HFd.out.mono ?_
   rintro e w' ⟨rfl, rfl⟩
   go_wp2_with fail
   rw [HW2.out]
   refine HCk.out.mono ?_
   rintro e w3 ⟨rfl, hb3⟩
   go_wp2
   go_ret
   have hbb := (HB1.out.trans (HB2.out.mono HB1.out.size)).trans (hb3.mono (Nat.le_trans HB1.out.size HB2.out.size))
   rw [HE.out]
   exact ⟨rfl, ownR ρ, HSt.out.keep (fun k hk => hbb.block k (HLo.out k hk)) hbb.size, q0r _ hbb, fun _ h => .inl h⟩
end
end Go.Proofs.YtdpbllacfljmoaaGreat
