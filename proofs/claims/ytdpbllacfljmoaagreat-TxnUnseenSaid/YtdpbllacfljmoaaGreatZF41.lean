import Derived.Test.YtdpbllacfljmoaaGreatZF39
import Derived.Test.YtdpbllacfljmoaaGreatZF26
import Derived.Test.YtdpbllacfljmoaaGreatZF27
import Derived.Test.YtdpbllacfljmoaaGreatZF03
import Derived.Shelf.Abstract
import Derived.Deep.LoopGhost
import Derived.Deep.DeepCutAuto
set_option maxRecDepth 100000
set_option maxHeartbeats 16000000
set_option linter.unusedVariables false
namespace Go.Proofs.YtdpbllacfljmoaaGreat
open Go.RowKit
def setA (ad : KeyS → Option Addr × Nat) (k : KeyS) (v : Option Addr × Nat) : KeyS → Option Addr × Nat := fun j => if j = k then v else ad j
theorem q9f (ad : KeyS → Option Addr × Nat) (k : KeyS) (v : Option Addr × Nat) : setA ad k v k = v := if_pos rfl
theorem qec {ad : KeyS → Option Addr × Nat} {k j : KeyS} (v : Option Addr × Nat) (h : j ≠ k) : setA ad k v j = ad j := if_neg h
theorem qgs {ws : List Wr} (h : q4q ws) (ad : KeyS → Option Addr × Nat) (x : Wr) (A : Option Addr) (c : Nat) : wrF (putW ws x) (setA ad x.key (A, c)) = updK (wrF ws ad) x.key (some (q4o x A c)) := funext fun k => by
 unfold wrF
 rw [qdY h]
 by_cases e : k = x.key
 ·subst e
  rw [if_pos rfl, q2O]
  simp [q9f]
 ·rw [if_neg e, q4n _ e]
  cases hf : ws.find? (fun y => y.key == k) with
  | none => rfl
  | some y =>
   have hy : y.key = k := by simpa using List.find?_some hf
   simp only [Option.map_some]
   rw [qec _ (by rw [hy]; exact e)]
section
variable {w w' : World} {o p : Nat} {ρ ρ' : q0o} {L : LimT} {b b' : q08} {ps B : Nat} {P : Nat → TxP} {rv hv : Value} {F F' : Nat → Prop} {t t' : TxS}
theorem RawB.wrote (h : RawB w o p ρ L b ps B P rv hv) (ht : t ∈ b.live) (hr : q4q t.ws) {wm : World} (hb : Below w.heap.size w wm) (x : Wr) {A : Option Addr} {c : Nat} (hd : SlI wm w.heap.size wm.heap.size A c x.dat)
  (hm : MapK strK w' (P t.id).m (updK (wrF t.ws (P t.id).ad) x.key (some (q4o x A c)))) (hg : wm.grownBy w' (some (P t.id).m)) (hs : w'.heap.size = wm.heap.size) :
  RawB w' o p (newR ρ w.heap.size wm.heap.size 6) L (setT b ⟨t.id, t.began, t.start, t.marks, putW t.ws x⟩) ps B (setP P t.id ⟨(P t.id).q, (P t.id).m, (P t.id).A, (P t.id).c, setA (P t.id).ad x.key (A, c)⟩) rv hv := by
 have htx := h.txs t ht
 have hml := htx.map.lt
 have hql := q00 htx.box
 have hqm : (P t.id).q ≠ (P t.id).m := fun e => by have h1 := htx.rq; have h2 := htx.rm; rw [e] at h1; omega
 have hfar : ∀ k, k < wm.heap.size → k ≠ (P t.id).m → w'.heap[k]? = wm.heap[k]? := fun k hk hn => hg.block k hk (fun e => hn (by injection e))
 have s' : q0P (fun n => n = 8 + 2 * t.id) ρ (newR ρ w.heap.size wm.heap.size 6) w w' := ⟨by rw [hs]; exact hb.size, fun k h1 _ h3 => ⟨(hfar k (Nat.lt_of_lt_of_le h1 hb.size) (fun e => h3 (by rw [e]; exact htx.rm))).trans (hb.block k h1), q1f h1⟩⟩
 have s : q0P (txR t.id) ρ (newR ρ w.heap.size wm.heap.size 6) w w' := s'.mono fun n hn => .inr hn
 refine h.setTx (t' := ⟨t.id, t.began, t.start, t.marks, putW t.ws x⟩) (a' := ⟨(P t.id).q, (P t.id).m, (P t.id).A, (P t.id).c, setA (P t.id).ad x.key (A, c)⟩) ht rfl rfl s ⟨?_, ?_, ?_, fun y hy => ?_, (q1f hql).trans htx.rq, (q1f hml).trans htx.rm⟩ (fun k e => ?_) (fun k hk => ?_)
 ·exact (hfar _ (Nat.lt_of_lt_of_le hql hb.size) hqm).trans ((hb.block _ hql).trans htx.box)
 ·exact htx.marks.keep (s'.dat (by omega))
 ·show MapK strK w' (P t.id).m (wrF (putW t.ws x) (setA (P t.id).ad x.key (A, c)))
  rw [qgs hr]
  exact hm
 ·rcases q5H.1 hy with rfl | ⟨hy2, hne⟩
  ·show ByS w' _ (setA (P t.id).ad y.key (A, c) y.key).1 (setA (P t.id).ad y.key (A, c) y.key).2 y.dat
   rw [q9f]
   have h1 : ByS wm (datR (newR ρ w.heap.size wm.heap.size 6)) A c y.dat := hd.byS fun k g1 g2 => q5F g1 g2
   exact h1.keep fun g hg2 hl => ⟨hfar g hl (fun e => by
    have : newR ρ w.heap.size wm.heap.size 6 g = 6 := hg2
    rw [e, q1f hml, htx.rm] at this
    omega), hg2⟩
  ·show ByS w' _ (setA (P t.id).ad x.key (A, c) y.key).1 (setA (P t.id).ad x.key (A, c) y.key).2 y.dat
   rw [qec _ hne]
   exact (htx.dat y hy2).keep (s'.dat (by omega))
 ·rcases q1b (show newR ρ w.heap.size wm.heap.size 6 k ≠ 0 by rw [e]; omega) with ⟨_, _, h6⟩ | h6
  ·rw [h6] at e; omega
  ·rw [← h6]; exact e
 ·rw [hs]
  rcases q1b hk with ⟨h1, h2, _⟩ | h6
  ·exact ⟨Nat.le_trans h.o_le h1, h2⟩
  ·have := h.lo k (by rw [← h6]; exact hk)
   exact ⟨this.1, Nat.lt_of_lt_of_le this.2 hb.size⟩
theorem qa0 (h : StT o w p F L b) (hsm : q0L b) (id : Int) (x : Wr) (A : Option Addr) (c : Nat) (hx : q2q x) (hd : SlI w 0 w.heap.size A c x.dat) :
  Calls Tryz.prog 41 #[ptrS p, .int .i64 id, q4o x A c] w fun r w' => r = .returned (.int .i64 (q0J b id x).2.e) ∧ ∃ F', q2b StT o w p F L (q0J b id x).1 w' F' := by
 have hst := h
 obtain ⟨ρ, ps, B, P, rv, hv, rfl, hraw, hok, hri, hm⟩ := h
 obtain ⟨w1, hw1⟩ : ∃ y, w.alloc (.cells #[.string (bs x.key), .bool x.gone, .slice A x.dat.length c] 37) = y := ⟨_, rfl⟩
 have hb1 : Below w.heap.size w w1 := by rw [← hw1]; exact (Below.refl _ w).alloc (Nat.le_refl _) _
 have hx1 : w1.heap[w.heap.size]? = some (.cells #[.string (bs x.key), .bool x.gone, .slice A x.dat.length c] 37 (0, 0)) := by rw [← hw1]; exact heap_alloc_new w _
 have HFd := qh (q33 (hraw.below hb1) id)
 have HSt := qh hst
 have HW1 := qh hw1
 have HB1 := qh hb1
 have HLo := qh (fun k (hk : ownR ρ k) => (hraw.lo k hk).2)
 have c0 : w1.cell? ⟨w.heap.size, 0, none⟩ = some (.string (bs x.key)) := by rw [cell_of_row w1 _ 0 _ _ _ hx1]; rfl
 have c1 : w1.cell? ⟨w.heap.size, 1, none⟩ = some (.bool x.gone) := by rw [cell_of_row w1 _ 1 _ _ _ hx1]; rfl
 have c2 : w1.cell? ⟨w.heap.size, 2, none⟩ = some (.slice A x.dat.length c) := by rw [cell_of_row w1 _ 2 _ _ _ hx1]; rfl
 unfold q4o
 cases hf : ofT b id with
 | none =>
  have HE := qh (show q0J b id x = (b, errT 4) by unfold q0J; rw [hf])
  unfold q2u at HFd
  rw [hf] at HFd
  simp only at HFd
  clear hst hraw hok hri hm hsm hf hw1 hb1 hx1
  unfold ptrS at HFd ⊢
  go_enter Tryz.func41, Tryz.ntmps41
  go_upto_region 1 with fail
  rw [HW1.out]
  go_wp2_with fail
  refine HFd.out.mono ?_
  rintro e w' ⟨rfl, rfl⟩
  go_wp2
  go_ret
  rw [HE.out]
  exact ⟨rfl, ownR ρ, HSt.out.keep (fun k hk => HB1.out.block k (HLo.out k hk)) HB1.out.size, q0t _ HB1.out, fun _ h => .inl h⟩
 | some t =>
  obtain ⟨ht, hid⟩ := q1z hf
  unfold q2u at HFd
  rw [hf] at HFd
  simp only at HFd
  obtain ⟨w2, hw2⟩ : ∃ y, w1.alloc (.cells #[.string (bs x.key), .bool x.gone, .slice A x.dat.length c] 37) = y := ⟨_, rfl⟩
  have hb2 : Below w1.heap.size w1 w2 := by rw [← hw2]; exact (Below.refl _ w1).alloc (Nat.le_refl _) _
  have hx2 : w2.heap[w1.heap.size]? = some (.cells #[.string (bs x.key), .bool x.gone, .slice A x.dat.length c] 37 (0, 0)) := by rw [← hw2]; exact heap_alloc_new w1 _
  have hb12 := hb1.trans (hb2.mono hb1.size)
  have hd2 : SlI w2 0 w2.heap.size A c x.dat := (hd.keep fun g _ hg => hb12.block g hg).wide (Nat.le_refl _) hb12.size
  have hkl : x.key.length ≤ 300 := hx.1
  have hdl : x.dat.length ≤ 5000 := hx.2
  have hch : ChW w2 0 w2.heap.size (some ⟨w1.heap.size, 0, none⟩) 1 [x] := ⟨Nat.le_refl _, by simp [maxLen], (fun e => by cases e), [⟨x, A, c⟩], rfl, (RowG.one (cs := q0l) (x := ⟨x, A, c⟩) hx2).wide (Nat.zero_le _) (q00 hx2), fun y hy => by
   rw [List.mem_singleton] at hy
   subst hy
   exact ⟨by simp only [maxLen]; omega, hd2⟩⟩
  have HCk := qh (q1Y.check [x] 0 w2.heap.size (some ⟨w1.heap.size, 0, none⟩) 1 w2 ⟨by simp, fun y hy => by
   rw [List.mem_singleton] at hy
   subst hy
   exact ⟨by omega, by omega⟩⟩ hch (Nat.le_refl _))
  have HW2 := qh hw2
  have HB2 := qh hb2
  by_cases hck : q0h [] [x] = 0
  ·have HE := qh (show q0J b id x = (setT b ⟨t.id, t.began, t.start, t.marks, putW t.ws x⟩, errT 0) by unfold q0J; rw [hf]; simp only; rw [if_neg (by rw [hck]; simp)])
   rw [hck] at HCk
   have HX2 := qh hx1
   have HCl : Hid (∀ W : World, Below w2.heap.size w2 W → Calls Tryz.prog 77 #[.slice A x.dat.length c] W fun e w' => ∃ A' c', e = .returned (.slice A' x.dat.length c') ∧ SlI w' w2.heap.size w'.heap.size A' c' x.dat ∧ Below w2.heap.size w2 w') := qh fun W hb => by
    have hd3 : SlI W 0 W.heap.size A c x.dat := (hd2.keep fun g _ hg => hb.block g hg).wide (Nat.le_refl _) hb.size
    exact (q1S x.dat A c W.heap.size W (by omega) hd3.sl (Nat.le_refl _)).mono fun _ _ ⟨A', c', e, h1, h2⟩ => ⟨A', c', e, h1.wide hb.size (Nat.le_refl _), hb.trans (h2.mono hb.size)⟩
   have HRaw := qh hraw
   have HTm := qh (And.intro ht (q7U (hok.ws t ht)))
   clear hst hraw hok hri hm hsm hf hw1 hb1 hx1 ht hid hw2 hb2 hx2 hb12 hd2 hch hd hx
   unfold ptrS at HFd ⊢
   go_enter Tryz.func41, Tryz.ntmps41
   go_upto_region 1 with fail
   rw [HW1.out]
   go_wp2_with fail
   refine HFd.out.mono ?_
   rintro e w' ⟨rfl, rfl⟩
   go_wp2_with fail
   rw [HW2.out]
   refine HCk.out.mono ?_
   rintro e w3 ⟨rfl, hb3⟩
   have HBo := qh (HB1.out.trans (HB2.out.mono HB1.out.size))
   have HS2 := qh (show w.heap.size + 2 = w2.heap.size by rw [← HW2.out, ← HW1.out]; simp)
   have hbx2 := q01 HX2.out HB2.out (q00 HX2.out)
   have hx3 := q01 hbx2 hb3 (q00 hbx2)
   have i2 : w3.cell? ⟨w.heap.size, 2, none⟩ = some (.slice A x.dat.length c) := by rw [cell_of_row w3 _ 2 _ _ _ hx3]; rfl
   have HBx2 := qh hbx2
   have HB3 := qh hb3
   clear c0 c1 c2 hbx2 hx3 hb3 HW1 HFd HCk HX2
   go_wp2_with fail
   refine (HCl.out _ HB3.out).mono ?_
   rintro e w4 ⟨A4, c4, rfl, h4, hb4⟩
   have hx4 := q01 HBx2.out hb4 (q00 HBx2.out)
   have f2 := q02 hx4 2
   have j2 : w4.cell? ⟨w.heap.size, 2, none⟩ = some (.slice A x.dat.length c) := by rw [cell_of_row w4 _ 2 _ _ _ hx4]; rfl
   obtain ⟨w5, hw5⟩ : ∃ y, w4.setCell ⟨w.heap.size, 2, none⟩ (.slice A4 x.dat.length c4) = y := ⟨_, rfl⟩
   have hx5 : w5.heap[w.heap.size]? = some (.cells #[.string (bs x.key), .bool x.gone, .slice A4 x.dat.length c4] 37 (0, 0)) := by rw [← hw5]; exact q1o hx4 2 _
   have hb5 : Below w.heap.size w w5 := by rw [← hw5]; exact (HBo.out.trans (hb4.mono HBo.out.size)).setCell (Nat.le_refl _) _
   have hs5 : w5.heap.size = w4.heap.size := by rw [← hw5]; simp [World.setCell]
   have h5 : SlI w5 w.heap.size w5.heap.size A4 c4 x.dat := by
    have h5 : SlI w5 w2.heap.size w4.heap.size A4 c4 x.dat := h4.keep fun g g1 _ => by
     rw [← hw5]
     exact q0b (by have := HS2.out; omega) _ _
    rw [hs5]
    exact h5.wide (by have := HS2.out; omega) (Nat.le_refl _)
   have HX5 := qh hx5
   have HB5 := qh hb5
   have H5 := qh h5
   have HW5 := qh hw5
   clear hx4 hx5 hb5 hs5 h5 hw5 h4 hb4 i2
   go_upto_region 8 with fail
   rw [HW5.out]
   clear HW5 j2 f2
   obtain ⟨ht, hrise⟩ := HTm.out
   have hfacts : ∀ W : World, Below w5.heap.size w5 W → W.cell? ⟨(P t.id).q, 3, none⟩ = some (.map (some (P t.id).m)) ∧ W.cell? ⟨w.heap.size, 0, none⟩ = some (.string (bs x.key)) ∧ W.cell? ⟨w.heap.size, 1, none⟩ = some (.bool x.gone) ∧ W.cell? ⟨w.heap.size, 2, none⟩ = some (.slice A4 x.dat.length c4) := fun W hb => by
    have hx := q01 HX5.out hb (q00 HX5.out)
    refine ⟨(((HRaw.out.below HB5.out).below hb).txs t ht).map_, ?_, ?_, ?_⟩ <;> rw [cell_of_row W _ _ _ _ _ hx] <;> rfl
   have hb6 : Below w5.heap.size w5 w5.drew := (Below.refl _ _).drew
   have hraw6 := (HRaw.out.below HB5.out).below hb6
   obtain ⟨w7, hup, hm7, hg7, hs7⟩ := (hraw6.txs t ht).map.store (P := Tryz.prog) (t := 115) (kt := 9) (et := 37) Tryz.underlying115 Tryz.underlying9 x.key (q4o x A4 c4)
   have hmr := (hraw6.txs t ht).rm
   have hmw : (P t.id).m < w.heap.size := (HRaw.out.txs t ht).map.lt
   obtain ⟨S, hS1, hS2, hS3⟩ : ∃ S : World → Prop, (∀ W : World, Below w5.heap.size w5 W → S W) ∧ S w7 ∧ ∀ W : World, S W → W.cell? ⟨(P t.id).q, 3, none⟩ = some (.map (some (P t.id).m)) ∧ W.cell? ⟨w.heap.size, 0, none⟩ = some (.string (bs x.key)) ∧ W.cell? ⟨w.heap.size, 1, none⟩ = some (.bool x.gone) ∧ W.cell? ⟨w.heap.size, 2, none⟩ = some (.slice A4 x.dat.length c4) := by
    refine ⟨fun W => W.cell? ⟨(P t.id).q, 3, none⟩ = some (.map (some (P t.id).m)) ∧ W.cell? ⟨w.heap.size, 0, none⟩ = some (.string (bs x.key)) ∧ W.cell? ⟨w.heap.size, 1, none⟩ = some (.bool x.gone) ∧ W.cell? ⟨w.heap.size, 2, none⟩ = some (.slice A4 x.dat.length c4), hfacts, ?_, fun _ h => h⟩
    have hf6 := hfacts _ hb6
    have hq := (hraw6.txs t ht).rq
    have hk : ∀ k, k ≠ (P t.id).m → k < w5.heap.size → w7.heap[k]? = w5.drew.heap[k]? := fun k h1 h2 => hg7.block k h2 (fun e => h1 (by injection e))
    have k1 : (P t.id).q ≠ (P t.id).m := fun e => by rw [e] at hq; omega
    have k2 : w.heap.size ≠ (P t.id).m := by omega
    have l1 : (P t.id).q < w5.heap.size := q00 (hraw6.txs t ht).box
    have l2 := q00 HX5.out
    refine ⟨?_, ?_, ?_, ?_⟩
    ·rw [World.cell?_of_block (hk _ k1 l1)]; exact hf6.1
    ·rw [World.cell?_of_block (hk _ k2 l2)]; exact hf6.2.1
    ·rw [World.cell?_of_block (hk _ k2 l2)]; exact hf6.2.2.1
    ·rw [World.cell?_of_block (hk _ k2 l2)]; exact hf6.2.2.2
   have HKp := qh hS1
   have HK7 := qh hS2
   have HRd := qh hS3
   have HFin := qh (show ∃ F', q2b StT o w p (ownR ρ) L (q0J b id x).1 w7 F' from by
    have hbw : Below w.heap.size w w5.drew := HB5.out.drew
    have hraw7 := HRaw.out.wrote ht hrise hbw x (show SlI w5.drew w.heap.size w5.drew.heap.size A4 c4 x.dat from H5.out) hm7 hg7 hs7
    refine ⟨ownR (newR ρ w.heap.size w5.drew.heap.size 6), ?_, ?_, qb0⟩
    ·refine StT.turn (op := ⟨3, id, x, []⟩) HSt.out ⟨newR ρ w.heap.size w5.drew.heap.size 6, ps, B, setP P t.id ⟨(P t.id).q, (P t.id).m, (P t.id).A, (P t.id).c, setA (P t.id).ad x.key (A4, c4)⟩, rv, hv, rfl, ?_⟩
     show RawB w7 o p _ L (q0J b id x).1 ps B _ rv hv
     rw [HE.out]
     exact hraw7
    ·have h1 := q0t (ownR ρ) hbw
     exact ⟨hg7.os.trans h1.os, hg7.tape.trans h1.tape, hg7.output.trans h1.output, by rw [hs7]; exact h1.size, fun k hk hn => (hg7.block k (Nat.lt_of_lt_of_le hk h1.size) (fun e => hn (by injection e with e; unfold ownR; rw [e, hmr]; omega))).trans (h1.block k hk hn)⟩)
   simp only [strK, keyV] at hup
   unfold q4o at hup
   clear hS1 hS2 hS3 hm7 hg7 hs7 hmr hmw hraw6 hb6 hfacts ht hrise
   refine wp_region_held_drew (S := S) (by kernel_rfl) ?_ (fun hGd => ?_)
   ·exact HKp.out _ (Below.refl _ _).drew
   refine tkS (i := 0) (v := ?_) ?_
   (try simp only [Act.put, qA, qB, qC])
   refine tkS (i := 1) (v := ?_) ?_
   (try simp only [Act.put, qA, qB, qC])
   refine tkS (i := 2) (v := ?_) ?_
   (try simp only [Act.put, qA, qB, qC])
   refine tkH (i := 3) (v := ?_) (fun w hSw => ?_) ?_
   rotate_left
   ·obtain ⟨z0, z1, z2, z3⟩ := HRd.out _ hSw; go_simp <;> with_reducible rfl
   (try simp only [Act.put, qA, qB, qC])
   refine tkS (i := 4) (v := ?_) ?_
   (try simp only [Act.put, qA, qB, qC])
   refine tkH (i := 5) (v := ?_) (fun w hSw => ?_) ?_
   rotate_left
   ·obtain ⟨z0, z1, z2, z3⟩ := HRd.out _ hSw; go_simp <;> with_reducible rfl
   (try simp only [Act.put, qA, qB, qC])
   refine tkH (i := 6) (v := ?_) (fun w hSw => ?_) ?_
   rotate_left
   ·obtain ⟨z0, z1, z2, z3⟩ := HRd.out _ hSw; go_simp <;> with_reducible rfl
   (try simp only [Act.put, qA, qB, qC])
   refine stH (i := 7) (fun K' hK => ?_)
   go_simp
   (first | (refine hK.out _ _ ?_ (fun hG2 => ?_)) | (go_wp2_with fail; refine hK.out _ _ ?_ (fun hG2 => ?_)))
   ·exact HK7.out
   clear hK K' hGd
   have hGd := hG2
   clear hG2
   (try simp only [Act.put, qA, qB, qC])
   refine wpAnyH_done (by kernel_rfl) ?_ _
   go_wp2_with fail
   go_ret
   exact ⟨by rw [HE.out]; rfl, HFin.out⟩
  ·have HE := qh (show q0J b id x = (b, errT (q0h [] [x])) by unfold q0J; rw [hf]; simp only; rw [if_pos hck])
   have d1 : (q0h [] [x] != 0) = true := by simpa using hck
   clear hst hraw hok hri hm hsm hf hw1 hb1 hx1 ht hid hw2 hb2 hx2 hb12 hd2 hch hd hx
   unfold ptrS at HFd ⊢
   go_enter Tryz.func41, Tryz.ntmps41
   go_upto_region 1 with fail
   rw [HW1.out]
   go_wp2_with fail
   refine HFd.out.mono ?_
   rintro e w' ⟨rfl, rfl⟩
   go_wp2_with fail
   rw [HW2.out]
   refine HCk.out.mono ?_
   rintro e w3 ⟨rfl, hb3⟩
   go_wp2
   go_ret
   have hbb := (HB1.out.trans (HB2.out.mono HB1.out.size)).trans (hb3.mono (Nat.le_trans HB1.out.size HB2.out.size))
   rw [HE.out]
   exact ⟨rfl, ownR ρ, HSt.out.keep (fun k hk => hbb.block k (HLo.out k hk)) hbb.size, q0t _ hbb, fun _ h => .inl h⟩
end
open Go.RowKit
theorem qct : ∀ (a b : List UInt8), blt a b = true ↔ a < b
 | [], [] => by simp [q5T]
 | [], _ :: _ => by simp only [List.nil_lt_cons, iff_true]; rfl
 | _ :: _, [] => by simp [q5T]
 | p :: x, q :: y => by
  rw [List.cons_lt_cons_iff, ← qct x y, q4s]
  simp
theorem MapK.owns {P : Program} {w : World} {B : Nat} {kt : TypeId} {f : KeyS → Option Value} (h : MapK strK w B f) (hk : P.underlying kt = some .string) {ks : List KeyS} (hd : ks.Nodup) (hks : ∀ k, k ∈ ks ↔ (f k).isSome = true) (hl : ∀ k ∈ ks, k.length ≤ maxLen) (hn : ks.length ≤ maxLen) :
  ∃ D : DataW Unit, w.ownsMap P kt (fun _ => some (.nil, [])) B ks.length D ∧ (strKeys D).Perm ks ∧ Maps.size D = ks.length := by
 obtain ⟨es, clock, hb, hr⟩ := h
 have hc := hr.count hd hks
 have hkey : ∀ x ∈ es.toList, ∃ k, k ∈ ks ∧ x.key = strK.enc k ∧ Go.WideElems.rd P kt (fun _ => some ((.nil : DataW Unit), [])) x = some (.string k, .nil) := fun x hx => by
  obtain ⟨k, e⟩ := hr.key x hx
  have hf := (hr.val k x.val).2 ⟨x, hx, e, rfl⟩
  have hkm : k ∈ ks := (hks k).2 (by rw [hf]; rfl)
  refine ⟨k, hkm, e, ?_⟩
  have hko : keyOf P kt (strK.enc k) = some (.string k) := by
   have := Go.WideMaps.keyOf_string_mk (P := P) (k := kt) (s := bs k) hk (by rw [q20]; exact hl k hkm)
   rw [show (bs k).data.toList = k by simp [bs]] at this
   exact this
  unfold Go.WideElems.rd
  rw [e, hko]
  rfl
 have hrg : ∀ x ∈ es.toList, x.key = strK.enc (strOf (Go.WideElems.rg P kt (fun _ => some ((.nil : DataW Unit), [])) x).1) := fun x hx => by
  obtain ⟨k, _, e, hrd⟩ := hkey x hx
  rw [Go.WideElems.rg_of hrd]
  exact e
 refine ⟨.map ((es.toList.map (Go.WideElems.rg P kt (fun _ => some ((.nil : DataW Unit), [])))).foldr DataW.insert []), ⟨es, clock, hb, ⟨by rw [hc]; exact hn, hr.stamp, fun x hx => by
  obtain ⟨k, _, _, hrd⟩ := hkey x hx
  exact ⟨_, hrd⟩⟩, by omega, rfl⟩, ?_, ?_⟩
 ·have hp : ((es.toList.map (Go.WideElems.rg P kt (fun _ => some ((.nil : DataW Unit), [])))).foldr DataW.insert []).Perm (es.toList.map (Go.WideElems.rg P kt (fun _ => some ((.nil : DataW Unit), [])))) := Go.WideShapes.sorted_perm _
  have h1 := hp.map (fun p => strOf p.1)
  refine List.Perm.trans h1 ?_
  rw [List.map_map]
  refine (List.perm_ext_iff_of_nodup ?_ hd).2 fun k => ?_
  ·have hnd := hr.stamp.2.2
   unfold List.Nodup at hnd ⊢
   rw [List.pairwise_map] at hnd ⊢
   refine List.Pairwise.imp_of_mem (fun {a b} ha hb2 hne e => hne ?_) hnd
   rw [hrg a ha, hrg b hb2]
   exact congrArg strK.enc e
  ·rw [List.mem_map]
   constructor
   ·rintro ⟨x, hx, rfl⟩
    obtain ⟨k', hk', e, hrd⟩ := hkey x hx
    simp only [Function.comp]
    rw [Go.WideElems.rg_of hrd]
    exact hk'
   ·intro hk2
    obtain ⟨v, hv⟩ := Option.isSome_iff_exists.1 ((hks k).1 hk2)
    obtain ⟨x, hx, e, _⟩ := (hr.val k v).1 hv
    exact ⟨x, hx, strK.inj ((hrg x hx).symm.trans e)⟩
 ·simp only [Maps.size]
  rw [(Go.WideShapes.sorted_perm _).length_eq]
  simp [hc]
theorem q8E : ∀ (ks : List KeyS), q0g q0w ks = ks.map encStr
 | [] => rfl
 | k :: ks => by
  rw [q0k, q8E ks]
  rfl
theorem qfv (m : Nat) : AnyZ.SortsIn Tryz.prog Tryz.sortedN_ren Fence.wide m :=
 ⟨fun blk off cap ss W hH hblk hsz => callsIn_wide.2 (AnyM.slices_Sort_string Tryz.sortN blk off cap ss W hH hblk hsz), fun p cap W => callsIn_wide.2 (AnyM.slices_Sort_string_none Tryz.sortN p cap W)⟩
theorem qf7 (mb : Option Nat) (W : World) : Calls Tryz.prog 185 #[.map mb] W fun e w' => e = .returned (.func (.func 237) #[] #[.pointer (some ⟨W.heap.size, 0, none⟩)]) ∧ w' = W.alloc (.cells #[.map mb] 115) :=
 callsIn_wide.1 (AnyZ.keys_in Tryz.keysN Fence.wide 5 trivial rfl mb W)
theorem qao {w : World} {B : Nat} {f : KeyS → Option Value} (h : MapK strK w B f) {ks : List KeyS} (hd : ks.Pairwise fun a b => blt a b = true) (hks : ∀ k, k ∈ ks ↔ (f k).isSome = true) (hl : ∀ k ∈ ks, k.length ≤ maxLen) (hn : ks.length ≤ 1000000) :
  Calls Tryz.prog 184 #[.func (.func 237) #[] #[.pointer (some ⟨w.heap.size, 0, none⟩)]] (w.alloc (.cells #[.map (some B)] 115)) fun e w' => ∃ v, e = .returned v ∧
   OwnG 9 1 q0w w' w.heap.size v ks ∧ Below w.heap.size w w' := by
 have hnd : ks.Nodup := List.Pairwise.imp (fun h => q1j h) hd
 obtain ⟨D, hown, hperm, hsize⟩ := h.owns (P := Tryz.prog) (kt := 9) Tryz.underlying9 hnd hks hl (by unfold maxLen; omega)
 have hbl := hown.lt
 have hseq : SeqGives Fence.wide 2 Tryz.prog 237 #[.pointer (some ⟨w.heap.size, 0, none⟩)] encStr (fun ss => ss.Perm (strKeys D)) (Maps.size D) (w.alloc (.cells #[.map (some B)] 115)) :=
  AnyZ.keys_gives (ρ := Tryz.keysN_ren) { Tryz.keysN with } Fence.wide _ trivial rfl (by omega) w.heap.size B ks.length D _ (by simp) (by simp) (by
   obtain ⟨es, clock, hb, Ft, hs, hD⟩ := hown
   exact ⟨es, clock, (Below.heap_alloc _ _ B hbl).trans hb, Ft, hs, hD⟩)
 have hc := AnyZ.sorted_in Tryz.sortedN Fence.wide 5 trivial trivial trivial trivial rfl (by omega) (qfv _) (enters_of Tryz.func236 (by kernel_rfl) rfl) 237 #[.pointer (some ⟨w.heap.size, 0, none⟩)] trivial (enters_of Tryz.func237 (by kernel_rfl) rfl) _ _ (by rw [hsize]; unfold maxLen; omega) (by rw [hsize]; omega) _ hseq
 refine (callsIn_wide.1 hc).mono ?_
 rintro e w' ⟨v, ss, rfl, hS, hrow, _, hb⟩
 have hsort : ss.mergeSort (fun x y => decide (x ≤ y)) = ks := by
  have h1 := mergeSort_of_perm (hS.trans hperm)
  have h2 : ks.mergeSort leB = ks := List.mergeSort_of_pairwise (List.Pairwise.imp (fun {a b} h => by
   have := (qct a b).1 h
   simp only [leB, decide_eq_true_eq]
   exact List.le_of_lt this) hd)
  exact h1.trans h2
 rw [hsort] at hrow
 have hlen : ss.length = ks.length := (hS.trans hperm).length_eq
 rw [hlen] at hrow
 refine ⟨v, rfl, ?_, ((Below.refl _ w).alloc (Nat.le_refl _) _).trans (hb.mono (by simp))⟩
 have hflat : q0g q0w ks = ks.map encStr := q8E ks
 unfold OwnG
 rw [hflat]
 exact ownsRow_base_a hrow (by simp)
open Go.RowKit
section
variable {α : Type}
def AtG (l : List α) (p : α → Bool) (z : Int) : Prop := (∃ (j : Nat) (hj : j < l.length), z = (j : Int) ∧ p (l[j]'hj) = true ∧ ∀ i (hi : i < l.length), i < j → p (l[i]'hi) = false) ∨ (z = -1 ∧ ∀ i (hi : i < l.length), p (l[i]'hi) = false)
def q5j (l : List α) (z : Int) : Nat := if z = -1 then l.length else z.toNat + 1
structure DelG (l L : List α) (p : α → Bool) (j k : Nat) : Prop where
 len : L.length = l.length
 le : k ≤ j
 kept : L.take k = (l.take j).filter fun x => !p x
 rest : L.drop j = l.drop j
theorem DelG.start {l : List α} {p : α → Bool} {i : Nat} (hi : i < l.length) (h1 : p (l[i]'hi) = true) (h : ∀ q (hq : q < l.length), q < i → p (l[q]'hq) = false) : DelG l l p (i + 1) i := by
 refine ⟨rfl, by omega, ?_, rfl⟩
 rw [List.take_succ_eq_append_getElem hi, List.filter_append, List.filter_cons_of_neg (by rw [h1]; simp), List.filter_nil, List.append_nil, List.filter_eq_self.2]
 intro x hx
 obtain ⟨q, hq, rfl⟩ := List.getElem_of_mem hx
 rw [List.length_take] at hq
 rw [List.getElem_take, h q (by omega) (by omega)]
 rfl
theorem DelG.at_ {l L : List α} {p : α → Bool} {j k : Nat} (h : DelG l L p j k) (hj : j < l.length) (hj' : j < L.length) : L[j]'hj' = l[j]'hj := by
 have e := h.rest
 rw [List.drop_eq_getElem_cons hj', List.drop_eq_getElem_cons hj] at e
 injection e
theorem DelG.skip {l L : List α} {p : α → Bool} {j k : Nat} (h : DelG l L p j k) (hj : j < l.length) (hp : p (l[j]'hj) = true) : DelG l L p (j + 1) k := by
 refine ⟨h.len, by have := h.le; omega, ?_, ?_⟩
 ·rw [h.kept, List.take_succ_eq_append_getElem hj, List.filter_append, List.filter_cons_of_neg (by rw [hp]; simp), List.filter_nil, List.append_nil]
 ·have e := congrArg (List.drop 1) h.rest
  rwa [List.drop_drop, List.drop_drop] at e
theorem DelG.keep {l L : List α} {p : α → Bool} {j k : Nat} (h : DelG l L p j k) (hj : j < l.length) (hp : p (l[j]'hj) = false) : DelG l (L.set k (l[j]'hj)) p (j + 1) (k + 1) := by
 have hk : k < L.length := by have := h.le; have := h.len; omega
 refine ⟨by rw [List.length_set, h.len], by have := h.le; omega, ?_, ?_⟩
 ·rw [List.take_succ_eq_append_getElem (by rw [List.length_set]; exact hk), List.getElem_set_self, List.take_set_of_le (Nat.le_refl _), h.kept, List.take_succ_eq_append_getElem hj, List.filter_append, List.filter_cons_of_pos (by rw [hp]; rfl), List.filter_nil]
 ·rw [List.drop_set_of_lt (by have := h.le; omega)]
  have e := congrArg (List.drop 1) h.rest
  rwa [List.drop_drop, List.drop_drop] at e
theorem DelG.end_ {l L : List α} {p : α → Bool} {k : Nat} (h : DelG l L p l.length k) : L.take k = l.filter fun x => !p x := by rw [h.kept, List.take_length]
end
structure AskG {α : Type} (P : Program) (g : Nat) (lb : Array Value) (val : α → Value) (p : α → Bool) (l : List α) (b m : Nat) (F : Nat → Prop) (J : Nat → World → Prop) : Prop where
 far : ∀ k, F k → k ≠ b ∧ k < m
 call : ∀ (W : World) (j : Nat) (hj : j < l.length), J j W → Calls P g (#[val (l[j]'hj)] ++ lb) W fun e w' => e = .returned (.bool (p (l[j]'hj))) ∧ J (j + 1) w' ∧ Mut F W w'
 turn : ∀ (W W' : World) (j : Nat), J j W → Mut (fun k => k = b) W W' → J j W'
theorem qaZ {b : Nat} {w w' : World} (h : Below w.heap.size w w') : Mut (fun k => k = b) w w' := ⟨h.os, h.tape, h.output, h.size, fun k hk _ => h.block k hk⟩
open Go.RowKit
def valW (x : MW) : Value := .agg (q0l x).toArray
theorem q4c (p : MW → Bool) (g : Nat) (lb : Array Value) (eg : ∀ args w, (callFunc g args).run Tryz.prog w = .ok (.enter g args) w) (l : List MW) (A : Option Addr) (c : Nat) (J : Nat → World → Prop) (w : World) (hl : l.length ≤ 2000000)
  (hrow : ∀ j W, J j W → RowG q0l W 0 W.heap.size A l) (hcall : ∀ (W : World) (j : Nat) (hj : j < l.length), J j W → Calls Tryz.prog g (#[valW (l[j]'hj)] ++ lb) W fun e w' => e = .returned (.bool (p (l[j]'hj))) ∧ J (j + 1) w') (h0 : J 0 w) :
  Calls Tryz.prog 238 #[.slice A l.length c, .func (.func g) #[] lb] w fun e w' => ∃ z : Int, e = .returned (.int .i64 z) ∧ AtG l p z ∧ J (q5j l z) w' := by
 have HRow := qh hrow
 have HCall := qh hcall
 have H0 := qh h0
 clear hrow hcall h0
 go_enter Tryz.func238, Tryz.ntmps238
 go_wp2
 go_loopg [5, 8] l.length (fun q _ i wr => ∃ j : Nat, j + q = l.length ∧ i = .int .i64 j ∧ (∀ i (hi : i < l.length), i < j → p (l[i]'hi) = false) ∧ J j wr)
 case atStart => exact ⟨0, by omega, rfl, fun i _ h => absurd h (by omega), H0.out⟩
 case round =>
  obtain ⟨j, hk, rfl, hall, hb⟩ := hrel
  have HK := qh hk
  have HA := qh hall
  have HJ := qh hb
  clear hall hb hk
  by_cases hj : j < l.length
  ·have hlt : decide ((j : Int) < (l.length : Int)) = true := by simpa using hj
   have hlt2 : decide (j < l.length) = true := by simpa using hj
   obtain ⟨b, o, rfl, _, _, hc⟩ := (HRow.out j wr HJ.out).at_ mwF hj
   have c0 := hc 0 _ rfl
   have c1 := hc 1 _ rfl
   have c2 := hc 2 _ rfl
   simp only [Nat.add_zero] at c0
   have hcall := HCall.out wr j hj HJ.out
   have HT := qh (fun (h : p (l[j]'hj) = true) => show AtG l p (j : Int) from .inl ⟨j, hj, rfl, h, HA.out⟩)
   have HF := qh (fun (h : p (l[j]'hj) = false) => show ∀ i (hi : i < l.length), i < j + 1 → p (l[i]'hi) = false from fun i hi hij => by
     by_cases e : i = j
     ·subst e; exact h
     ·exact HA.out i hi (by omega))
   have HAs := qh (show q5j l (j : Int) = j + 1 by unfold q5j; rw [if_neg (by omega)]; simp)
   clear hc
   generalize l[j]'hj = x at *
   obtain ⟨⟨xk, xg, xd⟩, xA, xc⟩ := x
   simp only at c0 c1 c2
   unfold valW q0l at hcall
   simp only at hcall
   cases hq : p ⟨⟨xk, xg, xd⟩, xA, xc⟩ with
   | true =>
    rw [hq] at hcall
    have HC := qh hcall
    have HQ := qh hq
    clear hcall hq
    go_wp2_with fail
    refine HC.out.mono ?_
    rintro e w' ⟨rfl, hb'⟩
    have HB' := qh hb'
    clear hb'
    go_wp2_with fail
    go_ret
    exact ⟨_, rfl, HT.out HQ.out, by rw [HAs.out]; exact HB'.out⟩
   | false =>
    rw [hq] at hcall
    have HC := qh hcall
    have HQ := qh hq
    clear hcall hq
    go_wp2_with fail
    refine HC.out.mono ?_
    rintro e w' ⟨rfl, hb'⟩
    have HB' := qh hb'
    clear hb'
    go_wp2_with fail
    go_roundg (gk - 1)
    case measure => have := HK.out; omega
    case rel => exact ⟨j + 1, by have := HK.out; omega, by go_num, HF.out HQ.out, HB'.out⟩
  ·have hlt : decide ((j : Int) < (l.length : Int)) = false := by simpa using hj
   have hj' : j = l.length := by have := HK.out; omega
   subst hj'
   have HN := qh (show AtG l p (-1) from .inr ⟨rfl, fun i hi => HA.out i hi hi⟩)
   go_wp2
   go_ret
   exact ⟨_, rfl, HN.out, HJ.out⟩
theorem q6Q (p : MW → Bool) (g : Nat) (lb : Array Value) (eg : ∀ args w, (callFunc g args).run Tryz.prog w = .ok (.enter g args) w) (l : List MW) (A : Option Addr) (c : Nat) (J : Nat → World → Prop) (w : World) (hl : l.length ≤ 2000000)
  (hrow : ∀ j W, J j W → RowG q0l W 0 W.heap.size A l) (hcall : ∀ (W : World) (j : Nat) (hj : j < l.length), J j W → Calls Tryz.prog g (#[valW (l[j]'hj)] ++ lb) W fun e w' => e = .returned (.bool (p (l[j]'hj))) ∧ J (j + 1) w') (h0 : J 0 w) :
  Calls Tryz.prog 186 #[.slice A l.length c, .func (.func g) #[] lb] w fun e w' => e = .returned (.bool (l.any p)) ∧ ∃ j, J j w' := by
 have HI := qh (q4c p g lb eg l A c J w hl hrow hcall h0)
 clear hrow hcall h0
 go_enter Tryz.func186, Tryz.ntmps186
 go_wp2_with fail
 refine HI.out.mono ?_
 rintro r w1 ⟨z, rfl, hz, hj⟩
 have HJ := qh hj
 clear hj
 rcases hz with ⟨i, hi, rfl, h1, h2⟩ | ⟨rfl, h⟩
 ·have d1 : decide ((i : Int) ≥ 0) = true := by simp
  have d2 : decide (0 ≤ (i : Int)) = true := by simp
  have HE := qh (show l.any p = true from List.any_eq_true.2 ⟨_, List.getElem_mem hi, h1⟩)
  clear h1 h2
  go_wp2
  go_ret
  exact ⟨by rw [HE.out]; rfl, _, HJ.out⟩
 ·have HE := qh (show l.any p = false from by
   rw [List.any_eq_false]
   intro x hx
   obtain ⟨q, hq, rfl⟩ := List.getElem_of_mem hx
   rw [h q hq]
   simp)
  clear h
  go_wp2
  go_ret
  exact ⟨by rw [HE.out]; rfl, _, HJ.out⟩
def q6O (n : Nat) : List Value := (Builtin.zeroCells #[.string ⟨#[]⟩, .bool false, .slice none 0 0] n).toList
theorem qgH : (Tryz.prog.info? 37).map (fun i => i.zero.map (fun z => z.cells.toList)) = some (some [.string ⟨#[]⟩, .bool false, .slice none 0 0]) := by kernel_rfl
theorem qeD (w : World) : ∃ z : Value, (zeroValue 37).run Tryz.prog w = .ok z w ∧ z.cells = #[.string ⟨#[]⟩, .bool false, .slice none 0 0] := by
 obtain ⟨i, hi, hz⟩ := Option.map_eq_some_iff.1 qgH
 obtain ⟨z, hz0, hz1⟩ := Option.map_eq_some_iff.1 hz
 exact ⟨z, by simp [zeroValue, typeInfo, hi, hz0], by rw [← hz1]⟩
theorem qey (n : Nat) : (q6O n).length = n * 3 := by simp [q6O, Builtin.zeroCells]
theorem qeA (n : Nat) : ∀ v ∈ q6O n, v.oneCell' = true := by
 intro v hv
 unfold q6O at hv
 obtain ⟨k, hk, rfl⟩ := List.getElem_of_mem hv
 have h2 : k % 3 = 0 ∨ k % 3 = 1 ∨ k % 3 = 2 := by omega
 rcases h2 with h | h | h <;> simp [Builtin.zeroCells, h, Value.oneCell']
theorem qca {P : Program} (hp : P = Tryz.prog) {w : World} {lo g cap : Nat} {l : List MW} (h : BlkG 37 3 q0l w lo g cap l) (ty : TypeId) (m n c : Nat) (hn : 0 < n) (hm : m + n ≤ cap) :
  (Builtin.clear_ #[119] ty #[.slice (some ⟨g, m * 3, none⟩) n c]).run P w = .ok (.tuple #[]) (w.setCells g (m * 3) (q6O n)) := by
 subst hp
 obtain ⟨cur, h2, h5, _⟩ := h.cur
 obtain ⟨z, hz1, hz2⟩ := qeD w
 have hst := run_storeCells_cells (P := Tryz.prog) g (m * 3) (q6O n) 0 w (fun j hj => by
  rw [qey] at hj
  rw [cell_of_row w g _ _ _ _ h2, Array.getElem?_eq_getElem (by omega)]
  rfl) (fun j _ => h.frozen _) (qeA n)
 simp only [Nat.add_zero] at hst
 obtain ⟨k, rfl⟩ : ∃ k, n = k + 1 := ⟨n - 1, by omega⟩
 have hz3 : (Builtin.zeroCells z.cells (k + 1)).toList = q6O (k + 1) := by rw [hz2]; rfl
 simp [Builtin.clear_, run_underlying Tryz.underlying119, hz1, hz3, hst]
theorem q4F {b : Nat} {w : World} (hb : b < w.heap.size) (vs : List Value) (o : Nat) : Mut (fun k => k = b) w (w.setCells b o vs) := by
 have h := q2F (B := b) vs o w w (Below.refl _ _) (Nat.le_refl _)
 exact ⟨h.os, h.tape, h.output, by rw [q1Q]; exact Nat.le_refl _, fun k _ hk => q3n hk vs o w⟩
theorem qcG (p : MW → Bool) (g : Nat) (lb : Array Value) (eg : ∀ args w, (callFunc g args).run Tryz.prog w = .ok (.enter g args) w) (l : List MW) (lo b cap : Nat) (Fc : Nat → Prop) (J : Nat → World → Prop) (w : World) (hl : l.length ≤ 2000000) (hb : BlkG 37 3 q0l w lo b cap l)
  (ha : AskG Tryz.prog g lb valW p l b w.heap.size Fc J) (h0 : J 0 w) :
  Calls Tryz.prog 189 #[.slice (some ⟨b, 0, none⟩) l.length cap, .func (.func g) #[] lb] w fun e w' => e = .returned (.slice (some ⟨b, 0, none⟩) (l.filter fun x => !p x).length cap) ∧ BlkG 37 3 q0l w' lo b cap (l.filter fun x => !p x) ∧ J l.length w' ∧ w.heap.size ≤ w'.heap.size := by
 have HI := qh (q4c p g lb eg l (some ⟨b, 0, none⟩) cap (fun j W => J j W ∧ W.heap[b]? = w.heap[b]? ∧ w.heap.size ≤ W.heap.size) w hl (fun j W h => (hb.keep h.2.1).row) (fun W j hj h => (ha.call W j hj h.1).mono fun _ _ ⟨e, h1, h2⟩ => ⟨e, h1, (h2.block b (Nat.lt_of_lt_of_le hb.lt.2 h.2.2) (fun q => (ha.far b q).1 rfl)).trans h.2.1, Nat.le_trans h.2.2 h2.size⟩) ⟨h0, rfl, Nat.le_refl _⟩)
 have HAk := qh ha
 have HB0 := qh hb
 have hlo := hb.lt
 have hlc := hb.len
 have HL := qh hl
 have HLC := qh hlc
 have HLO := qh hlo
 clear ha hb hlo h0
 obtain ⟨F, hF⟩ : ∃ F, (l.filter fun x => !p x) = F := ⟨_, rfl⟩
 rw [hF]
 have HF := qh hF
 clear hF
 go_enter Tryz.func189, Tryz.ntmps189
 go_wp2_with fail
 refine HI.out.mono ?_
 rintro r w1 ⟨z, rfl, hz, hJ1, hb1, hs1⟩
 have HB1 := qh (HB0.out.keep hb1)
 have HS1 := qh hs1
 have HJ1 := qh hJ1
 clear HI hb1 hs1 hJ1
 rcases hz with ⟨i, hi, rfl, h1, h2⟩ | ⟨rfl, h⟩
 ·have d1 : ((i : Int) == -1) = false := by rw [beq_eq_false_iff_ne]; omega
  have d2 : ¬ ((i : Int) = -1) := by omega
  have HD := qh (DelG.start hi h1 h2)
  have hi9 : i < 2000000 := by have := HL.out; omega
  have HJi := qh (show J (i + 1) w1 from by
   have h := HJ1.out
   unfold q5j at h
   rw [if_neg (by omega)] at h
   simpa using h)
  clear h1 h2 HJ1
  go_wp2_with fail
  go_loopg [5, 6, 7] (l.length - (i + 1)) (fun q vi vj _ wr => ∃ (j k : Nat) (L : List MW), j + q = l.length ∧ vj = .int .i64 j ∧ vi = .int .i64 k ∧ DelG l L p j k ∧ k < j ∧ BlkG 37 3 q0l wr lo b cap L ∧ J j wr ∧ w.heap.size ≤ wr.heap.size)
  case atStart => exact ⟨i + 1, i, l, by omega, by go_num, rfl, HD.out, by omega, HB1.out, HJi.out, HS1.out⟩
  case round =>
   obtain ⟨j, k, L, hk, rfl, rfl, hd, hkj, hbl, hjw, hsw⟩ := hrel
   have HK := qh hk
   have HDl := qh hd
   have HBl := qh hbl
   have HJw := qh hjw
   have HSw := qh hsw
   clear hk hd hbl hjw hsw
   by_cases hj : j < l.length
   ·have hlt : decide ((j : Int) < (l.length : Int)) = true := by simpa using hj
    have hlt2 : decide (j < l.length) = true := by simpa using hj
    have hjL : j < L.length := by rw [HDl.out.len]; exact hj
    have hkL : k < L.length := by omega
    have hkl : k < l.length := by omega
    have c0 := HBl.out.at_ mwF hjL 0 _ rfl
    have c1 := HBl.out.at_ mwF hjL 1 _ rfl
    have c2 := HBl.out.at_ mwF hjL 2 _ rfl
    rw [HDl.out.at_ hj hjL] at c0 c1 c2
    simp only [Nat.add_zero] at c0
    have HSk := qh (HDl.out.skip hj)
    have HKe := qh (HDl.out.keep hj)
    have hbn := HBl.out.allocs
    have HCall := qh (fun (W : World) (h : J j W) => HAk.out.call W j hj h)
    have HSt := qh (fun (W : World) (h : BlkG 37 3 q0l W lo b cap L) => h.storeG mwF k (l[j]'hj) hkL)
    have HMt := qh (fun (W : World) (h : BlkG 37 3 q0l W lo b cap L) => q4F h.lt.2 (q0l (l[j]'hj)) (k * 3))
    generalize l[j]'hj = x at *
    obtain ⟨⟨xk, xg, xd⟩, xA, xc⟩ := x
    unfold valW q0l at HCall
    unfold q0l at HSt HMt
    simp only at c0 c1 c2 HCall HSt HMt
    obtain ⟨wt, hwt⟩ : ∃ y, wr.alloc (.cells #[.string (bs xk), .bool xg, .slice xA xd.length xc] 37) = y := ⟨_, rfl⟩
    have hx := heap_alloc_new wr (.cells #[.string (bs xk), .bool xg, .slice xA xd.length xc] 37)
    have hbt := hbn (.cells #[.string (bs xk), .bool xg, .slice xA xd.length xc] 37)
    have hwb : Below wr.heap.size wr wt := by rw [← hwt]; exact (Below.refl _ _).alloc (Nat.le_refl _) _
    rw [hwt] at hx hbt
    have HX := qh (fun (W : World) (h : Below wt.heap.size wt W) => (And.intro (cell_of_row W wr.heap.size 0 _ _ _ (q01 hx h (q00 hx))) (And.intro (cell_of_row W wr.heap.size 1 _ _ _ (q01 hx h (q00 hx))) (cell_of_row W wr.heap.size 2 _ _ _ (q01 hx h (q00 hx))))))
    have HXm := qh (fun (W : World) (h : W.heap[wr.heap.size]? = wt.heap[wr.heap.size]?) => (h.trans hx))
    have HBt := qh hbt
    have HJt := qh (HAk.out.turn _ _ _ HJw.out (qaZ (b := b) hwb))
    have HSt2 := qh (show w.heap.size ≤ wt.heap.size from Nat.le_trans HSw.out hwb.size)
    have HWlt := qh (q00 hx)
    have HWt := qh hwt
    have HbN := qh (show wr.heap.size ≠ b from fun e => by have := HBl.out.lt.2; omega)
    clear hx hbt hwb hwt hbn
    go_upto_region 8 with fail
    rw [HWt.out]
    clear HWt c0 c1 c2
    obtain ⟨x0, x1, x2⟩ := HX.out wt (Below.refl _ _)
    cases hq : p ⟨⟨xk, xg, xd⟩, xA, xc⟩ with
    | true =>
     have hcall := HCall.out wt HJt.out
     rw [hq] at hcall
     have HC := qh hcall
     have HD2 := qh (HSk.out hq)
     clear hcall hq HSk HKe HCall
     go_wp2_with fail
     (try go_at_fn g)
     refine HC.out.mono ?_
     rintro e w' ⟨rfl, hj', hm'⟩
     have HJ' := qh hj'
     have HM' := qh hm'
     clear hj' hm'
     go_wp2_with fail
     go_roundg (gk - 1)
     case measure => have := HK.out; omega
     case rel =>
      have hj' := HJ'.out
      have hm' := HM'.out
      exact ⟨j + 1, k, L, by have := HK.out; omega, by go_num, rfl, HD2.out, by omega, HBt.out.keep (hm'.block b HBt.out.lt.2 (fun q => (HAk.out.far b q).1 rfl)), hj', Nat.le_trans HSt2.out hm'.size⟩
    | false =>
     have hcall := HCall.out wt HJt.out
     rw [hq] at hcall
     have HC := qh hcall
     have HD2 := qh (HKe.out hq)
     clear hcall hq HSk HKe HCall
     go_wp2_with fail
     (try go_at_fn g)
     refine HC.out.mono ?_
     rintro e w2 ⟨rfl, hj', hm'⟩
     have hb2 := HBt.out.keep (hm'.block b HBt.out.lt.2 (fun q => (HAk.out.far b q).1 rfl))
     have hbx2 := HXm.out w2 (hm'.block _ HWlt.out (fun q => by have := (HAk.out.far _ q).2; have := HSw.out; omega))
     have HB2 := qh hb2
     have HS2 := qh (Nat.le_trans HSt2.out hm'.size)
     have HJ2 := qh hj'
     clear x0 x1 x2
     have f0 := hb2.frozen (k * 3)
     have f1 := hb2.frozen (k * 3 + 1)
     have f2 := hb2.frozen (k * 3 + 2)
     have k0 := hb2.at_ mwF hkL 0 _ rfl
     have k1 := hb2.at_ mwF hkL 1 _ rfl
     have k2 := hb2.at_ mwF hkL 2 _ rfl
     simp only [Nat.add_zero] at k0
     have x0 := cell_of_row w2 wr.heap.size 0 _ _ _ hbx2
     have x1 := cell_of_row w2 wr.heap.size 1 _ _ _ hbx2
     have x2 := cell_of_row w2 wr.heap.size 2 _ _ _ hbx2
     clear hj' hm' hb2 hbx2
     go_wp2_with fail
     go_roundg (gk - 1)
     case measure => have := HK.out; omega
     case rel => exact ⟨j + 1, k + 1, _, by have := HK.out; omega, by go_num, by go_num, HD2.out, by omega, HSt.out _ HB2.out, HAk.out.turn _ _ _ HJ2.out (HMt.out _ HB2.out), by simp only [World.setCell, Array.size_modify]; exact HS2.out⟩
   ·have hj' : j = l.length := by have := HK.out; omega
    subst hj'
    have hlt : decide ((l.length : Int) < (l.length : Int)) = false := by simp
    have hlt2 : decide (l.length < l.length) = false := by simp
    have HTk := qh (HDl.out.end_.trans HF.out)
    have HFl := qh (show F.length = k by rw [← HTk.out, List.length_take]; have := HDl.out.len; omega)
    have HTl := qh (show BlkG 37 3 q0l (wr.setCells b (k * 3) (q6O (l.length - k))) lo b cap F by rw [← HTk.out]; exact HBl.out.tail mwF k _)
    have HJl := qh (HAk.out.turn _ _ _ HJw.out (q4F HBl.out.lt.2 (q6O (l.length - k)) (k * 3)))
    have hszl := q1Q (b := b) (q6O (l.length - k)) (k * 3) wr
    have hclr := fun ty => qca (P := Tryz.prog) rfl HBl.out ty k (l.length - k) (cap - k) (by omega) (by have := HLC.out; omega)
    obtain ⟨w6, hw6⟩ : ∃ y, wr.setCells b (k * 3) (q6O (l.length - k)) = y := ⟨_, rfl⟩
    rw [hw6] at HTl HJl hclr hszl
    have HSz := qh (show w.heap.size ≤ w6.heap.size by rw [hszl]; exact HSw.out)
    have k1 : (0 : Int) ≤ (k : Int) := by omega
    have k2 : (k : Int) ≤ (l.length : Int) := by omega
    have k3 : (l.length : Int) ≤ (cap : Int) := by omega
    have k4 : ¬ cap = k := by omega
    clear hj hw6 HDl hszl
    go_wp2
    go_ret
    exact ⟨by rw [HFl.out]; rfl, HTl.out, HJl.out, HSz.out⟩
 ·have d1 : ((-1 : Int) == -1) = true := rfl
  have HE := qh (show l = F by
   rw [← HF.out, List.filter_eq_self.2]
   intro x hx
   obtain ⟨q, hq, rfl⟩ := List.getElem_of_mem hx
   rw [h q hq]
   rfl)
  clear h
  go_wp2_with fail
  go_ret
  exact ⟨by rw [← HE.out]; rfl, by rw [← HE.out]; exact HB1.out, HJ1.out, HS1.out⟩
end Go.Proofs.YtdpbllacfljmoaaGreat
