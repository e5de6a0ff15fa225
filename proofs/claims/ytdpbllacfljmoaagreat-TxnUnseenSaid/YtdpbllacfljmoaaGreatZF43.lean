import Derived.Test.YtdpbllacfljmoaaGreatZF42
import Derived.Test.YtdpbllacfljmoaaGreatZF35
import Derived.Test.YtdpbllacfljmoaaGreatZF36
set_option maxRecDepth 100000
set_option maxHeartbeats 16000000
set_option linter.unusedVariables false
namespace Go.Proofs.YtdpbllacfljmoaaGreat
open Go.RowKit
section
variable {w w' : World} {o p : Nat} {ρ ρ' : q0o} {L : LimT} {b b' : q08} {ps B : Nat} {P P' : Nat → TxP} {rv hv : Value} {F F' : Nat → Prop} {t t' : TxS} {X : Nat → Prop}
structure q3r (X : Nat → Prop) (w : World) (o p : Nat) (ρ : q0o) (L : LimT) (b' : q08) (ps B : Nat) (P : Nat → TxP) (rv hv : Value) (w' : World) (ρ' : q0o) (P' : Nat → TxP) : Prop where
 raw : RawB w' o p ρ' L b' ps B P' rv hv
 mu : Mut (fun k => ownR ρ k ∨ X k) w w'
 own : ∀ k, ownR ρ' k → ownR ρ k ∨ w.heap.size ≤ k
 same : ∀ i, (P' i).q = (P i).q ∧ (P' i).m = (P i).m
 stp : q0P (fun n => 7 ≤ n) ρ ρ' w w'
 six : ∀ k, ρ' k ≠ 6 → ρ' k = ρ k
theorem q3r.start (X : Nat → Prop) (h : RawB w o p ρ L b ps B P rv hv) : q3r X w o p ρ L b ps B P rv hv w ρ P := ⟨h, Mut.refl _ _, fun _ h => .inl h, fun _ => ⟨rfl, rfl⟩, q0P.refl _ _ _, fun _ _ => rfl⟩
theorem q3r.step {b1 b2 : q08} {w1 w2 : World} (h : q3r X w o p ρ L b1 ps B P rv hv w1 ρ' P') (k : q0X w1 o p ρ' L b2 ps B P' rv hv w2) : ∃ ρ2 P2, q3r X w o p ρ L b2 ps B P rv hv w2 ρ2 P2 := by
 obtain ⟨ρ2, P2, k1, k2, k3, k4, k5, k6⟩ := k
 exact ⟨ρ2, P2, k1, h.mu.trans k2 (fun i hi => (h.own i hi).elim (fun q => .inl (.inl q)) .inr), fun i hi => (k3 i hi).elim (h.own i) (fun q => .inr (Nat.le_trans h.mu.size q)), fun i => ⟨(k4 i).1.trans (h.same i).1, (k4 i).2.trans (h.same i).2⟩, h.stp.trans k5, fun i hi => (k6 i hi).trans (h.six i (by rw [← k6 i hi]; exact hi))⟩
theorem q3r.turn {b1 : q08} {w1 w2 : World} (h : q3r X w o p ρ L b1 ps B P rv hv w1 ρ' P') (hX : ∀ k, X k → ρ k = 0 ∧ k < w.heap.size) (m : Mut X w1 w2) : q3r X w o p ρ L b1 ps B P rv hv w2 ρ' P' := by
 have hn : ∀ k, ρ' k ≠ 0 → ¬ X k := fun k hk hx => by
  obtain ⟨x1, x2⟩ := hX k hx
  rcases h.own k hk with q | q
  ·exact q x1
  ·omega
 have hk : ∀ k, ρ' k ≠ 0 → w2.heap[k]? = w1.heap[k]? := fun k hk => m.block k (h.raw.lo k hk).2 (hn k hk)
 exact ⟨h.raw.keep hk m.size, h.mu.trans m (fun k q => .inl (.inr q)), h.own, h.same, h.stp.trans ⟨m.size, fun k _ h2 _ => ⟨hk k h2, rfl⟩⟩, h.six⟩
theorem q3r.flat {w0 : World} {b1 : q08} (h : q3r X w o p ρ L b1 ps B P rv hv w' ρ' P') (hb : Below w0.heap.size w0 w) (hX : ∀ k, X k → w0.heap.size ≤ k) : q0X w0 o p ρ L b1 ps B P rv hv w' := by
 refine ⟨ρ', P', h.raw, ⟨h.mu.os.trans hb.os, h.mu.tape.trans hb.tape, h.mu.output.trans hb.output, Nat.le_trans hb.size h.mu.size, fun k hk hf => ?_⟩, fun k hk => (h.own k hk).elim .inl fun q => .inr (Nat.le_trans hb.size q), h.same, (q0P.below hb).trans h.stp, h.six⟩
 exact (h.mu.block k (Nat.lt_of_lt_of_le hk hb.size) (fun q => q.elim hf fun x => by have := hX k x; omega)).trans (hb.block k hk)
def q1N (L : LimT) (st : PS) (t : TxS) (j : Nat) : TxS := ⟨t.id, t.began, t.start, (t.ws.take j).foldl (fun m w => if q1C st t w = true then addF (FT L) m (q0j w.key) else m) t.marks, t.ws⟩
theorem qfd (L : LimT) (st : PS) (t : TxS) : q1N L st t 0 = t := rfl
theorem qdj (st : PS) (t u : TxS) (h : u.began = t.began) (x : Wr) : q1C st u x = q1C st t x := by unfold q1C; rw [h]
theorem qad (L : LimT) (st : PS) (t : TxS) {j : Nat} (hj : j < t.ws.length) : q1N L st t (j + 1) = q3C L st (q1N L st t j) (t.ws[j]'hj) := by
 have e1 : q1N L st t (j + 1) = ⟨t.id, t.began, t.start, (if q1C st t (t.ws[j]'hj) = true then addF (FT L) (q1N L st t j).marks (q0j (t.ws[j]'hj).key) else (q1N L st t j).marks), t.ws⟩ := by
  unfold q1N
  rw [List.take_succ_eq_append_getElem hj, List.foldl_append, List.foldl_cons, List.foldl_nil]
 have e2 : q1C st (q1N L st t j) (t.ws[j]'hj) = q1C st t (t.ws[j]'hj) := qdj st t _ rfl _
 rw [e1]
 unfold q3C
 rw [e2]
 cases q1C st t (t.ws[j]'hj) <;> rfl
theorem q7g (L : LimT) (st : PS) (t : TxS) : q1N L st t t.ws.length = ⟨t.id, t.began, t.start, q1y (FT L) st t, t.ws⟩ := by
 unfold q1N q1y
 rw [List.take_length]
theorem q7h (L : LimT) (st : PS) (t : TxS) (j : Nat) : (q1N L st t j).marks.length ≤ t.marks.length + t.ws.length := by
 have h := q3D (qd1 L) st t (t.ws.take j) t.marks
 have h2 : (t.ws.take j).length ≤ t.ws.length := by rw [List.length_take]; omega
 unfold q1N
 simp only
 omega
theorem q9X {w0 : World} (h : RawB w0 o p ρ L b ps B P rv hv) (hb0 : Below w0.heap.size w0 w) (ht : t ∈ b.live) (hi : IdsT b.live) (hml : t.marks.length ≤ 330) (hm1 : 1 ≤ L.marks) (hm2 : L.marks ≤ 1048576) (htb : t.began < 18446744073709551616)
  (ms : List MW) (lo bk cap : Nat) (hl : ms.length ≤ 330) (hbk : BlkG 37 3 q0l w lo bk cap ms) (hbk0 : w0.heap.size ≤ bk) (hk : ∀ x ∈ ms, x.w.key.length ≤ 1000000) (hms : ms.map MW.w = t.ws) :
  Calls Tryz.prog 133 #[ptrS p, ptrS (P t.id).q, .slice (some ⟨bk, 0, none⟩) ms.length cap] w fun r w' => r = .returned (.slice (some ⟨bk, 0, none⟩) (ms.filter fun x => !q1C b.st t x.w).length cap) ∧ BlkG 37 3 q0l w' lo bk cap (ms.filter fun x => !q1C b.st t x.w) ∧
   q0X w0 o p ρ L (setT b ⟨t.id, t.began, t.start, q1y (FT L) b.st t, t.ws⟩) ps B P rv hv w' := by
 obtain ⟨w1, hw1⟩ : ∃ y, w.alloc (.cells #[ptrS p] 28) = y := ⟨_, rfl⟩
 obtain ⟨w2, hw2⟩ : ∃ y, w1.alloc (.cells #[ptrS (P t.id).q] 114) = y := ⟨_, rfl⟩
 have hb1 : Below w.heap.size w w1 := by rw [← hw1]; exact (Below.refl _ w).alloc (Nat.le_refl _) _
 have hb2 : Below w1.heap.size w1 w2 := by rw [← hw2]; exact (Below.refl _ w1).alloc (Nat.le_refl _) _
 have hx1 : w1.heap[w.heap.size]? = some (.cells #[ptrS p] 28 (0, 0)) := by rw [← hw1]; exact heap_alloc_new w _
 have hx2 : w2.heap[w1.heap.size]? = some (.cells #[ptrS (P t.id).q] 114 (0, 0)) := by rw [← hw2]; exact heap_alloc_new w1 _
 have hx12 := q01 hx1 hb2 (q00 hx1)
 have hb12 := hb1.trans (hb2.mono hb1.size)
 have hb02 := hb0.trans (hb12.mono hb0.size)
 have hraw2 := h.below hb02
 have hz : ∀ k, w0.heap.size ≤ k → ρ k = 0 := fun k hk => Decidable.byContradiction fun e => by have := (h.lo k e).2; omega
 have hbl := hbk.lt
 have hbk2 := hbk.below hb12
 have hsz : w1.heap.size = w.heap.size + 1 := by rw [← hw1]; simp
 have hsz2 : w2.heap.size = w1.heap.size + 1 := by rw [← hw2]; simp
 have hs0 := hb0.size
 have hX : ∀ k, k = bk → ρ k = 0 ∧ k < w2.heap.size := fun k e => by subst e; exact ⟨hz _ hbk0, by omega⟩
 have hlen : ms.length = t.ws.length := by rw [← hms, List.length_map]
 have hget : ∀ (j : Nat) (hj : j < ms.length), (ms[j]'hj).w = t.ws[j]'(by omega) := fun j hj => by simp [← hms]
 obtain ⟨J, hJ⟩ : ∃ J : Nat → World → Prop, J = fun j W => ∃ ρ' P', q3r (fun k => k = bk) w2 o p ρ L (setT b (q1N L b.st t j)) ps B P rv hv W ρ' P' := ⟨_, rfl⟩
 have hask : AskG Tryz.prog 190 #[.pointer (some ⟨w.heap.size, 0, none⟩), .pointer (some ⟨w1.heap.size, 0, none⟩)] valW (fun x => q1C b.st t x.w) ms bk w2.heap.size (fun k => 7 ≤ ρ k) J := by
  refine ⟨fun k hk => ⟨fun e => by have := (hX k e).1; omega, (hraw2.lo k (by omega)).2⟩, fun W j hj hJj => ?_, fun W W' j hJj hm => ?_⟩
  ·rw [hJ] at hJj
   obtain ⟨ρ', P', tx⟩ := hJj
   have hin := q5J ht (q1N L b.st t j) rfl
   have hids := q3T hi (q1N L b.st t j)
   have hcell : ∀ (n : Nat) (v : Value) (ty : TypeId), w2.heap[n]? = some (.cells #[v] ty (0, 0)) → w0.heap.size ≤ n → n ≠ bk → W.cell? ⟨n, 0, none⟩ = some v := fun n v ty hn h0 hne => by
    rw [cell_of_row W _ 0 _ _ _ ((tx.mu.block n (q00 hn) (fun q => q.elim (fun q => q (hz n h0)) hne)).trans hn)]
    rfl
   have hro : ∀ n, w0.heap.size ≤ n → n < w2.heap.size → ρ' n = 0 := fun n h0 h2 => Decidable.byContradiction fun e => by
    rcases tx.own n e with q | q
    ·exact q (hz n h0)
    ·omega
   have hq : (P' (q1N L b.st t j).id).q = (P t.id).q := (tx.same t.id).1
   have hc := q8t (t := q1N L b.st t j) tx.raw hin hids (by have := q7h L b.st t j; omega) hm1 hm2 htb (ms[j]'hj) w.heap.size w1.heap.size (hcell _ _ _ hx12 (by omega) (by omega)) (by rw [hq]; exact hcell _ _ _ hx2 (by omega) (by omega)) (hro _ (by omega) (by omega)) (hro _ (by omega) (by omega)) (hk _ (List.getElem_mem hj))
   refine hc.mono fun r w' ⟨e, tn⟩ => ⟨?_, ?_, ?_⟩
   ·rw [e]; rfl
   ·rw [hJ]
    obtain ⟨ρ2, P2, q⟩ := tx.step tn
    refine ⟨ρ2, P2, ?_⟩
    rw [qad L b.st t (by omega), ← hget j hj]
    have e2 : setT (setT b (q1N L b.st t j)) (q3C L (setT b (q1N L b.st t j)).st (q1N L b.st t j) (ms[j]'hj).w) = setT b (q3C L b.st (q1N L b.st t j) (ms[j]'hj).w) := qed _ _ (by unfold q3C; split <;> rfl)
    rw [e2] at q
    exact q
   ·have hm := tn.turned
    exact ⟨hm.os, hm.tape, hm.output, hm.size, fun k hk hf => hm.block k hk fun q => hf (by rw [← tx.six k (by omega)]; exact q)⟩
  ·rw [hJ] at hJj ⊢
   obtain ⟨ρ', P', tx⟩ := hJj
   exact ⟨ρ', P', tx.turn hX hm⟩
 have hstart : J 0 w2 := by
  rw [hJ]
  refine ⟨ρ, P, ?_⟩
  rw [qfd, q6E hi ht]
  exact q3r.start _ hraw2
 have hin := qcG (fun x => q1C b.st t x.w) 190 #[.pointer (some ⟨w.heap.size, 0, none⟩), .pointer (some ⟨w1.heap.size, 0, none⟩)] (fun _ _ => rfl) ms lo bk cap (fun k => 7 ≤ ρ k) J w2 (by omega) hbk2 hask hstart
 rw [hsz] at hin
 have HIn := qh hin
 have HW1 := qh hw1
 have HW2 := qh hw2
 have HFin : Hid (∀ W : World, J ms.length W → q0X w0 o p ρ L (setT b ⟨t.id, t.began, t.start, q1y (FT L) b.st t, t.ws⟩) ps B P rv hv W) := qh fun W hj => by
  rw [hJ] at hj
  obtain ⟨ρ', P', tx⟩ := hj
  rw [hlen, q7g] at tx
  exact tx.flat hb02 fun k e => by omega
 clear hin h hb0 ht hi hml hm1 hm2 htb hl hbk hbk0 hk hms hb1 hb2 hx1 hx2 hx12 hb12 hb02 hraw2 hz hbl hbk2 hsz hsz2 hs0 hX hlen hget hJ hask hstart hw1 hw2
 unfold ptrS at HW1 HW2 ⊢
 go_enter Tryz.func133, Tryz.ntmps133
 go_upto_region 1 with fail
 rw [HW1.out, HW2.out]
 go_wp2_with fail
 refine HIn.out.mono ?_
 rintro e w3 ⟨rfl, hb3, hj3, _⟩
 have HB3 := qh hb3
 have HJ3 := qh hj3
 clear hb3 hj3
 go_wp2
 go_ret
 exact ⟨rfl, HB3.out, HFin.out _ HJ3.out⟩
end
open Go.RowKit
section
variable {w w' w0 w1 w2 : World} {o p : Nat} {ρ ρ' ρ0 ρ1 ρ2 : q0o} {L : LimT} {b b' : q08} {ps B : Nat} {P P' : Nat → TxP} {rv hv : Value} {F F' : Nat → Prop} {t t' : TxS} {X : Nat → Prop}
def Reach (ρ0 : q0o) (w0 : World) (ρ : q0o) (w : World) : Prop := Mut (ownR ρ0) w0 w ∧ ∀ k, ownR ρ k → ownR ρ0 k ∨ w0.heap.size ≤ k
theorem Reach.refl (ρ : q0o) (w : World) : Reach ρ w ρ w := ⟨Mut.refl _ _, fun _ h => .inl h⟩
theorem Reach.trans (h : Reach ρ0 w0 ρ1 w1) (k : Reach ρ1 w1 ρ2 w2) : Reach ρ0 w0 ρ2 w2 := ⟨h.1.trans k.1 h.2, fun i hi => (k.2 i hi).elim (h.2 i) (fun q => .inr (Nat.le_trans h.1.size q))⟩
theorem Reach.below (hb : Below w.heap.size w w') : Reach ρ w ρ w' := ⟨q0t _ hb, fun _ h => .inl h⟩
theorem q0X.reach {b1 : q08} (h : q0X w o p ρ L b1 ps B P rv hv w') : ∃ ρ' P', RawB w' o p ρ' L b1 ps B P' rv hv ∧ Reach ρ w ρ' w' ∧ (∀ i, (P' i).q = (P i).q) ∧ q0P (fun n => 7 ≤ n) ρ ρ' w w' ∧ ∀ k, ρ' k ≠ 6 → ρ' k = ρ k := by
 obtain ⟨ρ', P', h1, h2, h3, h4, h5, h6⟩ := h
 exact ⟨ρ', P', h1, ⟨h2, h3⟩, fun i => (h4 i).1, h5, h6⟩
theorem q4O {w : World} (hp : ρ p = 1) (i : Nat) (v : Value) : q0P (fun n => n = 1) ρ ρ w (w.setCell ⟨p, i, none⟩ v) := ⟨by simp [World.setCell], fun k _ _ h3 => ⟨q0b (fun e => h3 (by rw [e]; exact hp)) _ _, rfl⟩⟩
theorem RawB.newRecs (h : RawB w o p ρ L b ps B P rv hv) {v : Value} {l : List RecS} (s : q0P (fun n => n = 4) ρ ρ' w w') (hr : q5O w' ρ' v l) (hn : ∀ k, ρ' k = 3 → ρ k = 3) (hlo : ∀ k, ρ' k ≠ 0 → o ≤ k ∧ k < w'.heap.size) :
  RawB (w'.setCell ⟨p, 11, none⟩ v) o p ρ' L ⟨b.st, b.live, l, b.hist, b.last, b.event⟩ ps B P v hv := by
 obtain ⟨p1, p2⟩ := s.same p (q00 h.box) (by rw [h.rp]; omega) (by rw [h.rp]; omega)
 obtain ⟨b1, b2⟩ := s.same B h.live.lt (by rw [h.rB]; omega) (by rw [h.rB]; omega)
 have hp := p2.trans h.rp
 have hBp : B ≠ p := fun e => by have h1 := h.rp; have h2 := h.rB; rw [e] at h2; omega
 have s2 := q4O (w := w') hp 11 v
 have s3 : q0P (fun n => n = 4 ∨ n = 1) ρ ρ' w (w'.setCell ⟨p, 11, none⟩ v) := (s.mono fun n e => .inl e).trans (s2.mono fun n e => .inr e)
 exact ⟨q1o (p1.trans h.box) 11 v, h.live.keep ((q0b hBp _ _).trans b1), h.store.step s3 (by omega) hn, fun t ht => (h.txs t ht).step s3 (by omega) (by omega) (by omega), hr.step s2 (by omega) (by omega), h.hist.step s3 (by omega) (by omega), hp, b2.trans h.rB, fun k hk => ⟨(hlo k hk).1, Nat.lt_of_lt_of_le (hlo k hk).2 s2.size⟩⟩
theorem RawB.newHist (h : RawB w o p ρ L b ps B P rv hv) {v : Value} {l : List q47} (s : q0P (fun n => n = 5) ρ ρ' w w') (hr : qbm w' ρ' v l) (hn : ∀ k, ρ' k = 3 → ρ k = 3) (hlo : ∀ k, ρ' k ≠ 0 → o ≤ k ∧ k < w'.heap.size) :
  RawB (w'.setCell ⟨p, 12, none⟩ v) o p ρ' L ⟨b.st, b.live, b.recs, l, b.last, b.event⟩ ps B P rv v := by
 obtain ⟨p1, p2⟩ := s.same p (q00 h.box) (by rw [h.rp]; omega) (by rw [h.rp]; omega)
 obtain ⟨b1, b2⟩ := s.same B h.live.lt (by rw [h.rB]; omega) (by rw [h.rB]; omega)
 have hp := p2.trans h.rp
 have hBp : B ≠ p := fun e => by have h1 := h.rp; have h2 := h.rB; rw [e] at h2; omega
 have s2 := q4O (w := w') hp 12 v
 have s3 : q0P (fun n => n = 5 ∨ n = 1) ρ ρ' w (w'.setCell ⟨p, 12, none⟩ v) := (s.mono fun n e => .inl e).trans (s2.mono fun n e => .inr e)
 exact ⟨q1o (p1.trans h.box) 12 v, h.live.keep ((q0b hBp _ _).trans b1), h.store.step s3 (by omega) hn, fun t ht => (h.txs t ht).step s3 (by omega) (by omega) (by omega), h.recs.step s3 (by omega) (by omega), hr.step s2 (by omega) (by omega), hp, b2.trans h.rB, fun k hk => ⟨(hlo k hk).1, Nat.lt_of_lt_of_le (hlo k hk).2 s2.size⟩⟩
theorem RawB.newEvent (h : RawB w o p ρ L b ps B P rv hv) : RawB (w.setCell ⟨p, 10, none⟩ (.int .i64 ((b.event + 1 : Nat)))) o p ρ L ⟨b.st, b.live, b.recs, b.hist, b.last, b.event + 1⟩ ps B P rv hv := by
 have hBp : B ≠ p := fun e => by have h1 := h.rp; have h2 := h.rB; rw [e] at h2; omega
 have s2 := q4O (w := w) h.rp 10 (.int .i64 ((b.event + 1 : Nat)))
 exact ⟨q1o h.box 10 _, h.live.keep (q0b hBp _ _), h.store.step s2 (by omega) fun _ e => e, fun t ht => (h.txs t ht).step s2 (by omega) (by omega) (by omega), h.recs.step s2 (by omega) (by omega), h.hist.step s2 (by omega) (by omega), h.rp, h.rB, fun k hk => ⟨(h.lo k hk).1, Nat.lt_of_lt_of_le (h.lo k hk).2 s2.size⟩⟩
def rowR (ρ : q0o) (v : Value) (r : Nat) : q0o := fun k => if v.ownBlock = some k then r else ρ k
theorem qak {v : Value} {r k : Nat} (h : v.ownBlock = some k) : rowR ρ v r k = r := if_pos h
theorem q3m {v : Value} {r k : Nat} (h : v.ownBlock ≠ some k) : rowR ρ v r k = ρ k := if_neg h
structure q3q (ρ : q0o) (r : Nat) (v v' : Value) (w w' : World) : Prop where
 size : w.heap.size ≤ w'.heap.size
 same : ∀ k, k < w.heap.size → v.ownBlock ≠ some k → w'.heap[k]? = w.heap[k]?
 row : ∀ k, v'.ownBlock = some k → (v.ownBlock = some k ∨ w.heap.size ≤ k) ∧ k < w'.heap.size
 role : ∀ k, v.ownBlock = some k → ρ k = r
theorem q3q.step {r : Nat} {v v' : Value} (h : q3q ρ r v v' w w') (hr : r ≠ 0) : q0P (fun n => n = r) ρ (rowR ρ v' r) w w' := ⟨h.size, fun k h1 h2 h3 => by
 have hv : v.ownBlock ≠ some k := fun e => h3 (h.role k e)
 refine ⟨h.same k h1 hv, q3m fun e => ?_⟩
 rcases (h.row k e).1 with q | q
 ·exact hv q
 ·omega⟩
theorem q3q.sto {r : Nat} {v v' : Value} (hr : r ≠ 3) : ∀ k, rowR ρ v' r k = 3 → ρ k = 3 := fun k e => by
 unfold rowR at e
 split at e
 ·exact absurd e hr
 ·exact e
theorem q3q.lo {r : Nat} {v v' : Value} (h : q3q ρ r v v' w w') (hr : r ≠ 0) (ho : o ≤ w.heap.size) (hl : ∀ k, ρ k ≠ 0 → o ≤ k ∧ k < w.heap.size) : ∀ k, rowR ρ v' r k ≠ 0 → o ≤ k ∧ k < w'.heap.size := fun k hk => by
 unfold rowR at hk
 split at hk
 ·rename_i e
  obtain ⟨q, q2⟩ := h.row k e
  refine ⟨?_, q2⟩
  rcases q with q | q
  ·exact (hl k (by rw [h.role k q]; exact hr)).1
  ·exact Nat.le_trans ho q
 ·exact ⟨(hl k hk).1, Nat.lt_of_lt_of_le (hl k hk).2 h.size⟩
theorem q3q.reach {r : Nat} {v v' : Value} (h : q3q ρ r v v' w w') (hr : r ≠ 0) (ht : w'.tape = w.tape) (hos : w'.os = w.os) (hout : w'.output = w.output) : Reach ρ w (rowR ρ v' r) w' := ⟨⟨hos, ht, hout, h.size, fun k hk hf => h.same k hk fun e => hf (by unfold ownR; rw [h.role k e]; exact hr)⟩, fun k hk => by
 unfold ownR rowR at hk
 split at hk
 ·rename_i e
  rcases (h.row k e).1 with q | q
  ·exact .inl (by unfold ownR; rw [h.role k q]; exact hr)
  ·exact .inr q
 ·exact .inl hk⟩
theorem Reach.set (hp : ρ p ≠ 0) (i : Nat) (v : Value) : Reach ρ w ρ (w.setCell ⟨p, i, none⟩ v) := ⟨q1U (F := ownR ρ) w hp i v, fun _ h => .inl h⟩
def q6U (w : World) (o p : Nat) (ρ : q0o) (L : LimT) (b' : q08) (ps B : Nat) (P : Nat → TxP) (w' : World) : Prop :=
 ∃ ρ' P' rv' hv', RawB w' o p ρ' L b' ps B P' rv' hv' ∧ Reach ρ w ρ' w' ∧ ∀ i, (P' i).q = (P i).q
end
open Go.RowKit
theorem qbT (l : List TxS) (P : Nat → TxP) (i : Nat) : q2L (l.filter fun x => decide (x.id ≠ i)) P = updK (q2L l P) (i : Int) none := funext fun id => by
 unfold q2L
 by_cases e : id = (i : Int)
 ·subst e
  rw [q2O]
  have : (l.filter fun x => decide (x.id ≠ i)).find? (fun t => decide ((t.id : Int) = (i : Int))) = none := List.find?_eq_none.2 fun x hx => by
   have := (List.mem_filter.1 hx).2
   simp only [decide_eq_true_eq] at this ⊢
   omega
  rw [this]
  rfl
 ·rw [q4n _ e]
  congr 1
  induction l with
  | nil => rfl
  | cons x l ih =>
   by_cases hx : x.id = i
   ·rw [List.filter_cons_of_neg (by simp [hx]), List.find?_cons, decide_eq_false (by omega)]
    exact ih
   ·rw [List.filter_cons_of_pos (by simp [hx]), List.find?_cons, List.find?_cons, ih]
section
variable {w w' w0 w1 w2 : World} {o p : Nat} {ρ ρ' ρ0 ρ1 ρ2 : q0o} {L : LimT} {b b' : q08} {ps B : Nat} {P P' : Nat → TxP} {rv hv : Value} {F F' : Nat → Prop} {t t' : TxS} {X : Nat → Prop}
theorem RawB.dropTx (h : RawB w o p ρ L b ps B P rv hv) (i : Nat) (hl : MapK intK w' B (updK (q2L b.live P) (i : Int) none)) (hg : w.grownBy w' (some B)) (hs : w'.heap.size = w.heap.size) :
  RawB w' o p ρ L ⟨b.st, b.live.filter (fun x => decide (x.id ≠ i)), b.recs, b.hist, b.last, b.event⟩ ps B P rv hv := by
 have s : q0P (fun n => n = 2) ρ ρ w w' := ⟨by omega, fun k h1 _ h3 => ⟨hg.block k h1 (fun e => h3 (by injection e with e; rw [e]; exact h.rB)), rfl⟩⟩
 obtain ⟨p1, p2⟩ := s.same p (q00 h.box) (by rw [h.rp]; omega) (by rw [h.rp]; omega)
 exact ⟨p1.trans h.box, by rw [← qbT] at hl; exact hl, h.store.step s (by omega) fun _ e => e, fun t ht => (h.txs t (List.mem_filter.1 ht).1).step s (by omega) (by omega) (by omega), h.recs.step s (by omega) (by omega), h.hist.step s (by omega) (by omega), h.rp, h.rB, fun k hk => by rw [hs]; exact h.lo k hk⟩
theorem q5O.ch {v : Value} {l : List RecS} (h : q5O w ρ v l) : ∃ A c, v = .slice A l.length c ∧ ChR w w.heap.size A c l := by
 obtain ⟨ms, rfl, ho, hk, _⟩ := h
 obtain ⟨A, c, e, h1⟩ := OwnG.chR ho fun x hx => (hk x hx).ok
 rw [List.length_map]
 exact ⟨A, c, e, h1⟩
theorem RawB.toldRecs (h : RawB w o p ρ L b ps B P rv hv) {m : List RecS} {r : Ending} (hr : q4p m w r w') : ∃ v, r = .returned v ∧ ∃ ρ', RawB (w'.setCell ⟨p, 11, none⟩ v) o p ρ' L ⟨b.st, b.live, m, b.hist, b.last, b.event⟩ ps B P v hv ∧ Reach ρ w ρ' (w'.setCell ⟨p, 11, none⟩ v) ∧ Below w.heap.size w w' := by
 obtain ⟨v, ms, e, hm, ho, hf, hb⟩ := hr
 have hlt := ho.lt
 have s0 : q0P (fun n => n = 4) ρ (rowR (newR ρ w.heap.size w'.heap.size 6) v 4) w w' := ⟨hb.size, fun k h1 _ _ => ⟨hb.block k h1, by rw [q3m (fun e => by have := (hlt k e).1; omega), q1f h1]⟩⟩
 have hrec : q5O w' (rowR (newR ρ w.heap.size w'.heap.size 6) v 4) v m := by
  refine ⟨ms, hm, ho.keep (fun _ _ _ => rfl) (Nat.zero_le _), fun x hx => ?_, fun g hg => qak hg⟩
  obtain ⟨⟨k1, k2, k3⟩, a1, a2, a3⟩ := hf x hx
  refine ⟨⟨k1.first, k1.last, k1.began, k1.out⟩, ⟨k1.reads.1, k1.reads.2.1, k1.reads.2.2.1, fun hn => ?_⟩, ⟨k1.writes.1, k1.writes.2.1, k1.writes.2.2.1, fun hn => ?_⟩⟩
  ·obtain ⟨g, oo, eA, g1, g2, hc⟩ := k2 hn
   exact ⟨g, oo, eA, by unfold datR; rw [q3m (a2 g oo eA hn), q5F g1 g2], hc⟩
  ·obtain ⟨g, oo, eA, g1, g2, hc⟩ := k3 hn
   exact ⟨g, oo, eA, by unfold datR; rw [q3m (a3 g oo eA hn), q5F g1 g2], hc⟩
 have hn3 : ∀ k, rowR (newR ρ w.heap.size w'.heap.size 6) v 4 k = 3 → ρ k = 3 := fun k hk => by
  have h1 := q3q.sto (v := rv) (ρ := newR ρ w.heap.size w'.heap.size 6) (v' := v) (r := 4) (by omega) k hk
  rcases q1b (show newR ρ w.heap.size w'.heap.size 6 k ≠ 0 by rw [h1]; omega) with ⟨_, _, h6⟩ | h6
  ·rw [h6] at h1; omega
  ·rw [← h6]; exact h1
 have hlo : ∀ k, rowR (newR ρ w.heap.size w'.heap.size 6) v 4 k ≠ 0 → o ≤ k ∧ k < w'.heap.size := fun k hk => by
  by_cases hv : v.ownBlock = some k
  ·have := hlt k hv
   exact ⟨Nat.le_trans h.o_le this.1, this.2⟩
  ·rw [q3m hv] at hk
   rcases q1b hk with ⟨h1, h2, _⟩ | h6
   ·exact ⟨Nat.le_trans h.o_le h1, h2⟩
   ·have := h.lo k (by rw [← h6]; exact hk)
    exact ⟨this.1, Nat.lt_of_lt_of_le this.2 hb.size⟩
 have hraw := h.newRecs s0 hrec hn3 hlo
 refine ⟨v, e, _, hraw, Reach.trans (ρ1 := rowR (newR ρ w.heap.size w'.heap.size 6) v 4) (w1 := w') ⟨q0t _ hb, fun k hk => ?_⟩ (Reach.set (by rw [hraw.rp]; omega) 11 v), hb⟩
 unfold ownR at hk
 by_cases hv : v.ownBlock = some k
 ·exact .inr (hlt k hv).1
 ·rw [q3m hv] at hk
  rcases q1b hk with ⟨h1, _, _⟩ | h6
  ·exact .inr h1
  ·exact .inl (by unfold ownR; rw [← h6]; exact hk)
end
end Go.Proofs.YtdpbllacfljmoaaGreat
