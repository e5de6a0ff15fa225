import Derived.Test.YtdpbllacfljmoaaGreatZF35
import Derived.Test.YtdpbllacfljmoaaGreatZF36
import Derived.Test.YtdpbllacfljmoaaGreatZF38
import Derived.Test.YtdpbllacfljmoaaGreatZF28
set_option maxRecDepth 100000
set_option maxHeartbeats 16000000
set_option linter.unusedVariables false
namespace Go.Proofs.YtdpbllacfljmoaaGreat
open Go.RowKit
theorem ssiC : SsiC where
 judge := q9R qap
 join := qbz qap
 forget := q8q
 fit := qcH qap
open Go.RowKit
theorem qdv {l : List TxS} {P : Nat → TxP} {t' : TxS} {a' : TxP} (hq : a'.q = (P t'.id).q) : q2L (l.map fun x => if x.id = t'.id then t' else x) (setP P t'.id a') = q2L l P := funext fun id => by
 unfold q2L
 induction l with
 | nil => rfl
 | cons x l ih =>
  rw [List.map_cons, List.find?_cons, List.find?_cons]
  by_cases e : x.id = t'.id
  ·rw [if_pos e]
   by_cases e2 : (t'.id : Int) = id
   ·rw [decide_eq_true e2, decide_eq_true (by omega)]
    simp [q3K, hq, e]
   ·rw [decide_eq_false e2, decide_eq_false (by omega)]
    exact ih
  ·rw [if_neg e]
   by_cases e2 : (x.id : Int) = id
   ·rw [decide_eq_true e2]
    simp only [Option.map_some]
    rw [q6D _ e]
   ·rw [decide_eq_false e2]
    exact ih
section
variable {w w' : World} {o p : Nat} {ρ ρ' : q0o} {L : LimT} {b b' : q08} {ps B : Nat} {P : Nat → TxP} {rv hv : Value} {F F' : Nat → Prop} {t t' : TxS}
def txR (i : Nat) : Nat → Prop := fun n => n = 7 + 2 * i ∨ n = 8 + 2 * i
theorem RawB.setTx (h : RawB w o p ρ L b ps B P rv hv) (ht : t ∈ b.live) (e : t'.id = t.id) {a' : TxP} (hq : a'.q = (P t.id).q) (s : q0P (txR t.id) ρ ρ' w w') (hx : TxM w' ρ' t' a') (hn : ∀ k, ρ' k = 3 → ρ k = 3) (hlo : ∀ k, ρ' k ≠ 0 → o ≤ k ∧ k < w'.heap.size) :
  RawB w' o p ρ' L (setT b t') ps B (setP P t.id a') rv hv := by
 have h1 : ¬ txR t.id 1 := by unfold txR; omega
 have h2 : ¬ txR t.id 2 := by unfold txR; omega
 have h3 : ¬ txR t.id 3 := by unfold txR; omega
 have h4 : ¬ txR t.id 4 := by unfold txR; omega
 have h5 : ¬ txR t.id 5 := by unfold txR; omega
 have h6 : ¬ txR t.id 6 := by unfold txR; omega
 obtain ⟨p1, p2⟩ := s.same p (q00 h.box) (by rw [h.rp]; omega) (by rw [h.rp]; exact h1)
 obtain ⟨b1, b2⟩ := s.same B h.live.lt (by rw [h.rB]; omega) (by rw [h.rB]; exact h2)
 refine ⟨p1.trans h.box, ?_, h.store.step s h3 hn, fun u hu => ?_, h.recs.step s h6 h4, h.hist.step s h6 h5, p2.trans h.rp, b2.trans h.rB, hlo⟩
 ·rw [← e]
  have el := qdv (l := b.live) (P := P) (t' := t') (a' := a') (by rw [hq, e])
  show MapK intK w' B (q2L (setT b t').live (setP P t'.id a'))
  unfold setT
  rw [el]
  exact h.live.keep b1
 ·rcases q3X hu with ⟨rfl, _⟩ | ⟨hu2, hne⟩
  ·rw [← e, q3K]
   exact hx
  ·rw [q6D _ (by omega)]
   exact (h.txs u hu2).step s h6 (by unfold txR; omega) (by unfold txR; omega)
theorem qb0 {n m r : Nat} : ∀ k, ownR (newR ρ n m r) k → ownR ρ k ∨ n ≤ k := fun k hk => by
 unfold ownR at *
 rcases q1b hk with ⟨h1, _, _⟩ | h1
 ·exact .inr h1
 ·exact .inl (by rw [← h1]; exact hk)
theorem ChF.spS {w : World} {lo hi : Nat} {A : Option Addr} {c : Nat} {l : List Sp} (h : ChF w lo hi A c l) {R : Nat → Prop} (hr : ∀ k, lo ≤ k → k < hi → R k) : SpS w R A c l :=
 ⟨h.1, h.2.1, h.2.2.1, fun hn => by
  obtain ⟨b, o, e, h1, h2, hc⟩ := h.2.2.2 hn
  exact ⟨b, o, e, hr b h1 h2, hc⟩⟩
theorem RawB.marked (h : RawB w o p ρ L b ps B P rv hv) (ht : t ∈ b.live) {wm : World} (hb : Below w.heap.size w wm) {A : Option Addr} {c : Nat} {m : List Sp} (hc : ChF wm w.heap.size wm.heap.size A c m) :
  RawB (wm.setCell ⟨(P t.id).q, 2, none⟩ (.slice A m.length c)) o p (newR ρ w.heap.size wm.heap.size 6) L (setT b ⟨t.id, t.began, t.start, m, t.ws⟩) ps B (setP P t.id ⟨(P t.id).q, (P t.id).m, A, c, (P t.id).ad⟩) rv hv := by
 have htx := h.txs t ht
 have hql := q00 htx.box
 have hqm : (P t.id).m ≠ (P t.id).q := fun e => by have h1 := htx.rq; have h2 := htx.rm; rw [e] at h2; omega
 have hsz : (wm.setCell ⟨(P t.id).q, 2, none⟩ (.slice A m.length c)).heap.size = wm.heap.size := by simp [World.setCell]
 have hfar : ∀ k, k ≠ (P t.id).q → (wm.setCell ⟨(P t.id).q, 2, none⟩ (.slice A m.length c)).heap[k]? = wm.heap[k]? := fun k hk => q0b hk _ _
 have s : q0P (txR t.id) ρ (newR ρ w.heap.size wm.heap.size 6) w (wm.setCell ⟨(P t.id).q, 2, none⟩ (.slice A m.length c)) := ⟨by rw [hsz]; exact hb.size, fun k h1 _ h3 => ⟨(hfar k (fun e => h3 (by rw [e, htx.rq]; exact .inl rfl))).trans (hb.block k h1), q1f h1⟩⟩
 have s' : q0P (fun n => n = 7 + 2 * t.id) ρ (newR ρ w.heap.size wm.heap.size 6) w (wm.setCell ⟨(P t.id).q, 2, none⟩ (.slice A m.length c)) := ⟨by rw [hsz]; exact hb.size, fun k h1 _ h3 => ⟨(hfar k (fun e => h3 (by rw [e]; exact htx.rq))).trans (hb.block k h1), q1f h1⟩⟩
 have hbx : wm.heap[(P t.id).q]? = some (.cells (qax t (P t.id)) 117 (0, 0)) := (hb.block _ hql).trans htx.box
 refine h.setTx (t' := ⟨t.id, t.began, t.start, m, t.ws⟩) (a' := ⟨(P t.id).q, (P t.id).m, A, c, (P t.id).ad⟩) ht rfl rfl s ⟨?_, ?_, ?_, fun x hx => (htx.dat x hx).keep (s'.dat (by omega)), ?_, ?_⟩ (fun k e => ?_) (fun k hk => ?_)
 ·exact q1o hbx 2 _
 ·have h1 : SpS wm (datR (newR ρ w.heap.size wm.heap.size 6)) A c m := hc.spS fun k g1 g2 => q5F g1 g2
  exact h1.keep fun g hg hl => ⟨hfar g (fun e => by
   have : newR ρ w.heap.size wm.heap.size 6 g = 6 := hg
   rw [e, q1f hql, htx.rq] at this
   omega), hg⟩
 ·exact htx.map.keep ((hfar _ hqm).trans (hb.block _ htx.map.lt))
 ·exact (q1f hql).trans htx.rq
 ·exact (q1f htx.map.lt).trans htx.rm
 ·rcases q1b (show newR ρ w.heap.size wm.heap.size 6 k ≠ 0 by rw [e]; omega) with ⟨_, _, h6⟩ | h6
  ·rw [h6] at e; omega
  ·rw [← h6]; exact e
 ·rw [hsz]
  rcases q1b hk with ⟨h1, h2, _⟩ | h6
  ·exact ⟨Nat.le_trans h.o_le h1, h2⟩
  ·have := h.lo k (by rw [← h6]; exact hk)
   exact ⟨this.1, Nat.lt_of_lt_of_le this.2 hb.size⟩
def q0X (w : World) (o p : Nat) (ρ : q0o) (L : LimT) (b' : q08) (ps B : Nat) (P : Nat → TxP) (rv hv : Value) (w' : World) : Prop :=
 ∃ ρ' P', RawB w' o p ρ' L b' ps B P' rv hv ∧ Mut (ownR ρ) w w' ∧ (∀ k, ownR ρ' k → ownR ρ k ∨ w.heap.size ≤ k) ∧ (∀ i, (P' i).q = (P i).q ∧ (P' i).m = (P i).m) ∧ q0P (fun n => 7 ≤ n) ρ ρ' w w' ∧ ∀ k, ρ' k ≠ 6 → ρ' k = ρ k
theorem q52 (h : RawB w o p ρ L b ps B P rv hv) (ht : t ∈ b.live) (s : Sp) (hl : t.marks.length ≤ 998) (hm1 : 1 ≤ L.marks) (hm2 : L.marks ≤ 1048576) :
  Calls Tryz.prog 78 #[ptrS (P t.id).q, q0T s, .int .i64 L.marks] w fun r w' => r = .returned (.tuple #[]) ∧ q0X w o p ρ L (setT b (q36 (FT L) t s)) ps B P rv hv w' := by
 obtain ⟨sl, sh⟩ := s
 unfold q0T
 simp only
 obtain ⟨w1, hw1⟩ : ∃ y, w.alloc (.cells #[.string (bs sl), .string (bs sh)] 131) = y := ⟨_, rfl⟩
 have hb1 : Below w.heap.size w w1 := by rw [← hw1]; exact (Below.refl _ w).alloc (Nat.le_refl _) _
 have hx1 : w1.heap[w.heap.size]? = some (.cells #[.string (bs sl), .string (bs sh)] 131 (0, 0)) := by rw [← hw1]; exact heap_alloc_new w _
 have c2 := ((h.below hb1).txs t ht).marks_
 have htx := h.txs t ht
 have hql := q00 htx.box
 have HAdd : Hid (∀ W : World, Below w1.heap.size w1 W → Calls Tryz.prog 122 #[.slice (P t.id).A t.marks.length (P t.id).c, .agg #[.string (bs sl), .string (bs sh)]] W fun r w' => ∃ A c, r = .returned (.slice A (q0a (t.marks ++ [⟨sl, sh⟩])).length c) ∧ ChI w' w'.heap.size A c (q0a (t.marks ++ [⟨sl, sh⟩])) ∧ Below w1.heap.size w1 w') :=
  qh fun W hb => (qaI t.marks ⟨sl, sh⟩ (P t.id).A (P t.id).c W (by unfold okI; omega) ((h.below (hb1.trans (hb.mono hb1.size))).txs t ht).marks.ch).mono fun _ _ ⟨A, c, e, h1, h2⟩ => ⟨A, c, e, h1, hb.trans (h2.mono hb.size)⟩
 have hadd : fitI L.marks (q0a (q0a (t.marks ++ [⟨sl, sh⟩]))) = addF (FT L) t.marks ⟨sl, sh⟩ := by unfold addF FT; rfl
 have hjl : (q0a (t.marks ++ [⟨sl, sh⟩])).length ≤ 999 := by
  have := q1u (t.marks ++ [⟨sl, sh⟩])
  rw [List.length_append] at this
  simp only [List.length_cons, List.length_nil] at this
  omega
 have HFit : Hid (∀ (W : World) (A : Option Addr) (c : Nat), Below w1.heap.size w1 W → ChI W W.heap.size A c (q0a (t.marks ++ [⟨sl, sh⟩])) → Calls Tryz.prog 121 #[.slice A (q0a (t.marks ++ [⟨sl, sh⟩])).length c, .int .i64 L.marks] W fun r w' => ∃ A' c', r = .returned (.slice A' (addF (FT L) t.marks ⟨sl, sh⟩).length c') ∧ ChF w' w.heap.size w'.heap.size A' c' (addF (FT L) t.marks ⟨sl, sh⟩) ∧ Below w1.heap.size w1 w') :=
  qh fun W A c hb hc => by
   have q := q3x (q0a (t.marks ++ [⟨sl, sh⟩])) A c L.marks W (by unfold okI; omega) (by omega) (by omega) hc
   rw [hadd] at q
   exact q.mono fun _ _ ⟨A', c', e, h1, h2⟩ => ⟨A', c', e, h1.lower (Nat.le_trans hb1.size hb.size), hb.trans (h2.mono hb.size)⟩
 have HFin : Hid (∀ (wm : World) (A : Option Addr) (c : Nat), Below w.heap.size w wm → ChF wm w.heap.size wm.heap.size A c (addF (FT L) t.marks ⟨sl, sh⟩) → q0X w o p ρ L (setT b (q36 (FT L) t ⟨sl, sh⟩)) ps B P rv hv (wm.setCell ⟨(P t.id).q, 2, none⟩ (.slice A (addF (FT L) t.marks ⟨sl, sh⟩).length c))) := qh fun wm A c hb hc => by
  refine ⟨newR ρ w.heap.size wm.heap.size 6, setP P t.id ⟨(P t.id).q, (P t.id).m, A, c, (P t.id).ad⟩, h.marked ht hb hc, ?_, qb0, fun i => ?_, ?_, fun k hk => ?_⟩
  ·refine (q0t (ownR ρ) hb).trans (q1U (F := ownR ρ) wm ?_ 2 _) fun _ q => .inl q
   unfold ownR
   rw [htx.rq]
   omega
  ·by_cases e : i = t.id
   ·rw [e, q3K]; exact ⟨rfl, rfl⟩
   ·rw [q6D _ e]; exact ⟨rfl, rfl⟩
  ·exact ⟨by simp [World.setCell]; exact hb.size, fun k h1 _ h3 => ⟨(q0b (fun e => h3 (by rw [e, htx.rq]; omega)) _ _).trans (hb.block k h1), q1f h1⟩⟩
  ·unfold newR at *
   split
   ·rename_i e
    rw [if_pos e] at hk
    exact absurd rfl hk
   ·rfl
 obtain ⟨S, hS1, hS2, hS3⟩ : ∃ S : World → Prop, (∀ W : World, Below w1.heap.size w1 W → S W) ∧ (∀ (W : World) (v : Value), Below w1.heap.size w1 W → S (W.setCell ⟨(P t.id).q, 2, none⟩ v)) ∧ ∀ W : World, S W → W.cell? ⟨w.heap.size, 0, none⟩ = some (.string (bs sl)) ∧ W.cell? ⟨w.heap.size, 1, none⟩ = some (.string (bs sh)) := by
  refine ⟨fun W => W.heap[w.heap.size]? = some (.cells #[.string (bs sl), .string (bs sh)] 131 (0, 0)), fun W hb => q01 hx1 hb (q00 hx1), fun W v hb => ?_, fun W hx => ?_⟩
  ·show (W.setCell _ v).heap[w.heap.size]? = _
   rw [q0b (by omega)]
   exact q01 hx1 hb (q00 hx1)
  ·refine ⟨?_, ?_⟩ <;> rw [cell_of_row W _ _ _ _ _ hx] <;> rfl
 have hfz : ∀ W : World, Below w.heap.size w W → W.frozen? ⟨(P t.id).q, 2, none⟩ = false ∧ W.cell? ⟨(P t.id).q, 2, none⟩ = some (.slice (P t.id).A t.marks.length (P t.id).c) := fun W hb => ⟨((h.below hb).txs t ht).frozen 2, ((h.below hb).txs t ht).marks_⟩
 have HFz := qh hfz
 have HKp := qh hS1
 have HKs := qh hS2
 have HRd := qh hS3
 have HB1 := qh hb1
 have HW1 := qh hw1
 generalize addF (FT L) t.marks ⟨sl, sh⟩ = M at *
 generalize q0a (t.marks ++ [⟨sl, sh⟩]) = J at *
 clear hadd h ht hl hm1 hm2 hb1 hx1 hw1 htx hql hjl hS1 hS2 hS3 hfz
 have HSub : Hid (∀ W : World, Below w1.heap.size w1 W → Below w.heap.size w W) := qh fun W hb => HB1.out.trans (hb.mono HB1.out.size)
 unfold ptrS
 go_enter Tryz.func78, Tryz.ntmps78
 go_upto_region 1 with fail
 rw [HW1.out]
 refine wp_region_held_drew (S := S) (by kernel_rfl) ?_ (fun hGd => ?_)
 ·exact HKp.out _ (Below.refl _ _).drew
 refine tkS (i := 0) (v := ?_) ?_
 (try simp only [Act.put, qA, qB, qC])
 refine tkS (i := 1) (v := ?_) ?_
 (try simp only [Act.put, qA, qB, qC])
 refine tkS (i := 2) (v := ?_) ?_
 (try simp only [Act.put, qA, qB, qC])
 refine tkS (i := 3) (v := ?_) ?_
 (try simp only [Act.put, qA, qB, qC])
 refine tkH (i := 5) (v := ?_) (fun w hSw => ?_) ?_
 rotate_left
 ·obtain ⟨z0, z1⟩ := HRd.out _ hSw; go_simp <;> with_reducible rfl
 (try simp only [Act.put, qA, qB, qC])
 refine tkS (i := 7) (v := ?_) ?_
 (try simp only [Act.put, qA, qB, qC])
 refine stH (i := 4) (fun K' hK => ?_)
 go_simp
 (first | (refine hK.out _ _ ?_ (fun hG2 => ?_)) | (go_wp2_with fail; refine hK.out _ _ ?_ (fun hG2 => ?_)))
 ·exact HKp.out _ (Below.refl _ _).drew
 clear hK K' hGd
 have hGd := hG2
 clear hG2
 (try simp only [Act.put, qA, qB, qC])
 refine stH (i := 6) (fun K' hK => ?_)
 go_simp
 go_at_call 122; with_reducible refine (HAdd.out _ (Below.refl _ _).drew).mono ?_; rintro r w3 ⟨A3, c3, rfl, h3, hb3⟩
 (first | (refine hK.out _ _ ?_ (fun hG2 => ?_)) | (go_wp2_with fail; refine hK.out _ _ ?_ (fun hG2 => ?_)))
 ·exact HKp.out _ hb3
 clear hK K' hGd
 have hGd := hG2
 clear hG2
 (try simp only [Act.put, qA, qB, qC])
 refine stH (i := 8) (fun K' hK => ?_)
 go_simp
 go_at_call 121; with_reducible refine (HFit.out _ _ _ hb3 h3).mono ?_; rintro r w4 ⟨A4, c4, rfl, h4, hb4⟩
 (first | (refine hK.out _ _ ?_ (fun hG2 => ?_)) | (go_wp2_with fail; refine hK.out _ _ ?_ (fun hG2 => ?_)))
 ·exact HKp.out _ hb4
 clear hK K' hGd
 have hGd := hG2
 clear hG2
 (try simp only [Act.put, qA, qB, qC])
 refine tkS (i := 9) (v := ?_) ?_
 (try simp only [Act.put, qA, qB, qC])
 refine tkS (i := 10) (v := ?_) ?_
 (try simp only [Act.put, qA, qB, qC])
 obtain ⟨f2, g2⟩ := HFz.out _ (HSub.out _ hb4)
 refine stH (i := 11) (fun K' hK => ?_)
 go_simp
 (first | (refine hK.out _ _ ?_ (fun hG2 => ?_)) | (go_wp2_with fail; refine hK.out _ _ ?_ (fun hG2 => ?_)))
 ·exact HKs.out _ _ hb4
 clear hK K' hGd
 have hGd := hG2
 clear hG2
 (try simp only [Act.put, qA, qB, qC])
 refine wpAnyH_done (by kernel_rfl) ?_ _
 go_wp2_with fail
 go_end0
 exact ⟨rfl, HFin.out _ _ _ (HSub.out _ hb4) h4⟩
end
open Go.RowKit
section
variable {w w' : World} {o p : Nat} {ρ ρ' : q0o} {L : LimT} {b b' : q08} {ps B : Nat} {P : Nat → TxP} {rv hv : Value} {F F' : Nat → Prop} {t t' : TxS}
theorem qfL (w : World) : (zeroValue 37).run Tryz.prog w = .ok (.agg #[.string ⟨#[]⟩, .bool false, .slice none 0 0]) w := by kernel_rfl
theorem TxM.look {a : TxP} (h : TxM w ρ t a) (key : KeyS) : (Instr.lookup 115 (.map (some a.m)) (.string (bs key)) true).run Tryz.prog w = .ok (.tuple #[(wrF t.ws a.ad key).getD (.agg #[.string ⟨#[]⟩, .bool false, .slice none 0 0]), .bool (wrF t.ws a.ad key).isSome]) w := by
 have e := MapK.look (P := Tryz.prog) (t := 115) (kt := 9) (et := 37) h.map Tryz.underlying115 Tryz.underlying9 (qfL w) true key
 simp only [strK, keyV] at e
 rw [e]
 rfl
theorem SlI.byS {w : World} {lo hi : Nat} {A : Option Addr} {c : Nat} {d : List UInt8} (h : SlI w lo hi A c d) {R : Nat → Prop} (hr : ∀ k, lo ≤ k → k < hi → R k) : ByS w R A c d := ⟨h.1, h.2.1, h.2.2.1, RdS.of_rd h.2.2.2 hr⟩
theorem ByS.res {A : Option Addr} {c : Nat} {d : List UInt8} (h : ByS w' (fun k => w.heap.size ≤ k ∧ ¬ F' k) A c d) : ByS w' (ResT F' o w) A c d := h.keep fun _ hg _ => ⟨rfl, .inr (.inr hg.1)⟩
theorem qgX (x : Wr) (A : Option Addr) (c : Nat) : q4o x A c = .agg #[.string (bs x.key), .bool x.gone, .slice A x.dat.length c] := rfl
theorem q4P {α : Type} (f : α → Nat) : ∀ {l : List α} {x : α}, x ∈ l → f x ≤ (l.map f).sum
 | y :: l, x, h => by
  rw [List.map_cons, List.sum_cons]
  rcases List.mem_cons.1 h with rfl | h
  ·omega
  ·have := q4P f h
   omega
theorem q81 (h : q0L b) (ht : t ∈ b.live) : t.marks.length ≤ 330 ∧ t.ws.length ≤ 330 ∧ ∀ x ∈ t.ws, q2q x := by
 have h1 := h.1
 unfold WgtT at h1
 have h2 : wTx t ≤ (b.live.map wTx).sum := q4P wTx ht
 have h3 : wTx t = 3 * (1 + t.marks.length + t.ws.length) := rfl
 exact ⟨by omega, by omega, h.2 t ht⟩
theorem q76 (h : StT o w p F L b) (hsm : q0L b) (id : Int) (key : KeyS) (hk : key.length ≤ 300) :
  Calls Tryz.prog 38 #[ptrS p, .int .i64 id, .string (bs key)] w fun r w' => ∃ A c F', r = .returned (.tuple #[.slice A (q16 (FT L) b id key).2.b.length c, .bool (q16 (FT L) b id key).2.is, .int .i64 (q16 (FT L) b id key).2.e]) ∧
   ByS w' (fun k => w.heap.size ≤ k ∧ ¬ F' k) A c (q16 (FT L) b id key).2.b ∧ q2b StT o w p F L (q16 (FT L) b id key).1 w' F' := by
 have hst := h
 obtain ⟨ρ, ps, B, P, rv, hv, rfl, hraw, hok, hri, hm⟩ := h
 have HFd := qh (q33 hraw id)
 have HSt := qh hst
 cases hf : ofT b id with
 | none =>
  have HE := qh (show q16 (FT L) b id key = (b, errT 4) by unfold q16; rw [hf])
  unfold q2u at HFd
  rw [hf] at HFd
  simp only at HFd
  clear hst hraw hok hri hm hsm hf
  unfold ptrS at HFd ⊢
  go_enter Tryz.func38, Tryz.ntmps38
  go_wp2_with fail
  refine HFd.out.mono ?_
  rintro e w' ⟨rfl, rfl⟩
  go_wp2
  go_ret3
  rw [HE.out]
  exact ⟨none, 0, ownR ρ, rfl, ByS.none_ _ _, HSt.out, Mut.refl _ _, fun _ h => .inl h⟩
 | some t =>
  obtain ⟨ht, hid⟩ := q1z hf
  have htx := hraw.txs t ht
  have hlk := htx.look key
  have c3 := htx.map_
  have hrise := q7U (hok.ws t ht)
  unfold q2u at HFd
  rw [hf] at HFd
  simp only at HFd
  cases hw : t.ws.find? (fun x => x.key == key) with
  | some x =>
   have hx := q21 hrise |>.1 hw
   have HE := qh (show q16 (FT L) b id key = (b, ⟨0, 0, x.dat, !x.gone, []⟩) by unfold q16; rw [hf]; simp only; rw [hw])
   have hxs := (q81 hsm ht).2.2 x hx.1
   have hdat := htx.dat x hx.1
   unfold wrF at hlk
   rw [hw] at hlk
   simp only [Option.map_some, Option.getD_some, Option.isSome_some, qgX] at hlk
   obtain ⟨xk, xg, xd⟩ := x
   simp only at hlk hdat HE hxs
   obtain ⟨w1, hw1⟩ : ∃ y, w.alloc (.cells #[.string (bs xk), .bool xg, .slice ((P t.id).ad xk).1 xd.length ((P t.id).ad xk).2] 37) = y := ⟨_, rfl⟩
   have hb1 : Below w.heap.size w w1 := by rw [← hw1]; exact (Below.refl _ w).alloc (Nat.le_refl _) _
   have hx1 : w1.heap[w.heap.size]? = some (.cells #[.string (bs xk), .bool xg, .slice ((P t.id).ad xk).1 xd.length ((P t.id).ad xk).2] 37 (0, 0)) := by rw [← hw1]; exact heap_alloc_new w _
   have HW1 := qh hw1
   have HB1 := qh hb1
   have HCl : Hid (∀ W : World, Below w1.heap.size w1 W → Calls Tryz.prog 77 #[.slice ((P t.id).ad xk).1 xd.length ((P t.id).ad xk).2] W fun e w' => ∃ A' c', e = .returned (.slice A' xd.length c') ∧ SlI w' w1.heap.size w'.heap.size A' c' xd ∧ Below w1.heap.size w1 w') := qh fun W hb => by
    have hbb := hb1.trans (hb.mono hb1.size)
    have hd := hdat.keep (w' := W) (T := datR ρ) fun g hg hl => ⟨hbb.block g hl, hg⟩
    exact (q1S xd _ _ W.heap.size W (show xd.length ≤ 4294967296 from Nat.le_trans hxs.2 (by omega)) hd.sl.sl (Nat.le_refl _)).mono fun _ _ ⟨A', c', e, h1, h2⟩ => ⟨A', c', e, h1.wide hb.size (Nat.le_refl _), hb.trans (h2.mono hb.size)⟩
   obtain ⟨S, hS1, hS2⟩ : ∃ S : World → Prop, (∀ W : World, Below w1.heap.size w1 W → S W) ∧ ∀ W : World, S W → W.cell? ⟨w.heap.size, 1, none⟩ = some (.bool xg) ∧ W.cell? ⟨w.heap.size, 2, none⟩ = some (.slice ((P t.id).ad xk).1 xd.length ((P t.id).ad xk).2) := by
    refine ⟨fun W => Below w1.heap.size w1 W, fun _ hb => hb, fun W hb => ?_⟩
    have hx := q01 hx1 hb (q00 hx1)
    refine ⟨?_, ?_⟩ <;> rw [cell_of_row W _ _ _ _ _ hx] <;> rfl
   have HKp := qh hS1
   have HRd := qh hS2
   have HLo := qh (fun k (hk : ownR ρ k) => (hraw.lo k hk).2)
   clear hst hraw hok hri hm hsm hf htx hrise hw hx hxs hdat hw1 hb1 hS1 hS2 hx1 ht hid
   unfold ptrS at HFd ⊢
   go_enter Tryz.func38, Tryz.ntmps38
   go_wp2_with fail
   refine HFd.out.mono ?_
   rintro e w' ⟨rfl, rfl⟩
   go_upto_region 6 with fail
   rw [HW1.out]
   refine wp_region_held_drew (S := S) (by kernel_rfl) ?_ (fun hGd => ?_)
   ·exact HKp.out _ (Below.refl _ _).drew
   refine tkS (i := 0) (v := ?_) ?_
   (try simp only [Act.put, qA, qB, qC])
   refine tkH (i := 1) (v := ?_) (fun w hSw => ?_) ?_
   rotate_left
   ·obtain ⟨z1, z2⟩ := HRd.out _ hSw; go_simp <;> with_reducible rfl
   (try simp only [Act.put, qA, qB, qC])
   refine tkS (i := 3) (v := ?_) ?_
   (try simp only [Act.put, qA, qB, qC])
   refine tkH (i := 4) (v := ?_) (fun w hSw => ?_) ?_
   rotate_left
   ·obtain ⟨z1, z2⟩ := HRd.out _ hSw; go_simp <;> with_reducible rfl
   (try simp only [Act.put, qA, qB, qC])
   refine tkS (i := 5) (v := ?_) ?_
   (try simp only [Act.put, qA, qB, qC])
   refine stH (i := 2) (fun K' hK => ?_)
   go_simp
   go_at_call 77; with_reducible refine (HCl.out _ (Below.refl _ _).drew).mono ?_; rintro r w3 ⟨A3, c3, rfl, h3, hb3⟩
   (first | (refine hK.out _ _ ?_ (fun hG2 => ?_)) | (go_wp2_with fail; refine hK.out _ _ ?_ (fun hG2 => ?_)))
   ·exact HKp.out _ hb3
   clear hK K' hGd
   have hGd := hG2
   clear hG2
   (try simp only [Act.put, qA, qB, qC])
   refine tkS (i := 6) (v := ?_) ?_
   (try simp only [Act.put, qA, qB, qC])
   refine tkS (i := 7) (v := ?_) ?_
   (try simp only [Act.put, qA, qB, qC])
   refine tkS (i := 8) (v := ?_) ?_
   (try simp only [Act.put, qA, qB, qC])
   refine wpAnyH_done (by kernel_rfl) ?_ _
   go_wp2_with fail
   go_ret3
   have hbb := HB1.out.trans (hb3.mono HB1.out.size)
   rw [HE.out]
   exact ⟨A3, c3, ownR ρ, rfl, h3.byS fun k g1 g2 => ⟨by have := HB1.out.size; omega, fun q => by have := HLo.out k q; have := HB1.out.size; omega⟩, HSt.out.keep (fun k hk => hbb.block k (HLo.out k hk)) hbb.size, q0t _ hbb, fun _ h => .inl h⟩
  | none =>
   have HE := qh (show q16 (FT L) b id key = (setT b (q36 (FT L) t (q0j key)), ⟨0, 0, (q1v b.st.K key t.began).getD [], (q1v b.st.K key t.began).isSome, []⟩) by unfold q16; rw [hf]; simp only; rw [hw])
   unfold wrF at hlk
   rw [hw] at hlk
   simp only [Option.map_none, Option.getD_none, Option.isSome_none] at hlk
   have hmk := q3E hm
   obtain ⟨w1, hw1⟩ : ∃ y, w.alloc (.cells #[.string ⟨#[]⟩, .bool false, .slice none 0 0] 37) = y := ⟨_, rfl⟩
   have hb1 : Below w.heap.size w w1 := by rw [← hw1]; exact (Below.refl _ w).alloc (Nat.le_refl _) _
   have HW1 := qh hw1
   have HB1 := qh hb1
   have HPt : Hid (∀ W : World, Below w.heap.size w W → Calls Tryz.prog 79 #[.string (bs key)] W fun r w' => r = .returned (q0T (q0j key)) ∧ Below w.heap.size w w') :=
    qh fun W hb => (q3Q key W (by omega)).mono fun _ _ q => ⟨q.1, hb.trans (q.2.mono hb.size)⟩
   have HMk : Hid (∀ W : World, Below w.heap.size w W → Calls Tryz.prog 78 #[ptrS (P t.id).q, q0T (q0j key), .int .i64 L.marks] W fun r w' => r = .returned (.tuple #[]) ∧ q0X W o p ρ L (setT b (q36 (FT L) t (q0j key))) ps B P rv hv w') :=
    qh fun W hb => q52 (hraw.below hb) ht (q0j key) (by have := (q81 hsm ht).1; omega) hmk.2.1 hmk.2.2.1
   obtain ⟨S, hS1, hS2, hS3⟩ : ∃ S : World → Prop, (∀ W : World, Below w.heap.size w W → S W) ∧ (∀ (W w' : World) (b' : q08), q0X W o p ρ L b' ps B P rv hv w' → S w') ∧ ∀ W : World, S W → W.cell? ⟨p, 3, none⟩ = some (.int .i64 L.marks) := by
    refine ⟨fun W => W.cell? ⟨p, 3, none⟩ = some (.int .i64 L.marks), fun W hb => (hraw.below hb).marksL, fun W w' b' ht => ?_, fun _ h => h⟩
    obtain ⟨ρ', P', h1, _⟩ := ht
    exact h1.marksL
   have HKp := qh hS1
   have HKt := qh hS2
   have HRd := qh hS3
   have HOwn := qh (fun k (hk : ownR ρ k) => (hraw.lo k hk).2)
   have HTb := qh (show t.began < 18446744073709551616 from Nat.lt_of_le_of_lt (hok.began t ht) hraw.time_lt)
   have HMem : Hid (∃ t' ∈ (setT b (q36 (FT L) t (q0j key))).live, t'.id = t.id ∧ t'.began = t.began) := qh ⟨q36 (FT L) t (q0j key), by
    unfold setT
    exact List.mem_map.2 ⟨t, ht, if_pos rfl⟩, rfl, rfl⟩
   clear hst hraw hok hri hm hsm hf htx hrise hw hw1 hb1 hS1 hS2 hS3 ht hid hmk
   unfold ptrS at HFd HMk ⊢
   go_enter Tryz.func38, Tryz.ntmps38
   go_wp2_with fail
   refine HFd.out.mono ?_
   rintro e w' ⟨rfl, rfl⟩
   go_upto_region 7 with fail
   rw [HW1.out]
   refine wp_region_held_drew (S := S) (by kernel_rfl) ?_ (fun hGd => ?_)
   ·exact HKp.out _ HB1.out.drew
   refine tkS (i := 0) (v := ?_) ?_
   (try simp only [Act.put, qA, qB, qC])
   refine tkS (i := 1) (v := ?_) ?_
   (try simp only [Act.put, qA, qB, qC])
   refine tkS (i := 3) (v := ?_) ?_
   (try simp only [Act.put, qA, qB, qC])
   refine tkS (i := 4) (v := ?_) ?_
   (try simp only [Act.put, qA, qB, qC])
   refine tkS (i := 5) (v := ?_) ?_
   (try simp only [Act.put, qA, qB, qC])
   refine tkS (i := 6) (v := ?_) ?_
   (try simp only [Act.put, qA, qB, qC])
   refine tkH (i := 7) (v := ?_) (fun w hSw => ?_) ?_
   rotate_left
   ·have z3 := HRd.out _ hSw; go_simp <;> with_reducible rfl
   (try simp only [Act.put, qA, qB, qC])
   refine stH (i := 2) (fun K' hK => ?_)
   go_simp
   go_at_call 79; with_reducible refine (HPt.out _ HB1.out.drew).mono ?_; rintro r w3 ⟨rfl, hb3⟩
   (first | (refine hK.out _ _ ?_ (fun hG2 => ?_)) | (go_wp2_with fail; refine hK.out _ _ ?_ (fun hG2 => ?_)))
   ·exact HKp.out _ hb3
   clear hK K' hGd
   have hGd := hG2
   clear hG2
   (try simp only [Act.put, qA, qB, qC])
   refine stH (i := 8) (fun K' hK => ?_)
   go_simp
   go_at_call 78; with_reducible refine (HMk.out _ hb3).mono ?_; rintro r w4 ⟨rfl, ht4⟩
   (first | (refine hK.out _ _ ?_ (fun hG2 => ?_)) | (go_wp2_with fail; refine hK.out _ _ ?_ (fun hG2 => ?_)))
   ·exact HKt.out _ _ _ ht4
   clear hK K' hGd
   have hGd := hG2
   clear hG2
   (try simp only [Act.put, qA, qB, qC])
   refine wpAnyH_done (by kernel_rfl) ?_ _
   obtain ⟨ρ4, P4, hraw4, hm4, ho4, hp4, _⟩ := ht4
   obtain ⟨t4, ht4, e4, b4⟩ := HMem.out
   have c0 := (hraw4.txs t4 ht4).began_
   rw [e4, (hp4 t.id).1, b4] at c0
   have HRd4 : Hid (∀ W : World, Below w4.heap.size w4 W → Calls Tryz.prog 80 #[ptrS ps, .string (bs key), .int .u64 (t.began : Nat)] W fun r w' => ∃ A c, r = .returned (.tuple #[.slice A ((q1v b.st.K key t.began).getD []).length c, .bool (q1v b.st.K key t.began).isSome]) ∧ SlI w' w4.heap.size w'.heap.size A c ((q1v b.st.K key t.began).getD []) ∧ Below w4.heap.size w4 w') :=
    qh fun W hb => (q1Y.read ps _ _ _ key t.began W (hraw4.below hb).store (by omega) HTb.out).mono fun _ _ ⟨A, c, e, h1, h2⟩ => ⟨A, c, e, h1.wide hb.size (Nat.le_refl _), hb.trans (h2.mono hb.size)⟩
   obtain ⟨S4, hS41, hS42⟩ : ∃ S : World → Prop, (∀ W : World, Below w4.heap.size w4 W → S W) ∧ ∀ W : World, S W → W.cell? ⟨p, 7, none⟩ = some (ptrS ps) ∧ W.cell? ⟨(P t.id).q, 0, none⟩ = some (.int .u64 (t.began : Nat)) := by
    refine ⟨fun W => Below w4.heap.size w4 W, fun _ hb => hb, fun W hb => ⟨(hraw4.below hb).store_, ?_⟩⟩
    have c0' := ((hraw4.below hb).txs t4 ht4).began_
    rwa [e4, (hp4 t.id).1, b4] at c0'
   have HKp4 := qh hS41
   have HRc4 := qh hS42
   have HRaw4 := qh hraw4
   have HM4 := qh hm4
   have HO4 := qh ho4
   clear hS41 hS42 hraw4 hm4 ho4 hp4 c0 ht4 e4 b4 hGd
   unfold ptrS at HRd4 HRc4
   go_upto_region 8 with fail
   refine wp_region_held_drew (S := S4) (by kernel_rfl) ?_ (fun hGd => ?_)
   ·exact HKp4.out _ (Below.refl _ _).drew
   refine tkS (i := 0) (v := ?_) ?_
   (try simp only [Act.put, qA, qB, qC])
   refine tkS (i := 1) (v := ?_) ?_
   (try simp only [Act.put, qA, qB, qC])
   refine tkS (i := 2) (v := ?_) ?_
   (try simp only [Act.put, qA, qB, qC])
   refine tkH (i := 3) (v := ?_) (fun w hSw => ?_) ?_
   rotate_left
   ·obtain ⟨z7, z0⟩ := HRc4.out _ hSw; go_simp <;> with_reducible rfl
   (try simp only [Act.put, qA, qB, qC])
   refine tkS (i := 4) (v := ?_) ?_
   (try simp only [Act.put, qA, qB, qC])
   refine tkS (i := 5) (v := ?_) ?_
   (try simp only [Act.put, qA, qB, qC])
   refine tkS (i := 6) (v := ?_) ?_
   (try simp only [Act.put, qA, qB, qC])
   refine tkS (i := 7) (v := ?_) ?_
   (try simp only [Act.put, qA, qB, qC])
   refine tkH (i := 8) (v := ?_) (fun w hSw => ?_) ?_
   rotate_left
   ·obtain ⟨z7, z0⟩ := HRc4.out _ hSw; go_simp <;> with_reducible rfl
   (try simp only [Act.put, qA, qB, qC])
   refine stH (i := 9) (fun K' hK => ?_)
   go_simp
   go_at_call 80; with_reducible refine (HRd4.out _ (Below.refl _ _).drew).mono ?_; rintro r w5 ⟨A5, c5, rfl, h5, hb5⟩
   (first | (refine hK.out _ _ ?_ (fun hG2 => ?_)) | (go_wp2_with fail; refine hK.out _ _ ?_ (fun hG2 => ?_)))
   ·exact HKp4.out _ hb5
   clear hK K' hGd
   have hGd := hG2
   clear hG2
   (try simp only [Act.put, qA, qB, qC])
   refine tkS (i := 10) (v := ?_) ?_
   (try simp only [Act.put, qA, qB, qC])
   refine tkS (i := 11) (v := ?_) ?_
   (try simp only [Act.put, qA, qB, qC])
   refine tkS (i := 12) (v := ?_) ?_
   (try simp only [Act.put, qA, qB, qC])
   refine tkS (i := 13) (v := ?_) ?_
   (try simp only [Act.put, qA, qB, qC])
   refine tkS (i := 14) (v := ?_) ?_
   (try simp only [Act.put, qA, qB, qC])
   refine wpAnyH_done (by kernel_rfl) ?_ _
   go_wp2_with fail
   go_ret3
   have hs3 := hb3.size
   have hs4 := HM4.out.size
   have hraw5 := HRaw4.out.below hb5
   have hfin : StT o w5 p (ownR ρ4) L (q16 (FT L) b id key).1 := by
    refine StT.turn (op := ⟨1, id, ⟨key, false, []⟩, []⟩) HSt.out ⟨ρ4, ps, B, P4, rv, hv, rfl, ?_⟩
    show RawB w5 o p ρ4 L (q16 (FT L) b id key).1 ps B P4 rv hv
    rw [HE.out]
    exact hraw5
   rw [HE.out] at hfin ⊢
   refine ⟨A5, c5, ownR ρ4, rfl, h5.byS fun k g1 g2 => ⟨by omega, fun q => by have := (HRaw4.out.lo k q).2; omega⟩, ?_, ?_, fun k hk => ?_⟩
   ·exact hfin
   ·exact ((q0t _ hb3).trans HM4.out fun _ h => .inl h).trans (q0t (ownR ρ) hb5) fun _ h => .inl h
   ·rcases HO4.out k hk with q | q
    ·exact .inl q
    ·exact .inr (by omega)
end
end Go.Proofs.YtdpbllacfljmoaaGreat
