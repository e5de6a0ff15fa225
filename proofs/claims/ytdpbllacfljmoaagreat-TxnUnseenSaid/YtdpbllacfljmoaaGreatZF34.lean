import Derived.Test.YtdpbllacfljmoaaGreatZF27
import Derived.Test.YtdpbllacfljmoaaGreatZF11
set_option maxRecDepth 100000
set_option maxHeartbeats 16000000
set_option linter.unusedVariables false
namespace Go.Proofs.YtdpbllacfljmoaaGreat
open Go.RowKit
def setP (P : Nat → TxP) (i : Nat) (a : TxP) : Nat → TxP := fun j => if j = i then a else P j
theorem q3K (P : Nat → TxP) (i : Nat) (a : TxP) : setP P i a i = a := if_pos rfl
theorem q6D {P : Nat → TxP} {i j : Nat} (a : TxP) (h : j ≠ i) : setP P i a j = P j := if_neg h
theorem qbU {l : List TxS} {P : Nat → TxP} {t : TxS} (h : ∀ u ∈ l, u.id < t.id) (a : TxP) : q2L (l ++ [t]) (setP P t.id a) = updK (q2L l P) (t.id : Int) (some (ptrS a.q)) := funext fun id => by
 unfold q2L
 by_cases e : id = (t.id : Int)
 ·subst e
  rw [q2O, List.find?_append, List.find?_eq_none.2 (fun u hu => by
   have := h u hu
   simp only [decide_eq_true_iff]
   omega)]
  simp [q3K]
 ·rw [q4n _ e, List.find?_append]
  cases hf : l.find? (fun t => decide ((t.id : Int) = id)) with
  | none =>
   have e2 : ¬ (t.id : Int) = id := fun q => e q.symm
   simp [e2]
  | some u =>
   have hu := h u (List.mem_of_find?_eq_some hf)
   simp only [Option.some_or, Option.map_some]
   rw [q6D _ (by omega)]
section
variable {w w' : World} {o p : Nat} {ρ ρ' : q0o} {L : LimT} {b b' : q08} {ps B : Nat} {P : Nat → TxP} {rv hv : Value} {F F' : Nat → Prop}
theorem StT.keep (h : StT o w p F L b) (hk : ∀ k, F k → w'.heap[k]? = w.heap[k]?) (hs : w.heap.size ≤ w'.heap.size) : StT o w' p F L b := by
 obtain ⟨ρ, ps, B, P, rv, hv, rfl, hraw, h2⟩ := h
 exact ⟨ρ, ps, B, P, rv, hv, rfl, hraw.keep hk hs, h2⟩
theorem qeN {n e : Nat} (h : w.heap[p]? = some (.cells (boxB L ps B n e rv hv) 92 (0, 0))) (n' e' : Nat) :
  ((w.setCell ⟨p, 9, none⟩ (.int .i64 (n' : Nat))).setCell ⟨p, 10, none⟩ (.int .i64 (e' : Nat))).heap[p]? = some (.cells (boxB L ps B n' e' rv hv) 92 (0, 0)) := by
 exact q1o (q1o h 9 (.int .i64 (n' : Nat))) 10 (.int .i64 (e' : Nat))
def begR (ρ : q0o) (m q i : Nat) : q0o := fun k => if k = m then 8 + 2 * i else if k = q then 7 + 2 * i else ρ k
theorem RawB.begins (h : RawB w o p ρ L b ps B P rv hv) (hid : ∀ t ∈ b.live, t.id ≤ b.last) {m q : Nat} (hm : w.heap.size ≤ m) (hq : w.heap.size ≤ q) (hmq : m ≠ q) (hsz : w.heap.size ≤ w'.heap.size)
  (hb' : w'.heap[p]? = some (.cells (boxB L ps B (b.last + 1) (b.event + 1) rv hv) 92 (0, 0)))
  (hl : MapK intK w' B (updK (q2L b.live P) ((b.last + 1 : Nat) : Int) (some (ptrS q)))) (hk : ∀ k, k < w.heap.size → k ≠ p → k ≠ B → w'.heap[k]? = w.heap[k]?)
  (hx : w'.heap[q]? = some (.cells #[.int .u64 (b.st.time : Nat), .int .i64 ((b.event + 1 : Nat)), .slice none 0 0, .map (some m)] 117 (0, 0))) (hmm : MapK strK w' m fun _ => none) :
  RawB w' o p (begR ρ m q (b.last + 1)) L ⟨b.st, b.live ++ [⟨b.last + 1, b.st.time, b.event + 1, [], []⟩], b.recs, b.hist, b.last + 1, b.event + 1⟩ ps B (setP P (b.last + 1) ⟨q, m, none, 0, fun _ => (none, 0)⟩) rv hv := by
 have s : q0P (fun n => n = 1 ∨ n = 2) ρ (begR ρ m q (b.last + 1)) w w' := ⟨hsz, fun k h1 h2 h3 => by
  refine ⟨hk k h1 (fun e => h3 (.inl (by rw [e]; exact h.rp))) (fun e => h3 (.inr (by rw [e]; exact h.rB))), ?_⟩
  unfold begR
  rw [if_neg (by omega), if_neg (by omega)]⟩
 have hp := q00 h.box
 have hB := h.live.lt
 have rold : ∀ k, k < w.heap.size → begR ρ m q (b.last + 1) k = ρ k := fun k hk => by
  unfold begR
  rw [if_neg (by omega), if_neg (by omega)]
 refine ⟨hb', ?_, h.store.step s (by omega) (fun k e => ?_), fun t ht => ?_, h.recs.step s (by omega) (by omega), h.hist.step s (by omega) (by omega), (rold p hp).trans h.rp, (rold B hB).trans h.rB, fun k hk2 => ?_⟩
 ·have e := qbU (l := b.live) (P := P) (t := ⟨b.last + 1, b.st.time, b.event + 1, [], []⟩) (fun u hu => by have := hid u hu; simp only; omega) ⟨q, m, none, 0, fun _ => (none, 0)⟩
  simp only at e ⊢
  rw [e]
  exact hl
 ·unfold begR at e
  split at e
  ·omega
  ·split at e
   ·omega
   ·exact e
 ·simp only at ht
  rcases List.mem_append.1 ht with ht | ht
  ·have := hid t ht
   rw [q6D _ (by omega)]
   exact (h.txs t ht).step s (by omega) (by omega) (by omega)
  ·rw [List.mem_singleton] at ht
   subst ht
   simp only
   rw [q3K]
   refine ⟨hx, ⟨Nat.le_refl _, Nat.zero_le _, fun _ => rfl, fun hn => absurd hn (by simp)⟩, ?_, (fun x hx => by cases hx), ?_, ?_⟩
   ·exact hmm
   ·show begR ρ m q (b.last + 1) q = _
    unfold begR
    rw [if_neg (fun e => hmq e.symm), if_pos rfl]
   ·show begR ρ m q (b.last + 1) m = _
    unfold begR
    rw [if_pos rfl]
 ·by_cases e1 : k = m
  ·subst e1
   exact ⟨Nat.le_trans h.o_le hm, hmm.lt⟩
  ·by_cases e2 : k = q
   ·subst e2
    exact ⟨Nat.le_trans h.o_le hq, q00 hx⟩
   ·unfold begR at hk2
    rw [if_neg e1, if_neg e2] at hk2
    exact ⟨(h.lo k hk2).1, Nat.lt_of_lt_of_le (h.lo k hk2).2 hsz⟩
theorem qeG {m q i : Nat} (hm : w.heap.size ≤ m) (hq : w.heap.size ≤ q) : ∀ k, ownR (begR ρ m q i) k → ownR ρ k ∨ w.heap.size ≤ k := fun k hk => by
 unfold ownR begR at hk
 by_cases e1 : k = m
 ·exact .inr (by omega)
 ·by_cases e2 : k = q
  ·exact .inr (by omega)
  ·rw [if_neg e1, if_neg e2] at hk
   exact .inl hk
theorem RawB.len (h : RawB w o p ρ L b ps B P rv hv) (hi : IdsT b.live) (ty : TypeId) : (Builtin.len_ #[90] ty #[.map (some B)]).run Tryz.prog w = .ok (.int .i64 (b.live.length : Nat)) w := by
 obtain ⟨es, clock, hb, hr⟩ := h.live
 have hc : es.size = (b.live.map fun t => (t.id : Int)).length := hr.count (by
  unfold List.Nodup
  rw [List.pairwise_map]
  exact List.Pairwise.imp (fun h e => by omega) hi) fun k => by
  rw [List.mem_map]
  constructor
  ·rintro ⟨t, ht, rfl⟩
   exact q6o ht
  ·intro hs
   obtain ⟨v, hv⟩ := Option.isSome_iff_exists.1 hs
   obtain ⟨t, ht, e, _⟩ := q57 hv
   exact ⟨t, ht, e⟩
 rw [List.length_map] at hc
 rw [← hc]
 simp [Builtin.len_, run_underlying Tryz.underlying90, MapKept.run_getObj_map hb, goInt, Result.andThen]
theorem q9H (h : StT o w p F L b) (hsm : q0L b) : Calls Tryz.prog 37 #[ptrS p] w fun r w' => r = .returned (.tuple #[.int .i64 ((q0N L b).2.n : Nat), .int .i64 (q0N L b).2.e]) ∧ ∃ F', q2b StT o w p F L (q0N L b).1 w' F' := by
 have hst := h
 obtain ⟨ρ, ps, B, P, rv, hv, rfl, hraw, hok, hri, hm⟩ := h
 have hev : b.event ≤ 990 := by have := hsm.1; unfold WgtT at this; omega
 have hla : b.last ≤ 990 := by have := hsm.1; unfold WgtT at this; omega
 have hlv : b.live.length ≤ 64 := by
  have h1 := hok.few
  have h2 := (q3E hm).2.2.2.2.2.2
  omega
 have HM := qh (q18 hraw)
 have hlen := (hraw.below (Below.refl _ _).drew).len hok.ids
 have c5 := hraw.liveL
 have c8 := hraw.live_
 have k5 := (hraw.below (Below.refl _ _).drew).liveL
 have k8 := (hraw.below (Below.refl _ _).drew).live_
 have HRaw := qh hraw
 have HOk := qh hok
 have HSt := qh hst
 by_cases hf : L.live ≤ (b.live.length : Int)
 ·have HE := qh (qg4 hf)
  have d1 : decide (L.live ≤ (b.live.length : Int)) = true := by simpa using hf
  clear hst hraw hok hri hm hsm
  unfold ptrS at HM ⊢
  go_enter Tryz.func37, Tryz.ntmps37
  go_wp2_with fail
  refine HM.out.mono ?_
  rintro e w' ⟨rfl, rfl⟩
  go_wp2_with fail
  go_region
  go_wp2
  go_ret2
  rw [HE.out]
  exact ⟨rfl, ownR ρ, HSt.out.keep (fun _ _ => rfl) (Nat.le_refl _), q0t _ (Below.refl _ _).drew, fun _ h => .inl h⟩
 ·have d1 : decide (L.live ≤ (b.live.length : Int)) = false := by simpa using hf
  have HE := qh (show q0N L b = (⟨b.st, b.live ++ [⟨b.last + 1, b.st.time, b.event + 1, [], []⟩], b.recs, b.hist, b.last + 1, b.event + 1⟩, ⟨b.last + 1, 0, [], false, []⟩) by unfold q0N; rw [if_neg hf])
  obtain ⟨wd, hwd⟩ : ∃ y, w.drew = y := ⟨_, rfl⟩
  have hbd : Below w.heap.size w wd := by rw [← hwd]; exact (Below.refl _ _).drew
  have hrawd := hraw.below hbd
  have HWd := qh hwd
  have c9 := hrawd.begun_
  have c10 := hrawd.events_
  have f9 := hrawd.frozen 9
  have f10 := hrawd.frozen 10
  have e9 : IntKind.i64.wrap ((b.last : Int) + 1) = (b.last : Int) + 1 := IntWalk.i64_in _ ⟨by omega, by omega⟩
  have e10 : IntKind.i64.wrap ((b.event : Int) + 1) = (b.event : Int) + 1 := IntWalk.i64_in _ ⟨by omega, by omega⟩
  obtain ⟨w2, hw2⟩ : ∃ y, (wd.setCell ⟨p, 9, none⟩ (.int .i64 ((b.last : Int) + 1))).setCell ⟨p, 10, none⟩ (.int .i64 ((b.event : Int) + 1)) = y := ⟨_, rfl⟩
  have hx2 : w2.heap[p]? = some (.cells (boxB L ps B (b.last + 1) (b.event + 1) rv hv) 92 (0, 0)) := by rw [← hw2]; exact qeN hrawd.box _ _
  have hm2 : Mut (fun k => k = p) w w2 := by
   rw [← hw2]
   exact ((q0t (fun k => k = p) hbd).trans (q1U (F := fun k => k = p) wd rfl 9 _) fun _ h => .inl h).trans (q1U (F := fun k => k = p) _ rfl 10 _) fun _ h => .inl h
  have hs2 : w2.heap.size = w.heap.size := by rw [← hw2, ← hwd]; simp [World.setCell]
  have hB2 : w2.heap[B]? = w.heap[B]? := hm2.block B hraw.live.lt (fun e => by have h1 := hraw.rp; have h2 := hraw.rB; rw [e] at h2; omega)
  have hl2 : MapK intK w2 B (q2L b.live P) := hraw.live.keep hB2
  have hst2 : StD w2 ps (stoR ρ) L.s b.st := q1Y.keep hraw.store fun k hk => hm2.block k (q1Y.upto hraw.store k hk) (fun e => by have := hraw.rp; unfold stoR at hk; rw [e] at hk; omega)
  have HN : Hid (∀ W : World, Below w2.heap.size w2 W → Calls Tryz.prog 65 #[ptrS ps] W fun e w' => e = .returned (.int .u64 (b.st.time : Nat)) ∧ w' = W) :=
   qh fun W hb => (hst2.keep' hb).now
  have hplt := q00 hx2
  obtain ⟨S, hS1, hS2, hS3⟩ : ∃ S : World → Prop, (∀ W : World, Below w2.heap.size w2 W → S W) ∧ (∀ W W' : World, Below w2.heap.size w2 W → W.grownBy W' (some B) → S W') ∧ ∀ W : World, S W → W.cell? ⟨p, 7, none⟩ = some (ptrS ps) ∧ W.cell? ⟨p, 8, none⟩ = some (.map (some B)) ∧ W.cell? ⟨p, 9, none⟩ = some (.int .i64 ((b.last : Int) + 1)) ∧ W.cell? ⟨p, 10, none⟩ = some (.int .i64 ((b.event : Int) + 1)) := by
   have hc : ∀ W : World, W.heap[p]? = some (.cells (boxB L ps B (b.last + 1) (b.event + 1) rv hv) 92 (0, 0)) → W.cell? ⟨p, 7, none⟩ = some (ptrS ps) ∧ W.cell? ⟨p, 8, none⟩ = some (.map (some B)) ∧ W.cell? ⟨p, 9, none⟩ = some (.int .i64 ((b.last : Int) + 1)) ∧ W.cell? ⟨p, 10, none⟩ = some (.int .i64 ((b.event : Int) + 1)) := fun W hx => by
    refine ⟨?_, ?_, ?_, ?_⟩ <;> rw [cell_of_row W p _ _ _ _ hx] <;> rfl
   refine ⟨fun W => W.heap[p]? = some (.cells (boxB L ps B (b.last + 1) (b.event + 1) rv hv) 92 (0, 0)), fun W hb => q01 hx2 hb hplt, fun W W' hb hg => ?_, hc⟩
   have h1 := q01 hx2 hb hplt
   show W'.heap[p]? = _
   rw [hg.block p (q00 h1) (fun e => by injection e with e; have h1 := hraw.rp; have h2 := hraw.rB; rw [e] at h1; omega)]
   exact h1
  have HKp := qh hS1
  have HKg := qh hS2
  have HRd := qh hS3
  have HX2 := qh hx2
  have HM2 := qh hm2
  have HS2 := qh hs2
  have HL2 := qh hl2
  have HW2 := qh hw2
  have HFin : Hid (∀ w4 w5 : World, Below w2.heap.size w2 w4 → w4.heap[w2.heap.size + 1]? = some (.cells #[.int .u64 (b.st.time : Nat), .int .i64 ((b.event : Int) + 1), .slice none 0 0, .map (some w2.heap.size)] 117 (0, 0)) → MapK strK w4 w2.heap.size (fun _ => none) → w4.heap.size = w2.heap.size + 2 →
    MapK intK w5 B (updK (q2L b.live P) ((b.last : Int) + 1) (some (.pointer (some ⟨w2.heap.size + 1, 0, none⟩)))) → w4.grownBy w5 (some B) → w5.heap.size = w4.heap.size → w5.cell? ⟨p, 9, none⟩ = some (.int .i64 ((b.last : Int) + 1)) ∧ ∃ F', q2b StT o w p (ownR ρ) L (q0N L b).1 w5 F') := qh fun w4 w5 hb4 hq4 hm4 hs4 hl5 hg5 hs5 => by
   have hpB : p ≠ B := fun e => by have h1 := hraw.rp; have h2 := hraw.rB; rw [e] at h1; omega
   have hkk : ∀ k, k < w.heap.size → k ≠ p → k ≠ B → w5.heap[k]? = w.heap[k]? := fun k hk h1 h2 => (hg5.block k (by omega) (fun e => h2 (by injection e))).trans ((hb4.block k (by omega)).trans (hm2.block k hk h1))
   have hx5 : w5.heap[p]? = some (.cells (boxB L ps B (b.last + 1) (b.event + 1) rv hv) 92 (0, 0)) := (hg5.block p (by have := hb4.size; omega) (fun e => hpB (by injection e))).trans (q01 hx2 hb4 hplt)
   have hraw5 := hraw.begins (fun t ht => (hok.last t ht).2) (m := w2.heap.size) (q := w2.heap.size + 1) (by omega) (by omega) (by omega) (by omega) hx5 hl5 hkk ((hg5.block _ (by omega) (fun e => by have := hraw.live.lt; injection e with e; omega)).trans hq4) (hm4.keep (hg5.block _ (by omega) (fun e => by have := hraw.live.lt; injection e with e; omega)))
   have hmut : Mut (ownR ρ) w w5 := ⟨hg5.os.trans (hb4.os.trans hm2.os), hg5.tape.trans (hb4.tape.trans hm2.tape), hg5.output.trans (hb4.output.trans hm2.output), by omega, fun k hk hf => hkk k hk (fun e => hf (by unfold ownR; rw [e, hraw.rp]; omega)) (fun e => hf (by unfold ownR; rw [e, hraw.rB]; omega))⟩
   refine ⟨?_, ownR (begR ρ w2.heap.size (w2.heap.size + 1) (b.last + 1)), ?_, hmut, qeG (by omega) (by omega)⟩
   ·rw [cell_of_row w5 p 9 _ _ _ hx5]
    rfl
   ·refine StT.turn (op := ⟨0, 0, ⟨[], false, []⟩, []⟩) hst ⟨begR ρ w2.heap.size (w2.heap.size + 1) (b.last + 1), ps, B, setP P (b.last + 1) ⟨w2.heap.size + 1, w2.heap.size, none, 0, fun _ => (none, 0)⟩, rv, hv, rfl, ?_⟩
    show RawB w5 o p _ L (q0N L b).1 ps B _ rv hv
    rw [HE.out]
    exact hraw5
  have hmm := @run_makeMap Tryz.prog
  clear hst hraw hrawd hwd hbd hok hri hm hsm hS1 hS2 hS3 hx2 hm2 hs2 hl2 hw2 hplt hB2 hst2 hf
  unfold ptrS at HM HN HRd ⊢
  go_enter Tryz.func37, Tryz.ntmps37
  go_wp2_with fail
  refine HM.out.mono ?_
  rintro e w' ⟨rfl, rfl⟩
  go_upto_region 3 with fail
  go_region
  rw [HWd.out]
  go_upto_region 7 with fail
  rw [HW2.out]
  clear HW2 HWd c5 c8 k5 k8 c9 c10 f9 f10 hlen
  refine wp_region_held_drew (S := S) (by kernel_rfl) ?_ (fun hGd => ?_)
  ·exact HKp.out _ (Below.refl _ _).drew
  refine tkS (i := 0) (v := ?_) ?_
  (try simp only [Act.put, qA, qB, qC])
  refine tkS (i := 1) (v := ?_) ?_
  (try simp only [Act.put, qA, qB, qC])
  refine tkS (i := 2) (v := ?_) ?_
  (try simp only [Act.put, qA, qB, qC])
  refine tkH (i := 3) (v := ?_) (fun w hSw => ?_) ?_
  rotate_left
  ·obtain ⟨z7, z8, z9, z10⟩ := HRd.out _ hSw; go_simp <;> with_reducible rfl
  (try simp only [Act.put, qA, qB, qC])
  refine tkS (i := 4) (v := ?_) ?_
  (try simp only [Act.put, qA, qB, qC])
  refine tkS (i := 5) (v := ?_) ?_
  (try simp only [Act.put, qA, qB, qC])
  refine tkS (i := 6) (v := ?_) ?_
  (try simp only [Act.put, qA, qB, qC])
  refine tkH (i := 7) (v := ?_) (fun w hSw => ?_) ?_
  rotate_left
  ·obtain ⟨z7, z8, z9, z10⟩ := HRd.out _ hSw; go_simp <;> with_reducible rfl
  (try simp only [Act.put, qA, qB, qC])
  refine tkS (i := 8) (v := ?_) ?_
  (try simp only [Act.put, qA, qB, qC])
  refine tkS (i := 9) (v := ?_) ?_
  (try simp only [Act.put, qA, qB, qC])
  refine tkS (i := 10) (v := ?_) ?_
  (try simp only [Act.put, qA, qB, qC])
  refine tkH (i := 11) (v := ?_) (fun w hSw => ?_) ?_
  rotate_left
  ·obtain ⟨z7, z8, z9, z10⟩ := HRd.out _ hSw; go_simp <;> with_reducible rfl
  (try simp only [Act.put, qA, qB, qC])
  refine tkS (i := 13) (v := ?_) ?_
  (try simp only [Act.put, qA, qB, qC])
  refine tkS (i := 14) (v := ?_) ?_
  (try simp only [Act.put, qA, qB, qC])
  refine tkS (i := 15) (v := ?_) ?_
  (try simp only [Act.put, qA, qB, qC])
  refine tkH (i := 16) (v := ?_) (fun w hSw => ?_) ?_
  rotate_left
  ·obtain ⟨z7, z8, z9, z10⟩ := HRd.out _ hSw; go_simp <;> with_reducible rfl
  (try simp only [Act.put, qA, qB, qC])
  refine q2g (i := 12) (j := 17) (by kernel_rfl) rfl rfl (fun K' hK => ?_) (fun K' hK => ?_)
  ·go_simp
   go_at_call 65; with_reducible refine (HN.out _ (by first | exact (Below.refl _ _).drew | exact ((Below.refl _ _).alloc (Nat.le_refl _) _).drew)).mono ?_; rintro r w3 ⟨rfl, rfl⟩
   (first | (refine hK.out _ _ ?_ (fun hG2 => ?_)) | (go_wp2_with fail; refine hK.out _ _ ?_ (fun hG2 => ?_)))
   ·exact HKp.out _ (by first | exact (Below.refl _ _).drew | exact ((Below.refl _ _).alloc (Nat.le_refl _) _).drew)
   clear hK K' hGd
   have hGd := hG2
   clear hG2
   (try simp only [Act.put, qA, qB, qC])
   refine stH (i := 17) (fun K' hK => ?_)
   go_simp
   (first | (refine hK.out _ _ ?_ (fun hG2 => ?_)) | (go_wp2_with fail; refine hK.out _ _ ?_ (fun hG2 => ?_)))
   ·exact HKp.out _ ((Below.refl _ _).drew.alloc (Nat.le_refl _) _)
   clear hK K' hGd
   have hGd := hG2
   clear hG2
   (try simp only [Act.put, qA, qB, qC])
   refine tkS (i := 18) (v := ?_) ?_
   (try simp only [Act.put, qA, qB, qC])
   refine stH (i := 19) (fun K' hK => ?_)
   go_simp
   (first | (refine hK.out _ _ ?_ (fun hG2 => ?_)) | (go_wp2_with fail; refine hK.out _ _ ?_ (fun hG2 => ?_)))
   ·exact HKp.out _ (((Below.refl _ _).drew.alloc (Nat.le_refl _) _).alloc (by simp) _)
   clear hK K' hGd
   have hGd := hG2
   clear hG2
   (try simp only [Act.put, qA, qB, qC])
   obtain ⟨w4, hw4⟩ : ∃ y, ((w2.alloc (.map #[] 0)).alloc (.cells #[.int .u64 (b.st.time : Nat), .int .i64 ((b.event : Int) + 1), .slice none 0 0, .map (some w2.heap.size)] 117)).drew = y := ⟨_, rfl⟩
   have hb4 : Below w2.heap.size w2 w4 := by rw [← hw4]; exact (((Below.refl _ _).alloc (Nat.le_refl _) _).alloc (by simp) _).drew
   have hq4 : w4.heap[w2.heap.size + 1]? = some (.cells #[.int .u64 (b.st.time : Nat), .int .i64 ((b.event : Int) + 1), .slice none 0 0, .map (some w2.heap.size)] 117 (0, 0)) := by rw [← hw4]; exact q23 w2 _ _
   have hm4 : MapK strK w4 w2.heap.size fun _ => none := by rw [← hw4]; exact (MapK.made strK w2).keep (((Below.refl _ (w2.alloc (.map #[] 0))).alloc (Nat.le_refl _) _).block _ (by simp))
   have hs4 : w4.heap.size = w2.heap.size + 2 := by rw [← hw4]; show ((w2.alloc _).alloc _).heap.size = _; simp
   obtain ⟨w5, hup, hl5, hg5, hs5⟩ := (HL2.out.keep (hb4.block B HL2.out.lt)).store (P := Tryz.prog) (t := 90) (kt := 3) (et := 114) Tryz.underlying90 Tryz.underlying3 ((b.last : Int) + 1) (.pointer (some ⟨w2.heap.size + 1, 0, none⟩))
   rw [hw4] at hGd ⊢
   simp only [intK] at hup
   refine stH (i := 20) (fun K' hK => ?_)
   go_simp
   (first | (refine hK.out _ _ ?_ (fun hG2 => ?_)) | (go_wp2_with fail; refine hK.out _ _ ?_ (fun hG2 => ?_)))
   ·exact HKg.out _ _ hb4 hg5
   clear hK K' hGd
   have hGd := hG2
   clear hG2
   (try simp only [Act.put, qA, qB, qC])
   refine wpAnyH_done (by kernel_rfl) ?_ _
   obtain ⟨q9, hfin⟩ := HFin.out w4 w5 hb4 hq4 hm4 hs4 hl5 hg5 hs5
   clear hGd hup hb4 hq4 hm4 hs4 hl5 hg5 hs5
   go_wp2_with fail
   go_ret2
   exact ⟨by rw [HE.out]; rfl, hfin⟩
  ·go_simp
   (first | (refine hK.out _ _ ?_ (fun hG2 => ?_)) | (go_wp2_with fail; refine hK.out _ _ ?_ (fun hG2 => ?_)))
   ·exact HKp.out _ ((Below.refl _ _).drew.alloc (Nat.le_refl _) _)
   clear hK K' hGd
   have hGd := hG2
   clear hG2
   (try simp only [Act.put, qA, qB, qC])
   refine stH (i := 12) (fun K' hK => ?_)
   go_simp
   go_at_call 65; with_reducible refine (HN.out _ (by first | exact (Below.refl _ _).drew | exact ((Below.refl _ _).alloc (Nat.le_refl _) _).drew)).mono ?_; rintro r w3 ⟨rfl, rfl⟩
   (first | (refine hK.out _ _ ?_ (fun hG2 => ?_)) | (go_wp2_with fail; refine hK.out _ _ ?_ (fun hG2 => ?_)))
   ·exact HKp.out _ (by first | exact (Below.refl _ _).drew | exact ((Below.refl _ _).alloc (Nat.le_refl _) _).drew)
   clear hK K' hGd
   have hGd := hG2
   clear hG2
   (try simp only [Act.put, qA, qB, qC])
   refine tkS (i := 18) (v := ?_) ?_
   (try simp only [Act.put, qA, qB, qC])
   refine stH (i := 19) (fun K' hK => ?_)
   go_simp
   (first | (refine hK.out _ _ ?_ (fun hG2 => ?_)) | (go_wp2_with fail; refine hK.out _ _ ?_ (fun hG2 => ?_)))
   ·exact HKp.out _ (((Below.refl _ _).drew.alloc (Nat.le_refl _) _).alloc (by simp) _)
   clear hK K' hGd
   have hGd := hG2
   clear hG2
   (try simp only [Act.put, qA, qB, qC])
   obtain ⟨w4, hw4⟩ : ∃ y, ((w2.alloc (.map #[] 0)).alloc (.cells #[.int .u64 (b.st.time : Nat), .int .i64 ((b.event : Int) + 1), .slice none 0 0, .map (some w2.heap.size)] 117)).drew = y := ⟨_, rfl⟩
   have hb4 : Below w2.heap.size w2 w4 := by rw [← hw4]; exact (((Below.refl _ _).alloc (Nat.le_refl _) _).alloc (by simp) _).drew
   have hq4 : w4.heap[w2.heap.size + 1]? = some (.cells #[.int .u64 (b.st.time : Nat), .int .i64 ((b.event : Int) + 1), .slice none 0 0, .map (some w2.heap.size)] 117 (0, 0)) := by rw [← hw4]; exact q23 w2 _ _
   have hm4 : MapK strK w4 w2.heap.size fun _ => none := by rw [← hw4]; exact (MapK.made strK w2).keep (((Below.refl _ (w2.alloc (.map #[] 0))).alloc (Nat.le_refl _) _).block _ (by simp))
   have hs4 : w4.heap.size = w2.heap.size + 2 := by rw [← hw4]; show ((w2.alloc _).alloc _).heap.size = _; simp
   obtain ⟨w5, hup, hl5, hg5, hs5⟩ := (HL2.out.keep (hb4.block B HL2.out.lt)).store (P := Tryz.prog) (t := 90) (kt := 3) (et := 114) Tryz.underlying90 Tryz.underlying3 ((b.last : Int) + 1) (.pointer (some ⟨w2.heap.size + 1, 0, none⟩))
   rw [hw4] at hGd ⊢
   simp only [intK] at hup
   refine stH (i := 20) (fun K' hK => ?_)
   go_simp
   (first | (refine hK.out _ _ ?_ (fun hG2 => ?_)) | (go_wp2_with fail; refine hK.out _ _ ?_ (fun hG2 => ?_)))
   ·exact HKg.out _ _ hb4 hg5
   clear hK K' hGd
   have hGd := hG2
   clear hG2
   (try simp only [Act.put, qA, qB, qC])
   refine wpAnyH_done (by kernel_rfl) ?_ _
   obtain ⟨q9, hfin⟩ := HFin.out w4 w5 hb4 hq4 hm4 hs4 hl5 hg5 hs5
   clear hGd hup hb4 hq4 hm4 hs4 hl5 hg5 hs5
   go_wp2_with fail
   go_ret2
   exact ⟨by rw [HE.out]; rfl, hfin⟩
end
end Go.Proofs.YtdpbllacfljmoaaGreat
