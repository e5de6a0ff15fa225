import Derived.Test.YtdpbllacfljmoaaGreatZF26
import Derived.Test.YtdpbllacfljmoaaGreatZF15
import Derived.Sort.OwnSorted
import Derived.Shelf.Slices.In.SortNone
import Derived.Test.YtdpbllacfljmoaaGreatZF00
import Derived.Lib.SliceRun
import Derived.Laws.IdiomCopy
set_option maxRecDepth 100000
set_option maxHeartbeats 16000000
set_option linter.unusedVariables false
namespace Go.Proofs.YtdpbllacfljmoaaGreat
open Go.RowKit
theorem qf5 : q2a Tryz.prog 3 1 8 := q2a.of (by kernel_rfl)
theorem q7k : ∀ (d ks : List Int), d.Nodup → (∀ k ∈ d, k ∈ ks) → d.length ≤ ks.length
 | [], _, _, _ => by simp
 | k :: d, ks, hn, hs => by
  obtain ⟨h1, h2⟩ := List.nodup_cons.1 hn
  have hk := hs k (List.mem_cons_self ..)
  have ih := q7k d (ks.erase k) h2 fun x hx => (List.mem_erase_of_ne (fun e => h1 (by rw [← e]; exact hx))).2 (hs x (List.mem_cons_of_mem _ hx))
  have hl := List.length_erase_of_mem hk
  have hp := List.length_pos_of_mem hk
  rw [List.length_cons]
  omega
def q2v (z : Int) : List Value := [.int .i64 z]
theorem izF : q12 1 q2v := ⟨by decide, fun _ => rfl, fun x v hv => by
 simp only [q2v, List.mem_cons, List.not_mem_nil, or_false] at hv
 subst hv
 rfl⟩
section
variable {w w' : World} {o p : Nat} {ρ : q0o} {L : LimT} {b : q08} {ps B : Nat} {P : Nat → TxP} {rv hv : Value}
theorem qbC (h : RawB w o p ρ L b ps B P rv hv) (hl : b.live.length ≤ 1000)
  (hsort : ∀ (zs : List Int) (v : Value) (W : World), zs.length ≤ 1000 → OwnG 3 1 q2v W w.heap.size v zs → w.heap.size ≤ W.heap.size → Below w.heap.size w W → Calls Tryz.prog 66 #[v] W fun e w' => e = .returned (.tuple #[]) ∧ OwnG 3 1 q2v w' w.heap.size v (zs.mergeSort fun x y => decide (x ≤ y)) ∧ Below w.heap.size w w') :
  Calls Tryz.prog 24 #[ptrS p] w fun r w' => ∃ (v : Value) (zs : List Int), r = .returned v ∧ zs.Nodup ∧ (∀ z, z ∈ zs ↔ ∃ t ∈ b.live, (t.id : Int) = z) ∧ OwnG 3 1 q2v w' w.heap.size v (zs.mergeSort fun x y => decide (x ≤ y)) ∧ Below w.heap.size w w' := by
 have c8 := h.live_
 have HM := qh (q18 h)
 have HSrt := qh hsort
 have HLn := qh hl
 obtain ⟨w0, hr0, hR0, hg0, hs0⟩ := h.live.range (P := Tryz.prog) (t := 90) (kt := 3) (et := 114) Tryz.underlying90
 have HR0 := qh hR0
 have hBl := h.live.lt
 have HB0 := qh ((Below.refl w.heap.size w).grown hg0 (Nat.le_refl _) (fun k hk => by cases hk))
 have HS0 := qh hs0
 clear h hsort hl hR0 hg0 hs0
 unfold ptrS at HM ⊢
 go_enter Tryz.func24, Tryz.ntmps24
 go_wp2_with fail
 refine HM.out.mono ?_
 rintro e w' ⟨rfl, rfl⟩
 go_wp2_with fail
 go_loopw [3] (fun u wr => ∃ done : List Int, OwnG 3 1 q2v wr (w'.heap.size + 1) u done ∧ q0W intK wr B w'.heap.size (q2L b.live P) done ∧ done.Nodup ∧ (∀ z ∈ done, z ∈ b.live.map fun t => (t.id : Int)) ∧ Below w'.heap.size w' wr) (fun _ wr => wr.rangeLeft B w'.heap.size)
 case atStart => exact ⟨[], OwnG.none_ _ _ _ _ _, HR0.out, List.nodup_nil, (fun _ h => by cases h), HB0.out⟩
 case round =>
  obtain ⟨done, ho, hR, hnd, hsb, hb⟩ := hrel
  have hlen := q7k done _ hnd hsb
  rw [List.length_map] at hlen
  have hll := HLn.out
  have HNd := qh hnd
  have HSb := qh hsb
  have HB := qh hb
  have HO := qh ho
  rcases hR.next (P := Tryz.prog) 0 with ⟨hd, hnx⟩ | ⟨id, v, w1, hf, hnot, hnx, hR1, hg1, hs1, hen, hlt⟩
  ·have HS := qh (HSrt.out done u3 wr (by omega) (HO.out.keep (fun _ _ _ => rfl) (by omega)) HB.out.size HB.out)
   have HMem := qh (show ∀ z, z ∈ done ↔ ∃ t ∈ b.live, (t.id : Int) = z from fun z => ⟨fun h => List.mem_map.1 (HSb.out z h), fun ⟨t, ht, e⟩ => by rw [← e]; exact hd _ (q6o ht)⟩)
   clear ho hR hnd hsb hb hd
   go_wp2_with fail
   refine HS.out.mono ?_
   rintro e w9 ⟨rfl, ho9, hb9⟩
   have HO9 := qh ho9
   have HB9 := qh hb9
   clear ho9 hb9 HS
   go_wp2_with fail
   go_ret
   exact ⟨_, done, rfl, HNd.out, HMem.out, HO9.out, HB9.out⟩
  ·obtain ⟨t, ht, rfl, rfl⟩ := q57 hf
   have hb1 := q6W hb hg1 (Nat.le_refl _) hb.size
   have HB1 := qh hb1
   have HO1 := qh (HO.out.keep (w' := w1) (lo' := w'.heap.size + 1) (fun g hg hgl => hg1.block g hgl (fun e => by injection e with e; have := (HO.out.lt g hg).1; omega)) (Nat.le_refl _))
   have HR1 := qh hR1
   have HNd1 := qh (show (done ++ [(t.id : Int)]).Nodup from List.nodup_append.2 ⟨hnd, by simp, by
    intro a ha c hc
    rw [List.mem_singleton] at hc
    rw [hc]
    exact fun e => hnot (by rw [← e]; exact ha)⟩)
   have HSb1 := qh (show ∀ z ∈ done ++ [(t.id : Int)], z ∈ b.live.map fun t => (t.id : Int) from fun z hz => by
    rcases List.mem_append.1 hz with q | q
    ·exact hsb z q
    ·rw [List.mem_singleton] at q
     rw [q]
     exact List.mem_map.2 ⟨t, ht, rfl⟩)
   have HNot := qh hnot
   have HR := qh hR
   have hbs := hb1.size
   have hrl := hR1.lt
   clear ho hR hnd hsb hb hf hnot hR1 hg1 hs1 hlt ht hb1
   unfold ptrS at hnx hen
   simp only [intK] at hnx hen
   go_wp2_with (at_builtin; refine q13 _ rfl _ _ 57 3 8 izF qf5 Tryz.underlying57 rfl (w'.heap.size + 1) _ done rfl (HO1.out.allocs _) w1.heap.size (w1.heap.size + 1) ⟨w1.heap.size, 0, none⟩ 1 1 [(t.id : Int)] rfl rfl (RowG.one (cs := q2v) (heap_alloc_new w1 _)) (by simp only [List.length_singleton]; unfold maxLen; omega) (by simp only [List.length_singleton]; omega) (by simp; omega) ?_; intro v1 w5 ho5 hg5 hat5; have HO5 := qh ho5; have HG5 := qh hg5; clear ho5 hg5 hat5)
   have hul : ∀ g, u3.ownBlock = some g → w'.heap.size + 1 ≤ g := fun g hg => (HO1.out.lt g hg).1
   have hB5 := HB1.out.alloc HB1.out.size (.cells #[.int .i64 (t.id : Nat)] 3)
   have hb5 : Below w'.heap.size w' w5 := hB5.grown HG5.out (by simp; omega) (fun k hk => by have := hul k hk; omega)
   have hr5 : q0W intK w5 B w'.heap.size (q2L b.live P) (done ++ [(t.id : Int)]) := HR1.out.keep ((HG5.out.block B (by simp; omega) (fun e => by have := hul B e.symm; omega)).trans (((Below.refl _ w1).alloc (Nat.le_refl _) _).block B hrl.1)) ((HG5.out.block _ (by simp; omega) (fun e => by have := hul _ e.symm; omega)).trans (((Below.refl _ w1).alloc (Nat.le_refl _) _).block _ hrl.2.1))
   have hm5 := q0W.left HR.out hr5 HNot.out ((hb5.block B hBl).trans (HB.out.block B hBl).symm)
   have HB5 := qh hb5
   have HR5 := qh hr5
   have HM5 := qh hm5
   clear hb5 hr5 hm5 hB5 HG5
   go_roundw
   case rel => exact ⟨done ++ [(t.id : Int)], HO5.out, HR5.out, HNd1.out, HSb1.out, HB5.out⟩
   case measure => exact HM5.out
end
open Go.RowKit
def StT : q2w := fun o w p F L b => ∃ (ρ : q0o) (ps B : Nat) (P : Nat → TxP) (rv hv : Value), F = ownR ρ ∧ RawB w o p ρ L b ps B P rv hv ∧ OkTx L (fitN L.marks) b ∧ q4V b.recs ∧ MayT L = true
section
variable {w w' : World} {o p : Nat} {ρ ρ' : q0o} {L : LimT} {b b' : q08} {ps B : Nat} {P : Nat → TxP} {rv hv : Value} {F F' : Nat → Prop}
theorem RawB.o_le (h : RawB w o p ρ L b ps B P rv hv) : o ≤ w.heap.size := by
 have := h.lo p (by rw [h.rp]; omega)
 omega
theorem q3E (h : MayT L = true) : MayS L.s = true ∧ 1 ≤ L.marks ∧ L.marks ≤ 1048576 ∧ 1 ≤ L.recs ∧ L.recs ≤ 1048576 ∧ 1 ≤ L.live ∧ L.live ≤ 64 := by
 unfold MayT at h
 simp only [Bool.and_eq_true, decide_eq_true_iff] at h
 exact ⟨h.1.1.1, h.1.1.2.1, h.1.1.2.2, h.1.2.1, h.1.2.2, h.2.1, h.2.2⟩
theorem q0t (F : Nat → Prop) (h : Below w.heap.size w w') : Mut F w w' := ⟨h.os, h.tape, h.output, h.size, fun k hk _ => h.block k hk⟩
theorem StT.turn {op : OpT} (h : StT o w p F L b) (hr : ∃ (ρ' : q0o) (ps' B' : Nat) (P' : Nat → TxP) (rv' hv' : Value), F' = ownR ρ' ∧ RawB w' o p ρ' L (q1g (FT L) L b op).1 ps' B' P' rv' hv') : StT o w' p F' L (q1g (FT L) L b op).1 := by
 obtain ⟨ρ, ps, B, P, rv, hv, _, _, hok, hri, hm⟩ := h
 obtain ⟨ρ', ps', B', P', rv', hv', e, hraw⟩ := hr
 exact ⟨ρ', ps', B', P', rv', hv', e, hraw, hok.does (fT_c L) op, qc8 hok hri op, hm⟩
open Classical in
noncomputable def stoN (ρ : q0o) (F' : Nat → Prop) : q0o := fun k => if F' k then 3 else if ρ k = 3 then 0 else ρ k
theorem q3a (ρ : q0o) (F' : Nat → Prop) (k : Nat) : (F' k ∧ stoN ρ F' k = 3) ∨ (¬ F' k ∧ ρ k = 3 ∧ stoN ρ F' k = 0) ∨ (¬ F' k ∧ ρ k ≠ 3 ∧ stoN ρ F' k = ρ k) := by
 unfold stoN
 by_cases h : F' k
 ·exact .inl ⟨h, if_pos h⟩
 ·rw [if_neg h]
  by_cases h2 : ρ k = 3
  ·exact .inr (.inl ⟨h, h2, if_pos h2⟩)
  ·exact .inr (.inr ⟨h, h2, if_neg h2⟩)
theorem qfx (ρ : q0o) (F' : Nat → Prop) : stoR (stoN ρ F') = F' := funext fun k => propext (by
 unfold stoR
 rcases q3a ρ F' k with ⟨h, e⟩ | ⟨h, _, e⟩ | ⟨h, h2, e⟩
 ·rw [e]; exact ⟨fun _ => h, fun _ => rfl⟩
 ·rw [e]; exact ⟨fun q => absurd q (by omega), fun q => absurd q h⟩
 ·rw [e]; exact ⟨fun q => absurd q h2, fun q => absurd q h⟩)
theorem q9k (h : RawB w o p ρ L b ps B P rv hv) (hm : Mut (stoR ρ) w w') (hF : ∀ k, F' k → stoR ρ k ∨ w.heap.size ≤ k) : q0P (fun n => n = 3) ρ (stoN ρ F') w w' := ⟨hm.size, fun k h1 h2 h3 => by
 have hn : ¬ F' k := fun hk => by
  rcases hF k hk with q | q
  ·exact h3 q
  ·omega
 refine ⟨hm.block k h1 (fun q => h3 q), ?_⟩
 rcases q3a ρ F' k with ⟨q, _⟩ | ⟨_, q, _⟩ | ⟨_, _, e⟩
 ·exact absurd q hn
 ·exact absurd q h3
 ·exact e⟩
theorem RawB.storeT {st' : PS} (h : RawB w o p ρ L b ps B P rv hv) (hm : Mut (stoR ρ) w w') (hs : StD w' ps F' L.s st') (hF : ∀ k, F' k → stoR ρ k ∨ w.heap.size ≤ k) : RawB w' o p (stoN ρ F') L ⟨st', b.live, b.recs, b.hist, b.last, b.event⟩ ps B P rv hv := by
 have s := q9k h hm hF
 obtain ⟨p1, p2⟩ := s.same p (q00 h.box) (by rw [h.rp]; omega) (by rw [h.rp]; omega)
 obtain ⟨b1, b2⟩ := s.same B h.live.lt (by rw [h.rB]; omega) (by rw [h.rB]; omega)
 refine ⟨p1.trans h.box, h.live.keep b1, ?_, fun t ht => (h.txs t ht).step s (by omega) (by omega) (by omega), h.recs.step s (by omega) (by omega), h.hist.step s (by omega) (by omega), p2.trans h.rp, b2.trans h.rB, fun k hk => ?_⟩
 ·rw [qfx]; exact hs
 ·have hk' : ρ k ≠ 0 ∨ F' k := by
   rcases q3a ρ F' k with ⟨q, _⟩ | ⟨_, _, e⟩ | ⟨_, _, e⟩
   ·exact .inr q
   ·exact absurd e hk
   ·exact .inl (by rw [← e]; exact hk)
  rcases hk' with q | q
  ·exact ⟨(h.lo k q).1, Nat.lt_of_lt_of_le (h.lo k q).2 hm.size⟩
  ·refine ⟨?_, q1Y.upto hs k q⟩
   rcases hF k q with q2 | q2
   ·exact (h.lo k (by rw [show ρ k = 3 from q2]; omega)).1
   ·exact Nat.le_trans h.o_le q2
theorem qba (hF : ∀ k, F' k → stoR ρ k ∨ w.heap.size ≤ k) : ∀ k, ownR (stoN ρ F') k → ownR ρ k ∨ w.heap.size ≤ k := fun k hk => by
 unfold ownR at *
 rcases q3a ρ F' k with ⟨q, _⟩ | ⟨_, _, e⟩ | ⟨_, _, e⟩
 ·rcases hF k q with q2 | q2
  ·exact .inl (by rw [show ρ k = 3 from q2]; omega)
  ·exact .inr q2
 ·exact absurd e hk
 ·exact .inl (by rw [← e]; exact hk)
theorem q7C (h : StT o w p F L b) : Calls Tryz.prog 46 #[ptrS p] w fun r w' => r = .returned (.int .i64 ((q15 b).2.n : Nat)) ∧ ∃ F', q2b StT o w p F L (q15 b).1 w' F' := by
 have hst := h
 obtain ⟨ρ, ps, B, P, rv, hv, rfl, hraw, hok, hri, hm⟩ := h
 have hlow : lowT b < 18446744073709551616 := Nat.lt_of_le_of_lt (q4C b) hraw.time_lt
 have HM := qh (q18 hraw)
 have HL : Hid (∀ W : World, Below w.heap.size w W → Calls Tryz.prog 21 #[ptrS p] W fun e w' => e = .returned (.int .u64 (lowT b : Nat)) ∧ Below w.heap.size w w') :=
  qh fun W hb => (q4x (hraw.below hb) hok.ids).mono fun _ _ q => ⟨q.1, hb.trans (q.2.mono hb.size)⟩
 have HC : Hid (∀ W : World, Below w.heap.size w W → Calls Tryz.prog 89 #[ptrS ps, .int .u64 (lowT b : Nat)] W fun e w' => e = .returned (.int .i64 ((q15 b).2.n : Nat)) ∧ ∃ F', StD w' ps F' L.s ⟨b.st.time, q05 b.st.K (lowT b)⟩ ∧ Mut (stoR ρ) W w' ∧ ∀ k, F' k → stoR ρ k ∨ W.heap.size ≤ k) :=
  qh fun W hb => q1Y.collect ps _ _ _ (lowT b) W (hraw.below hb).store hlow
 obtain ⟨S, hS1, hS2, hS3⟩ : ∃ S : World → Prop, (∀ W : World, Below w.heap.size w W → S W) ∧ (∀ W W' : World, Below w.heap.size w W → Mut (stoR ρ) W W' → S W') ∧ ∀ W : World, S W → W.cell? ⟨p, 7, none⟩ = some (ptrS ps) := by
  refine ⟨fun W => W.cell? ⟨p, 7, none⟩ = some (ptrS ps), fun W hb => (hraw.below hb).store_, fun W W' hb hmt => ?_, fun _ h => h⟩
  have h1 := hraw.below hb
  show W'.cell? ⟨p, 7, none⟩ = _
  rw [World.cell?_of_block (a := ⟨p, 7, none⟩) (hmt.block p (q00 h1.box) (fun q => by have := h1.rp; unfold stoR at q; omega))]
  exact h1.store_
 have HKp := qh hS1
 have HKm := qh hS2
 have HRd := qh hS3
 have HRaw := qh hraw
 have HSt := qh hst
 clear hst hraw hok hri hm hlow hS1 hS2 hS3
 unfold ptrS at HM HL HC HRd ⊢
 go_enter Tryz.func46, Tryz.ntmps46
 go_wp2_with fail
 refine HM.out.mono ?_
 rintro e w' ⟨rfl, rfl⟩
 go_wp2_with fail
 refine wp_region_held_drew (S := S) (by kernel_rfl) ?_ (fun hGd => ?_)
 ·exact HKp.out _ (Below.refl _ _).drew
 refine tkS (i := 0) (v := ?_) ?_
 (try simp only [Act.put, qA, qB, qC])
 refine tkS (i := 1) (v := ?_) ?_
 (try simp only [Act.put, qA, qB, qC])
 refine tkS (i := 2) (v := ?_) ?_
 (try simp only [Act.put, qA, qB, qC])
 refine tkH (i := 3) (v := ?_) (fun w hSw => ?_) ?_
 rotate_left
 ·have z7 := HRd.out _ hSw; go_simp <;> with_reducible rfl
 (try simp only [Act.put, qA, qB, qC])
 refine tkS (i := 4) (v := ?_) ?_
 (try simp only [Act.put, qA, qB, qC])
 refine stH (i := 5) (fun K' hK => ?_)
 go_simp
 go_at_call 21; with_reducible refine (HL.out _ (Below.refl _ _).drew).mono ?_; rintro r w2 ⟨rfl, hb2⟩
 (first | (refine hK.out _ _ ?_ (fun hG2 => ?_)) | (go_wp2_with fail; refine hK.out _ _ ?_ (fun hG2 => ?_)))
 ·exact HKp.out _ hb2
 clear hK K' hGd
 have hGd := hG2
 clear hG2
 (try simp only [Act.put, qA, qB, qC])
 refine stH (i := 6) (fun K' hK => ?_)
 go_simp
 go_at_call 89; with_reducible refine (HC.out _ hb2).mono ?_; rintro r w3 ⟨rfl, F3, hs3, hm3, hf3⟩
 (first | (refine hK.out _ _ ?_ (fun hG2 => ?_)) | (go_wp2_with fail; refine hK.out _ _ ?_ (fun hG2 => ?_)))
 ·exact HKm.out _ _ hb2 hm3
 clear hK K' hGd
 have hGd := hG2
 clear hG2
 (try simp only [Act.put, qA, qB, qC])
 refine tkS (i := 7) (v := ?_) ?_
 (try simp only [Act.put, qA, qB, qC])
 refine wpAnyH_done (by kernel_rfl) ?_ _
 go_wp2_with fail
 go_ret
 have hraw2 := HRaw.out.below hb2
 refine ⟨rfl, ownR (stoN ρ F3), ?_, ?_, fun k hk => ?_⟩
 ·exact StT.turn (op := ⟨6, 0, ⟨[], false, []⟩, []⟩) HSt.out ⟨_, ps, B, P, rv, hv, rfl, hraw2.storeT hm3 hs3 hf3⟩
 ·exact (q0t _ hb2).trans hm3 (fun k hk => .inl (by unfold ownR; rw [show ρ k = 3 from hk]; omega))
 ·rcases qba hf3 k hk with q | q
  ·exact .inl q
  ·exact .inr (Nat.le_trans hb2.size q)
end
open Go.RowKit Go.Sort
theorem qa4 (l : List Int) : q0g q2v l = l.map (Value.int .i64) := by
 induction l with
 | nil => rfl
 | cons x l ih => rw [q0k, ih]; rfl
theorem qg9 {w : World} {g : Nat} {cur : Array Value} {e : TypeId} {zs : List Int} (hb : w.heap[g]? = some (.cells cur e (0, 0))) (ht : cur.toList.take zs.length = zs.map (Value.int .i64)) : Holds (Value.int .i64) w g 0 zs.toArray := by
 intro j hj
 have hj' : j < zs.length := by simpa using hj
 refine ⟨?_, by simp [World.frozen?, hb]⟩
 have h1 : (cur.toList.take zs.length)[j]? = (zs.map (Value.int .i64))[j]? := by rw [ht]
 rw [List.getElem?_take_of_lt hj'] at h1
 simp only [World.cell?, hb, Nat.zero_add]
 simp only [Option.isSome_none, Bool.false_eq_true, if_false]
 rw [← Array.getElem?_toList, h1]
 simp [hj']
theorem qgI {w : World} {g n : Nat} {os : Array Obj} {cur : Array Value} {e : TypeId} {fr : Nat × Nat} (d : Array Int) (hb : w.heap[g]? = some (.cells cur e fr)) :
  (grow (putRow (Value.int .i64) (Sort.ahead w n) g 0 d) os).heap[g]? = some (.cells (putCells (Value.int .i64) 0 d cur) e fr) := by
 have hg : g < w.heap.size := (Array.getElem?_eq_some_iff.1 hb).1
 rw [heap_grow_old _ _ (by simpa using hg)]
 simp [putRow, mapBlock, Sort.ahead, Array.getElem?_modify, hb, onCells]
theorem qg8 {w : World} {g n : Nat} {os : Array Obj} (d : Array Int) : w.grownBy (grow (putRow (Value.int .i64) (Sort.ahead w n) g 0 d) os) (some g) := by
 refine ⟨rfl, rfl, rfl, by simp, fun k hk hne => ?_⟩
 rw [heap_grow_old _ _ (by simpa using hk)]
 have : g ≠ k := fun e => hne (by rw [e])
 simp [putRow, mapBlock, Sort.ahead, Array.getElem?_modify, this]
theorem qgJ (cur : Array Value) (ts : List Int) (h : ts.length ≤ cur.size) : (putCells (Value.int .i64) 0 ts.toArray cur).toList.take ts.length = ts.map (Value.int .i64) := by
 apply List.ext_getElem?
 intro j
 by_cases hj : j < ts.length
 ·rw [List.getElem?_take_of_lt hj, Array.getElem?_toList]
  simp [putCells, hj, show j < cur.size by omega]
 ·rw [List.getElem?_take_eq_none (by omega), List.getElem?_eq_none (by simp; omega)]
theorem qbF (w0 : World) (zs : List Int) (v : Value) (w : World) (hl : zs.length ≤ 1000) (ho : OwnG 3 1 q2v w w0.heap.size v zs) (hs : w0.heap.size ≤ w.heap.size) (hb0 : Below w0.heap.size w0 w) :
  Calls Tryz.prog 66 #[v] w fun e w' => e = .returned (.tuple #[]) ∧ OwnG 3 1 q2v w' w0.heap.size v (zs.mergeSort fun x y => decide (x ≤ y)) ∧ Below w0.heap.size w0 w' := by
 rcases ho with ⟨hn, hnil | ⟨g, cap, cur, rfl, hbase, hb, h1, h2, h3, h4⟩⟩
 ·obtain ⟨rfl, h0⟩ := hnil
  have h0 : zs = [] := by
   first
    | exact List.eq_nil_of_length_eq_zero h0
    | (cases zs with | nil => rfl | cons x l => simp at h0)
  subst h0
  have hz := Any.slices_Sort_int_none Tryz.sortInts none 0 w
  change Calls Tryz.prog 66 _ _ _ at hz
  exact hz.mono fun _ _ q => ⟨q.1, by rw [List.mergeSort_nil]; exact OwnG.none_ _ _ _ _ _, by rw [q.2]; exact hb0⟩
 ·have hg : g < w.heap.size := (Array.getElem?_eq_some_iff.1 hb).1
  rw [Nat.mul_one, qa4] at h4
  have hc := Any.slices_Sort_int Tryz.sortInts g 0 cap zs w (qg9 hb h4) hg (by omega)
  change Calls Tryz.prog 66 _ _ _ at hc
  refine hc.mono ?_
  rintro e w' ⟨rfl, n, os, rfl⟩
  have hll : (zs.mergeSort fun x y => decide (x ≤ y)).length = zs.length := by simp
  refine ⟨rfl, ⟨by rw [qa4]; simp, .inr ⟨g, cap, _, by rw [hll], hbase, qgI _ hb, by rw [hll]; exact h1, h2, by simp [putCells, h3], ?_⟩⟩, ?_⟩
  ·rw [Nat.mul_one, qa4]
   exact qgJ cur _ (by rw [hll]; omega)
  ·exact hb0.grown (qg8 _) hs (fun g' hg' => by injection hg' with hg'; omega)
theorem q7s : ∀ {a c : List Int}, a.Pairwise (· < ·) → c.Pairwise (· < ·) → (∀ z, z ∈ a ↔ z ∈ c) → a = c
 | [], [], _, _, _ => rfl
 | [], y :: c, _, _, h => absurd ((h y).2 (List.mem_cons_self ..)) (by simp)
 | x :: a, [], _, _, h => absurd ((h x).1 (List.mem_cons_self ..)) (by simp)
 | x :: a, y :: c, ha, hc, h => by
  obtain ⟨a1, a2⟩ := List.pairwise_cons.1 ha
  obtain ⟨c1, c2⟩ := List.pairwise_cons.1 hc
  have e : x = y := by
   rcases List.mem_cons.1 ((h x).1 (List.mem_cons_self ..)) with q | q
   ·exact q
   ·rcases List.mem_cons.1 ((h y).2 (List.mem_cons_self ..)) with q2 | q2
    ·exact q2.symm
    ·have := c1 x q
     have := a1 y q2
     omega
  subst e
  refine congrArg (x :: ·) (q7s a2 c2 fun z => ⟨fun hz => ?_, fun hz => ?_⟩)
  ·rcases List.mem_cons.1 ((h z).1 (List.mem_cons_of_mem _ hz)) with q | q
   ·have := a1 z hz
    omega
   ·exact q
  ·rcases List.mem_cons.1 ((h z).2 (List.mem_cons_of_mem _ hz)) with q | q
   ·have := c1 z hz
    omega
   ·exact q
theorem qab {l : List TxS} {zs : List Int} (hi : IdsT l) (hn : zs.Nodup) (hm : ∀ z, z ∈ zs ↔ ∃ t ∈ l, (t.id : Int) = z) : (zs.mergeSort fun x y => decide (x ≤ y)) = l.map fun t => (t.id : Int) := by
 have hp := List.mergeSort_perm zs fun x y => decide (x ≤ y)
 have hs := List.pairwise_mergeSort (le := fun x y : Int => decide (x ≤ y)) (fun a b c => by simp only [decide_eq_true_iff]; omega) (fun a b => by simp only [Bool.or_eq_true, decide_eq_true_iff]; omega) zs
 refine q7s ?_ ?_ fun z => ?_
 ·refine (List.Pairwise.and hs (hp.nodup_iff.2 hn)).imp fun {x y} ⟨q1, q2⟩ => ?_
  have q1 : x ≤ y := by simpa using q1
  have : x ≠ y := q2
  omega
 ·rw [List.pairwise_map]
  exact hi.imp fun {x y} q => by omega
 ·rw [hp.mem_iff, hm, List.mem_map]
theorem qh3 {w : World} {lo : Nat} {A : Option Addr} {l : List Nat} {S : Nat → Prop} (h : RowG q2v w lo w.heap.size A (l.map fun n : Nat => (n : Int))) (hS : ∀ g, lo ≤ g → S g) : RowS qa9 w S A l := fun hn => by
 obtain ⟨b, o, e, h1, h2, hc⟩ := h (by simpa using hn)
 refine ⟨b, o, e, hS b h1, fun j u hu => hc j u ?_⟩
 have e2 : q0g q2v (l.map fun n : Nat => (n : Int)) = q0g qa9 l := by
  clear hn hc hu h e
  induction l with
  | nil => rfl
  | cons x l ih => rw [List.map_cons, q0k, q0k, ih]; rfl
 rw [e2]
 exact hu
theorem qbD {w : World} {o p : Nat} {F : Nat → Prop} {L : LimT} {b : q08} (h : StT o w p F L b) (_ : q0L b) :
  Calls Tryz.prog 24 #[ptrS p] w fun r w' => ∃ A c, r = .returned (.slice A b.live.length c) ∧ InS_ w' (ResT F o w) A c (b.live.map TxS.id) ∧ Below w.heap.size w w' := by
 obtain ⟨ρ, ps, B, P, rv, hv, rfl, hraw, hok, hri, hm⟩ := h
 have hlv : b.live.length ≤ 1000 := by
  have h1 := hok.few
  have h2 := q3E hm
  omega
 refine (qbC hraw hlv fun zs v W hl ho hs hb => qbF w zs v W hl ho hs hb).mono ?_
 rintro r w' ⟨v, zs, rfl, hn, hmem, ho, hb⟩
 rw [qab hok.ids hn hmem] at ho
 obtain ⟨A, c, rfl, h1, h2, h3, h4⟩ := ho.form
 rw [List.length_map] at h1 ⊢
 refine ⟨A, c, rfl, ⟨by rw [List.length_map]; exact h1, h2, h3, qh3 (lo := w.heap.size) ?_ fun g hg => .inr (.inr hg)⟩, hb⟩
 rw [List.map_map]
 exact h4
open Go.RowKit
section
variable {α : Type} {k : Nat} {cs : α → List Value} {e : TypeId} {w w' : World} {lo g cap : Nat} {l : List α}
def BlkG (e : TypeId) (k : Nat) (cs : α → List Value) (w : World) (lo g cap : Nat) (l : List α) : Prop :=
 ∃ cur, lo ≤ g ∧ w.heap[g]? = some (.cells cur e (0, 0)) ∧ l.length ≤ cap ∧ cap ≤ maxLen ∧ cur.size = cap * k ∧ cur.toList.take (l.length * k) = q0g cs l
theorem BlkG.own (hF : q12 k cs) (h : BlkG e k cs w lo g cap l) : OwnG e k cs w lo (.slice (some ⟨g, 0, none⟩) l.length cap) l := by
 obtain ⟨cur, h1, h2, h3, h4, h5, h6⟩ := h
 exact ⟨hF.flat_len l, .inr ⟨g, cap, cur, rfl, h1, h2, h3, h4, h5, h6⟩⟩
theorem OwnG.blkG {v : Value} (h : OwnG e k cs w lo v l) : (v = .slice none 0 0 ∧ l = []) ∨ ∃ g cap, v = .slice (some ⟨g, 0, none⟩) l.length cap ∧ BlkG e k cs w lo g cap l := by
 rcases h.2 with ⟨h1, h2⟩ | ⟨g, cap, cur, hv, h1, h2, h3, h4, h5, h6⟩
 ·exact .inl ⟨h1, List.eq_nil_of_length_eq_zero h2⟩
 ·exact .inr ⟨g, cap, hv, cur, h1, h2, h3, h4, h5, h6⟩
theorem BlkG.len (h : BlkG e k cs w lo g cap l) : l.length ≤ cap ∧ cap ≤ maxLen := by
 obtain ⟨_, _, _, h3, h4, _⟩ := h
 exact ⟨h3, h4⟩
theorem BlkG.lt (h : BlkG e k cs w lo g cap l) : lo ≤ g ∧ g < w.heap.size := by
 obtain ⟨_, h1, h2, _⟩ := h
 exact ⟨h1, q00 h2⟩
theorem BlkG.keep (h : BlkG e k cs w lo g cap l) (hk : w'.heap[g]? = w.heap[g]?) : BlkG e k cs w' lo g cap l := by
 obtain ⟨cur, h1, h2, h3⟩ := h
 exact ⟨cur, h1, hk.trans h2, h3⟩
theorem BlkG.below (h : BlkG e k cs w lo g cap l) (hb : Below w.heap.size w w') : BlkG e k cs w' lo g cap l := h.keep (hb.block g h.lt.2)
theorem BlkG.allocs (h : BlkG e k cs w lo g cap l) (o : Obj) : BlkG e k cs (w.alloc o) lo g cap l := h.below ((Below.refl _ w).alloc (Nat.le_refl _) o)
theorem BlkG.cur (h : BlkG e k cs w lo g cap l) : ∃ cur : Array Value, w.heap[g]? = some (.cells cur e (0, 0)) ∧ cur.size = cap * k ∧ ∀ (j : Nat) (u : Value), (q0g cs l)[j]? = some u → cur[j]? = some u := by
 obtain ⟨cur, _, h2, _, _, h5, h6⟩ := h
 refine ⟨cur, h2, h5, fun j u hu => ?_⟩
 rw [← h6, List.getElem?_take] at hu
 split at hu
 ·rw [← hu, Array.getElem?_toList]
 ·cases hu
theorem BlkG.at_ (hF : q12 k cs) (h : BlkG e k cs w lo g cap l) {j : Nat} (hj : j < l.length) (i : Nat) (u : Value) (hu : (cs (l[j]'hj))[i]? = some u) : w.cell? ⟨g, j * k + i, none⟩ = some u := by
 obtain ⟨cur, h2, _, hc⟩ := h.cur
 have hi := (List.getElem?_eq_some_iff.1 hu).1
 rw [hF.len] at hi
 rw [cell_of_row w g _ _ _ _ h2]
 exact hc _ _ ((hF.flat_at l j hj i hi).trans hu)
theorem BlkG.frozen (h : BlkG e k cs w lo g cap l) (o : Nat) : w.frozen? ⟨g, o, none⟩ = false := by
 obtain ⟨cur, _, h2, _⟩ := h
 exact q02 h2 o
theorem BlkG.row (h : BlkG e k cs w lo g cap l) : RowG cs w 0 w.heap.size (some ⟨g, 0, none⟩) l := by
 obtain ⟨cur, h2, _, hc⟩ := h.cur
 exact (RowG.block h2 hc).wide (Nat.zero_le _) (q00 h2)
theorem BlkG.take (hF : q12 k cs) (h : BlkG e k cs w lo g cap l) (m : Nat) : BlkG e k cs w lo g cap (l.take m) := by
 obtain ⟨cur, h1, h2, h3, h4, h5, h6⟩ := h
 refine ⟨cur, h1, h2, ?_, h4, h5, ?_⟩
 ·rw [List.length_take]; omega
 ·have e := congrArg (List.take (m * k)) h6
  rw [List.take_take, hF.flat_take] at e
  have hm : min m l.length * k = min (m * k) (l.length * k) := by
   rcases Nat.le_total m l.length with hle | hle
   ·rw [Nat.min_eq_left hle, Nat.min_eq_left (Nat.mul_le_mul_right k hle)]
   ·rw [Nat.min_eq_right hle, Nat.min_eq_right (Nat.mul_le_mul_right k hle)]
  rw [List.length_take, hm]
  exact e
theorem q3o (g : Nat) (t : TypeId) : ∀ (vs : List Value) (o : Nat) (w : World) (cur : Array Value), w.heap[g]? = some (.cells cur t (0, 0)) →
  ∃ cur' : Array Value, (w.setCells g o vs).heap[g]? = some (.cells cur' t (0, 0)) ∧ cur'.size = cur.size ∧ (∀ i, i < o ∨ o + vs.length ≤ i → cur'[i]? = cur[i]?) ∧ ∀ i, i < vs.length → o + i < cur.size → cur'[o + i]? = vs[i]?
 | [], o, w, cur, h => ⟨cur, h, rfl, fun _ _ => rfl, fun _ hi => absurd hi (by simp)⟩
 | v :: vs, o, w, cur, h => by
  have h1 : (w.setCell ⟨g, o, none⟩ v).heap[g]? = some (.cells (cur.setIfInBounds o v) t (0, 0)) := by
   simp [World.setCell, Array.getElem?_modify, h]
  obtain ⟨cur', k1, k2, k3, k4⟩ := q3o g t vs (o + 1) (w.setCell ⟨g, o, none⟩ v) _ h1
  rw [Array.size_setIfInBounds] at k2 k4
  refine ⟨cur', k1, k2, fun i hi => ?_, fun i hi hs => ?_⟩
  ·simp only [List.length_cons] at hi
   rw [k3 i (by omega), Array.getElem?_setIfInBounds_ne (by omega)]
  ·cases i with
   | zero =>
    rw [Nat.add_zero, k3 o (.inl (by omega)), Array.getElem?_setIfInBounds_self]
    simp
    omega
   | succ i =>
    simp only [List.length_cons] at hi
    have := k4 i (by omega) (by omega)
    rw [show o + (i + 1) = o + 1 + i by omega, this]
    simp
theorem BlkG.storeG (hF : q12 k cs) (h : BlkG e k cs w lo g cap l) (j : Nat) (x : α) (hj : j < l.length) : BlkG e k cs (w.setCells g (j * k) (cs x)) lo g cap (l.set j x) := by
 obtain ⟨cur, h1, h2, h3, h4, h5, h6⟩ := h
 obtain ⟨cur', k1, k2, k3, k4⟩ := q3o g e (cs x) (j * k) w cur h2
 rw [hF.len] at k3 k4
 refine ⟨cur', h1, k1, by rw [List.length_set]; exact h3, h4, by rw [k2, h5], ?_⟩
 have hjk : j * k + k ≤ cap * k := by
  have : (j + 1) * k ≤ cap * k := Nat.mul_le_mul_right k (by omega)
  rwa [Nat.add_mul, Nat.one_mul] at this
 apply List.ext_getElem?
 intro i
 rw [List.getElem?_take, List.length_set]
 have hk := hF.pos
 by_cases hi : i < l.length * k
 ·rw [if_pos hi, Array.getElem?_toList]
  have hq : i / k < l.length := by rwa [Nat.div_lt_iff_lt_mul hk]
  have hr : i % k < k := Nat.mod_lt _ hk
  have hi2 : i = i / k * k + i % k := (Nat.div_add_mod' i k).symm
  have e1 := hF.flat_at (l.set j x) (i / k) (by rw [List.length_set]; exact hq) (i % k) hr
  rw [← hi2] at e1
  rw [e1]
  by_cases hjq : j = i / k
  ·subst hjq
   rw [List.getElem_set_self]
   have := k4 (i % k) hr (by rw [h5]; omega)
   rw [← hi2] at this
   exact this
  ·rw [List.getElem_set_ne hjq]
   have hout : i < j * k ∨ j * k + k ≤ i := by
    rcases Nat.lt_or_gt_of_ne hjq with h | h
    ·right
     have : (j + 1) * k ≤ i / k * k := Nat.mul_le_mul_right k h
     rw [Nat.add_mul, Nat.one_mul] at this
     omega
    ·left
     have : (i / k + 1) * k ≤ j * k := Nat.mul_le_mul_right k h
     rw [Nat.add_mul, Nat.one_mul] at this
     omega
   rw [k3 i hout]
   have e2 := hF.flat_at l (i / k) hq (i % k) hr
   rw [← hi2, ← h6, List.getElem?_take, if_pos hi, Array.getElem?_toList] at e2
   exact e2
 ·rw [if_neg hi, List.getElem?_eq_none (by rw [hF.flat_len, List.length_set]; omega)]
theorem q2F {B b : Nat} : ∀ (vs : List Value) (o : Nat) (w0 w : World), Below B w0 w → B ≤ b → Below B w0 (w.setCells b o vs)
 | [], _, _, _, h, _ => h
 | v :: vs, o, w0, w, h, hb => q2F vs (o + 1) w0 _ (h.setCell hb _) hb
theorem q3n {b g : Nat} (hg : g ≠ b) : ∀ (vs : List Value) (o : Nat) (w : World), (w.setCells b o vs).heap[g]? = w.heap[g]?
 | [], _, _ => rfl
 | v :: vs, o, w => by
  show ((w.setCell ⟨b, o, none⟩ v).setCells b (o + 1) vs).heap[g]? = _
  rw [q3n hg vs (o + 1) _]
  have hg' : b ≠ g := fun e => hg e.symm
  simp [World.setCell, Array.getElem?_modify, hg']
theorem q1Q {b : Nat} : ∀ (vs : List Value) (o : Nat) (w : World), (w.setCells b o vs).heap.size = w.heap.size
 | [], _, _ => rfl
 | v :: vs, o, w => by
  show ((w.setCell ⟨b, o, none⟩ v).setCells b (o + 1) vs).heap.size = _
  rw [q1Q vs (o + 1) _]
  simp [World.setCell]
theorem BlkG.tail (hF : q12 k cs) (h : BlkG e k cs w lo g cap l) (m : Nat) (vs : List Value) : BlkG e k cs (w.setCells g (m * k) vs) lo g cap (l.take m) := by
 obtain ⟨cur, h1, h2, h3, h4, h5, h6⟩ := h.take hF m
 obtain ⟨cur', k1, k2, k3, _⟩ := q3o g _ vs (m * k) w cur h2
 refine ⟨cur', h1, k1, h3, h4, by rw [k2, h5], ?_⟩
 rw [← h6]
 apply List.ext_getElem?
 intro i
 rw [List.getElem?_take, List.getElem?_take]
 split
 ·next hi =>
  rw [Array.getElem?_toList, Array.getElem?_toList]
  refine k3 i (.inl ?_)
  have : (l.take m).length * k ≤ m * k := Nat.mul_le_mul_right k (by rw [List.length_take]; omega)
  omega
 ·rfl
end
end Go.Proofs.YtdpbllacfljmoaaGreat
