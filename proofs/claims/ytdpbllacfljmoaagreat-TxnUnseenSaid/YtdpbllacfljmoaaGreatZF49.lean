import Derived.Test.YtdpbllacfljmoaaGreatZF48
import Derived.Test.YtdpbllacfljmoaaGreatZF27
import Derived.Test.YtdpbllacfljmoaaGreatZF40
import Derived.Test.YtdpbllacfljmoaaGreatZF35
import Derived.Test.YtdpbllacfljmoaaGreatZF41
import Derived.Test.YtdpbllacfljmoaaGreatZF47
import Derived.Test.YtdpbllacfljmoaaGreatZF11
import Derived.Lib.SmallJoins
import Derived.Deep.Slices
import Derived.Deep.Fields
import Derived.ChangeSame
import Derived.OpenShut
import Derived.ChangeOld
set_option maxRecDepth 100000
set_option maxHeartbeats 16000000
set_option linter.unusedVariables false
namespace Go.Proofs.YtdpbllacfljmoaaGreat
open Go.RowKit
section
variable {w w' w0 w1 w2 : World} {o p : Nat} {ρ ρ' ρ0 ρ1 ρ2 : q0o} {L : LimT} {b b' : q08} {ps B : Nat} {P P' : Nat → TxP} {rv hv : Value} {F F' : Nat → Prop} {t t' : TxS} {X : Nat → Prop}
theorem qfs {K : KsS} {lo hi : KeyS} {tm : Nat} : ∀ q ∈ q1w K lo hi tm, hasS ⟨lo, hi⟩ q.1 = true := fun q hq => by
 unfold q1w at hq
 obtain ⟨x, _, e⟩ := List.mem_filterMap.1 hq
 unfold q3J at e
 split at e
 ·rename_i hi'
  rw [← qg6]
  cases hc : getH x.2 tm with
  | none => rw [hc] at e; cases e
  | some d =>
   rw [hc] at e
   injection e with e
   rw [← e]
   exact hi'
 ·cases e
theorem StD.scanO {st : PS} {F : Nat → Prop} {LS : LimS} {w0 : World} (h : StD w ps F LS st) (hb : Below w0.heap.size w0 w) (lo hi : KeyS) (tm : Nat) :
  Calls Tryz.prog 74 #[ptrS ps, .string (bs lo), .string (bs hi), .int .u64 tm] w fun r w' => ∃ v ms, r = .returned v ∧ ms.map MP.p = q1w st.K lo hi tm ∧ OwnG 107 2 q0e w' w0.heap.size v ms ∧ (∀ x ∈ ms, FarP w0 w' v x) ∧ ms.length ≤ 1048576 ∧ Below w0.heap.size w0 w' := by
 obtain ⟨D, B, kv, cv, m, r, v, h1, h2, h3, h4, _⟩ := h
 have hs := q2S h4 h3
 have hd := q78 h1 lo hi tm (by rw [List.length_map]; exact hs.len) (q4N h2.sort) (fun k => ⟨hs.ok k, h2.rightC k⟩)
 rw [qb8 h2.sort] at hd
 refine hd.mono fun r w' ⟨v, ms, e, hm, ho, hf, hbb⟩ => ⟨v, ms, e, hm, ho.keep (fun _ _ _ => rfl) hb.size, fun x hx => ?_, ?_, hb.trans (hbb.mono hb.size)⟩
 ·obtain ⟨q1, q2, q3, q4⟩ := hf x hx
  refine ⟨q1, q2, q3, fun hn => ?_⟩
  obtain ⟨b', o', e', hD, hc⟩ := q4 hn
  exact ⟨b', o', e', ⟨Nat.le_trans hb.size hD.1, hD.2.2⟩, hc⟩
 ·have e1 : ms.length = (q1w st.K lo hi tm).length := by rw [← hm, List.length_map]
  have e2 : (q1w st.K lo hi tm).length ≤ st.K.length := by unfold q1w; exact List.length_filterMap_le _ _
  have := hs.len
  omega
theorem q77 (h : StT o w p F L b) (hsm : q0L b) (id : Int) (lo hi : KeyS) (hlo : lo.length ≤ 300) (hhi : hi.length ≤ 300) :
  Calls Tryz.prog 39 #[ptrS p, .int .i64 id, .string (bs lo), .string (bs hi)] w fun r w' => ∃ A c F', r = .returned (.tuple #[.slice A (q1P (FT L) b id lo hi).2.scan.length c, .int .i64 (q1P (FT L) b id lo hi).2.e]) ∧
   PaS w' (fun k => w.heap.size ≤ k ∧ ¬ F' k) A c (q1P (FT L) b id lo hi).2.scan ∧ q2b StT o w p F L (q1P (FT L) b id lo hi).1 w' F' := by
 have hst := h
 obtain ⟨ρ, ps, B, P, rv, hv, rfl, hraw, hok, hri, hm⟩ := h
 have HFd := qh (q33 hraw id)
 have HSt := qh hst
 have HLo := qh (fun k (hk : ownR ρ k) => (hraw.lo k hk).2)
 cases hf : ofT b id with
 | none =>
  have HE := qh (show q1P (FT L) b id lo hi = (b, errT 4) by unfold q1P; rw [hf])
  unfold q2u at HFd
  rw [hf] at HFd
  simp only at HFd
  clear hst hraw hok hri hm hsm hf
  unfold ptrS at HFd ⊢
  go_enter Tryz.func39, Tryz.ntmps39
  go_wp2_with fail
  refine HFd.out.mono ?_
  rintro e w' ⟨rfl, rfl⟩
  go_wp2
  go_ret2
  rw [HE.out]
  exact ⟨none, 0, ownR ρ, rfl, PaS.none_ _ _, HSt.out, Mut.refl _ _, fun _ h => .inl h⟩
 | some t =>
  obtain ⟨ht, hid⟩ := q1z hf
  unfold q2u at HFd
  rw [hf] at HFd
  simp only at HFd
  obtain ⟨w1, hw1⟩ : ∃ y, w.alloc (.cells #[.string (bs lo), .string (bs hi)] 131) = y := ⟨_, rfl⟩
  have hb1 : Below w.heap.size w w1 := by rw [← hw1]; exact (Below.refl _ w).alloc (Nat.le_refl _) _
  have hx1 : w1.heap[w.heap.size]? = some (.cells #[.string (bs lo), .string (bs hi)] 131 (0, 0)) := by rw [← hw1]; exact heap_alloc_new w _
  have HW1 := qh hw1
  have HB1 := qh hb1
  have i0 := cell_of_row w1 _ 0 _ _ _ hx1
  have i1 := cell_of_row w1 _ 1 _ _ _ hx1
  have hrt := qap.right ⟨lo, hi⟩ w1
  unfold q0T at hrt
  simp only at hrt
  have HRt := qh hrt
  cases hr : q0f ⟨lo, hi⟩ with
  | false =>
   have HE := qh (show q1P (FT L) b id lo hi = (b, errT 1) by unfold q1P; rw [hf]; simp only; rw [if_pos hr])
   rw [hr] at HRt
   clear hst hraw hok hri hm hsm hf ht hid hw1 hb1 hx1 hrt hr
   unfold ptrS at HFd ⊢
   go_enter Tryz.func39, Tryz.ntmps39
   go_wp2_with fail
   refine HFd.out.mono ?_
   rintro e w' ⟨rfl, rfl⟩
   go_upto_region 5 with fail
   rw [HW1.out]
   go_wp2_with fail
   refine HRt.out.mono ?_
   rintro e w2 ⟨rfl, hb2⟩
   have hbb := HB1.out.trans (hb2.mono HB1.out.size)
   go_wp2
   go_ret2
   rw [HE.out]
   exact ⟨none, 0, ownR ρ, rfl, PaS.none_ _ _, HSt.out.keep (fun k hk => hbb.block k (HLo.out k hk)) hbb.size, q0t _ hbb, fun _ h => .inl h⟩
  | true =>
   rw [hr] at HRt
   have HE := qh (show q1P (FT L) b id lo hi = (setT b (q36 (FT L) t ⟨lo, hi⟩), ⟨0, 0, [], false, q4h lo hi t.ws (q1w b.st.K lo hi t.began)⟩) by unfold q1P; rw [hf]; simp only; rw [if_neg (by rw [hr]; simp)])
   obtain ⟨_, hm1, hm2, _⟩ := q3E hm
   obtain ⟨hml, hwl, hws⟩ := q81 hsm ht
   have htb : t.began < 18446744073709551616 := Nat.lt_of_le_of_lt (hok.began t ht) hraw.time_lt
   have hrise := q7U (hok.ws t ht)
   have hsort := hok.ok.sort
   have HMk : Hid (∀ W : World, Below w1.heap.size w1 W → Calls Tryz.prog 78 #[ptrS (P t.id).q, .agg #[.string (bs lo), .string (bs hi)], .int .i64 L.marks] W fun r w' => r = .returned (.tuple #[]) ∧ q0X W o p ρ L (setT b (q36 (FT L) t ⟨lo, hi⟩)) ps B P rv hv w') :=
    qh fun W hb => q52 (hraw.below (hb1.trans (hb.mono hb1.size))) ht ⟨lo, hi⟩ (by omega) hm1 hm2
   have hz1 : ρ w.heap.size = 0 := Decidable.byContradiction fun e => by have := (hraw.lo _ e).2; omega
   have hbx : ∀ (W W' : World) (b' : q08), Below w1.heap.size w1 W → q0X W o p ρ L b' ps B P rv hv W' → W'.heap[w.heap.size]? = some (.cells #[.string (bs lo), .string (bs hi)] 131 (0, 0)) := fun W W' b' hb htn => by
    obtain ⟨ρ', P', _, k2, _⟩ := htn
    have hx := q01 hx1 hb (q00 hx1)
    exact (k2.block _ (q00 hx) (fun q => q hz1)).trans hx
   have HBx := qh hbx
   obtain ⟨S7, hS71, hS72, hS73⟩ : ∃ S : World → Prop, (∀ W : World, Below w1.heap.size w1 W → S W) ∧ (∀ (W W' : World) (b' : q08), Below w1.heap.size w1 W → q0X W o p ρ L b' ps B P rv hv W' → S W') ∧ ∀ W : World, S W → W.cell? ⟨w.heap.size, 0, none⟩ = some (.string (bs lo)) ∧ W.cell? ⟨w.heap.size, 1, none⟩ = some (.string (bs hi)) ∧ W.cell? ⟨p, 3, none⟩ = some (.int .i64 L.marks) := by
    refine ⟨_, fun W hb => ?_, fun W W' b' hb htn => ?_, fun _ h => h⟩
    ·have hx := q01 hx1 hb (q00 hx1)
     exact ⟨cell_of_row W _ 0 _ _ _ hx, cell_of_row W _ 1 _ _ _ hx, (hraw.below (hb1.trans (hb.mono hb1.size))).marksL⟩
    ·have hx := hbx W W' b' hb htn
     obtain ⟨ρ', P', k1, _⟩ := htn
     exact ⟨cell_of_row W' _ 0 _ _ _ hx, cell_of_row W' _ 1 _ _ _ hx, k1.marksL⟩
   have HKp7 := qh hS71
   have HKt7 := qh hS72
   have HRd7 := qh hS73
   have HMem := qh (q5J ht (q36 (FT L) t ⟨lo, hi⟩) rfl)
   have HRise := qh hrise
   have HWs := qh hws
   have HSort := qh hsort
   have HTb := qh htb
   clear hst hraw hok hri hm hsm hf ht hid hw1 hb1 hx1 hrt hr hrise hsort hws htb hm1 hm2 hml hz1 hbx hS71 hS72 hS73
   unfold ptrS at HFd HMk ⊢
   go_enter Tryz.func39, Tryz.ntmps39
   go_wp2_with fail
   refine HFd.out.mono ?_
   rintro e w' ⟨rfl, rfl⟩
   go_upto_region 5 with fail
   rw [HW1.out]
   go_wp2_with fail
   refine HRt.out.mono ?_
   rintro e w2 ⟨rfl, hb2⟩
   clear i0 i1
   go_upto_region 7 with fail
   refine wp_region_held_drew (S := S7) (by kernel_rfl) ?_ (fun hGd => ?_)
   ·exact HKp7.out _ hb2.drew
   refine tkS (i := 0) (v := ?_) ?_
   (try simp only [Act.put, qA, qB, qC])
   refine tkH (i := 1) (v := ?_) (fun w hSw => ?_) ?_
   rotate_left
   ·obtain ⟨z0, z1, z3⟩ := HRd7.out _ hSw; go_simp <;> with_reducible rfl
   (try simp only [Act.put, qA, qB, qC])
   refine tkS (i := 2) (v := ?_) ?_
   (try simp only [Act.put, qA, qB, qC])
   refine tkS (i := 3) (v := ?_) ?_
   (try simp only [Act.put, qA, qB, qC])
   refine tkS (i := 4) (v := ?_) ?_
   (try simp only [Act.put, qA, qB, qC])
   refine tkS (i := 5) (v := ?_) ?_
   (try simp only [Act.put, qA, qB, qC])
   refine tkH (i := 6) (v := ?_) (fun w hSw => ?_) ?_
   rotate_left
   ·obtain ⟨z0, z1, z3⟩ := HRd7.out _ hSw; go_simp <;> with_reducible rfl
   (try simp only [Act.put, qA, qB, qC])
   refine stH (i := 7) (fun K' hK => ?_)
   go_simp
   go_at_call 78; with_reducible refine (HMk.out _ hb2.drew).mono ?_; rintro r w4 ⟨rfl, ht4⟩
   (first | (refine hK.out _ _ ?_ (fun hG2 => ?_)) | (go_wp2_with fail; refine hK.out _ _ ?_ (fun hG2 => ?_)))
   ·exact HKt7.out _ _ _ hb2.drew ht4
   clear hK K' hGd
   have hGd := hG2
   clear hG2
   (try simp only [Act.put, qA, qB, qC])
   refine wpAnyH_done (by kernel_rfl) ?_ _
   have hbx4 := HBx.out _ _ _ hb2.drew ht4
   obtain ⟨ρ4, P4, hraw4, hm4, ho4, hp4, _, _⟩ := ht4
   have hq4 : (P4 (q36 (FT L) t ⟨lo, hi⟩).id).q = (P t.id).q := (hp4 t.id).1
   have HSc : Hid (∀ W : World, Below w4.heap.size w4 W → Calls Tryz.prog 74 #[ptrS ps, .string (bs lo), .string (bs hi), .int .u64 (t.began : Nat)] W fun r w' => ∃ v ms, r = .returned v ∧ ms.map MP.p = q1w b.st.K lo hi t.began ∧ OwnG 107 2 q0e w' w4.heap.size v ms ∧ (∀ x ∈ ms, FarP w4 w' v x) ∧ ms.length ≤ 1048576 ∧ Below w4.heap.size w4 w') :=
    qh fun W hb => (hraw4.below hb).store.scanO hb lo hi t.began
   have HOv : Hid (∀ (W : World) (v : Value) (ms : List MP), Below w4.heap.size w4 W → OwnG 107 2 q0e W w4.heap.size v ms → (∀ x ∈ ms, FarP w4 W v x) → ms.map MP.p = q1w b.st.K lo hi t.began → ms.length ≤ 1048576 →
     Calls Tryz.prog 82 #[ptrS (P t.id).q, v, .agg #[.string (bs lo), .string (bs hi)]] W fun r w' => ∃ A c, r = .returned (.slice A (q4h lo hi t.ws (q1w b.st.K lo hi t.began)).length c) ∧ PaS w' (fun k => w4.heap.size ≤ k) A c (q4h lo hi t.ws (q1w b.st.K lo hi t.began)) ∧ Below w4.heap.size w4 w') := qh fun W v ms hb ho hf hmm hl => by
    have q := qcV (t := q36 (FT L) t ⟨lo, hi⟩) hb (hraw4.below hb) HMem.out HRise.out hwl HWs.out lo hi ms v ho hf (fun k hk => Decidable.byContradiction fun e => by have := (hraw4.lo k e).2; omega) hl (by rw [hmm]; exact q6C HSort.out lo hi t.began) (by rw [hmm]; exact qfs)
    rw [hmm, hq4] at q
    exact q
   obtain ⟨S8, hS81, hS82⟩ : ∃ S : World → Prop, (∀ W : World, Below w4.heap.size w4 W → S W) ∧ ∀ W : World, S W → W.cell? ⟨w'.heap.size, 0, none⟩ = some (.string (bs lo)) ∧ W.cell? ⟨w'.heap.size, 1, none⟩ = some (.string (bs hi)) ∧ W.cell? ⟨p, 7, none⟩ = some (ptrS ps) ∧ W.cell? ⟨(P t.id).q, 0, none⟩ = some (.int .u64 (t.began : Nat)) := by
    refine ⟨fun W => Below w4.heap.size w4 W, fun _ hb => hb, fun W hb => ?_⟩
    have hx := q01 hbx4 hb (q00 hbx4)
    have hc := ((hraw4.below hb).txs _ HMem.out).began_
    rw [hq4] at hc
    exact ⟨cell_of_row W _ 0 _ _ _ hx, cell_of_row W _ 1 _ _ _ hx, (hraw4.below hb).store_, hc⟩
   have HKp8 := qh hS81
   have HRd8 := qh hS82
   have HRaw4 := qh hraw4
   have HM4 := qh hm4
   have HO4 := qh ho4
   have HB2 := qh (HB1.out.trans (hb2.mono HB1.out.size))
   clear hS81 hS82 hraw4 hm4 ho4 hp4 hq4 hbx4 hGd hb2 HMk HBx HKp7 HKt7 HRd7
   unfold ptrS at HSc HOv HRd8
   go_upto_region 8 with fail
   refine wp_region_held_drew (S := S8) (by kernel_rfl) ?_ (fun hGd => ?_)
   ·exact HKp8.out _ (Below.refl _ _).drew
   refine tkS (i := 0) (v := ?_) ?_
   (try simp only [Act.put, qA, qB, qC])
   refine tkS (i := 1) (v := ?_) ?_
   (try simp only [Act.put, qA, qB, qC])
   refine tkS (i := 2) (v := ?_) ?_
   (try simp only [Act.put, qA, qB, qC])
   refine tkS (i := 3) (v := ?_) ?_
   (try simp only [Act.put, qA, qB, qC])
   refine tkH (i := 4) (v := ?_) (fun w hSw => ?_) ?_
   rotate_left
   ·obtain ⟨z0, z1, z7, zq⟩ := HRd8.out _ hSw; go_simp <;> with_reducible rfl
   (try simp only [Act.put, qA, qB, qC])
   refine tkS (i := 5) (v := ?_) ?_
   (try simp only [Act.put, qA, qB, qC])
   refine tkS (i := 6) (v := ?_) ?_
   (try simp only [Act.put, qA, qB, qC])
   refine tkS (i := 7) (v := ?_) ?_
   (try simp only [Act.put, qA, qB, qC])
   refine tkS (i := 8) (v := ?_) ?_
   (try simp only [Act.put, qA, qB, qC])
   refine tkS (i := 9) (v := ?_) ?_
   (try simp only [Act.put, qA, qB, qC])
   refine tkH (i := 10) (v := ?_) (fun w hSw => ?_) ?_
   rotate_left
   ·obtain ⟨z0, z1, z7, zq⟩ := HRd8.out _ hSw; go_simp <;> with_reducible rfl
   (try simp only [Act.put, qA, qB, qC])
   refine tkH (i := 12) (v := ?_) (fun w hSw => ?_) ?_
   rotate_left
   ·obtain ⟨z0, z1, z7, zq⟩ := HRd8.out _ hSw; go_simp <;> with_reducible rfl
   (try simp only [Act.put, qA, qB, qC])
   refine stH (i := 11) (fun K' hK => ?_)
   go_simp
   go_at_call 74; with_reducible refine (HSc.out _ (Below.refl _ _).drew).mono ?_; rintro r w5 ⟨v5, ms5, rfl, hm5, ho5, hf5, hl5, hb5⟩
   (first | (refine hK.out _ _ ?_ (fun hG2 => ?_)) | (go_wp2_with fail; refine hK.out _ _ ?_ (fun hG2 => ?_)))
   ·exact HKp8.out _ hb5
   clear hK K' hGd
   have hGd := hG2
   clear hG2
   (try simp only [Act.put, qA, qB, qC])
   refine stH (i := 13) (fun K' hK => ?_)
   go_simp
   go_at_call 82; with_reducible refine (HOv.out _ _ _ hb5 ho5 hf5 hm5 hl5).mono ?_; rintro r w6 ⟨A6, c6, rfl, hp6, hb6⟩
   (first | (refine hK.out _ _ ?_ (fun hG2 => ?_)) | (go_wp2_with fail; refine hK.out _ _ ?_ (fun hG2 => ?_)))
   ·exact HKp8.out _ hb6
   clear hK K' hGd
   have hGd := hG2
   clear hG2
   (try simp only [Act.put, qA, qB, qC])
   refine tkS (i := 14) (v := ?_) ?_
   (try simp only [Act.put, qA, qB, qC])
   refine tkS (i := 15) (v := ?_) ?_
   (try simp only [Act.put, qA, qB, qC])
   refine wpAnyH_done (by kernel_rfl) ?_ _
   go_wp2_with fail
   go_ret2
   have hraw6 := HRaw4.out.below hb6
   have hfin : StT o w6 p (ownR ρ4) L (q1P (FT L) b id lo hi).1 := by
    refine StT.turn (op := ⟨2, id, ⟨lo, false, []⟩, hi⟩) HSt.out ⟨ρ4, ps, B, P4, rv, hv, rfl, ?_⟩
    show RawB w6 o p ρ4 L (q1P (FT L) b id lo hi).1 ps B P4 rv hv
    rw [HE.out]
    exact hraw6
   have hs2 := HB2.out.size
   have hs4 := HM4.out.size
   have hsd : w2.drew.heap.size = w2.heap.size := rfl
   rw [HE.out] at hfin ⊢
   refine ⟨A6, c6, ownR ρ4, rfl, PaS.keep hp6 fun g hg hgl => ⟨rfl, by omega, fun q => by have := (HRaw4.out.lo g q).2; omega⟩, hfin, ?_, fun k hk => ?_⟩
   ·exact ((q0t (ownR ρ) HB2.out.drew).trans HM4.out fun _ h => .inl h).trans (q0t (ownR ρ) hb6) fun _ h => .inl h
   ·rcases HO4.out k hk with q | q
    ·exact .inl q
    ·exact .inr (by omega)
end
open Go.RowKit
section
variable {w w' : World} {o p : Nat} {F : Nat → Prop} {L : LimT} {b : q08}
theorem StT.upto (h : StT o w p F L b) : ∀ k, F k → o ≤ k ∧ k < w.heap.size := by
 obtain ⟨ρ, ps, B, P, rv, hv, rfl, hraw, h2⟩ := h
 exact fun k hk => hraw.lo k hk
theorem StT.okay (h : StT o w p F L b) : MayT L = true ∧ OkS b.st ∧ InS L.s b.st := by
 obtain ⟨ρ, ps, B, P, rv, hv, rfl, hraw, hok, hri, hm⟩ := h
 exact ⟨hm, hok.ok, hok.ins⟩
theorem StT.rawF (h : StT o w p F L b) : ∃ (ρ : q0o) (ps B : Nat) (P : Nat → TxP) (rv hv : Value), RawB w o p ρ L b ps B P rv hv ∧ IdsT b.live := by
 obtain ⟨ρ, ps, B, P, rv, hv, rfl, hraw, hok, hri, hm⟩ := h
 exact ⟨ρ, ps, B, P, rv, hv, hraw, hok.ids⟩
end
theorem ChP.paS {w : World} {lo hi : Nat} {A : Option Addr} {c : Nat} {l : List (KeyS × List UInt8)} {R : Nat → Prop} (h : ChP w lo hi A c l) (hr : ∀ k, lo ≤ k → k < hi → R k) : PaS w R A c l := by
 obtain ⟨h1, h2, h3, ms, e, h4, h5⟩ := h
 exact ⟨h1, h2, h3, ms, e, fun hn => by
  obtain ⟨b, o, e, q1, q2, hc⟩ := h4 hn
  exact ⟨b, o, e, hr b q1 q2, hc⟩, fun x hx => (h5 x hx).byS hr⟩
theorem ByS.resN {w w' : World} {F' : Nat → Prop} {o : Nat} {A : Option Addr} {c : Nat} {l : List (KeyS × List UInt8)} (h : PaS w' (fun k => w.heap.size ≤ k ∧ ¬ F' k) A c l) : PaS w' (ResT F' o w) A c l := h.keep fun _ hg _ => ⟨rfl, .inr (.inr hg.1)⟩
theorem txnC : TxnC StT where
 keep := fun h hk hs => h.keep (fun k hf => hk k (.inl hf) (h.upto k hf).2) hs
 upto := fun h => h.upto
 okay := fun h => h.okay
 new := fun L o w ho h1 h2 h3 h4 _ _ _ => qcT L o w ho h1 h2 h3 h4
 begin_ := fun o p F L b w h hs => q9H h hs
 read := fun o p F L b id key w h hs hi hk => (q76 h hs id key hk).mono fun _ _ ⟨A, c, F', e, h1, h2⟩ => ⟨A, c, F', e, h1.res, h2⟩
 scan := fun o p F L b id lo hi w h hs hid hlo hhi => (q77 h hs id lo hi hlo hhi).mono fun _ _ ⟨A, c, F', e, h1, h2⟩ => ⟨A, c, F', e, ByS.resN h1, h2⟩
 write := fun o p F L b id x A c w h hs hi hx hd => (qa0 h hs id x A c hx hd.sl).mono fun _ _ ⟨e, F', h1, h2, h3⟩ => ⟨e, F', h1, h2, fun k hk => (h3 k hk).elim .inl fun q => .inr (.inl q)⟩
 commit := fun o p F L b id w h hs hi => q8o h hs id
 abort := fun o p F L b id w h hs hi => q9G h hs id
 collect := fun o p F L b w h hs => q7C h
 low := fun o p F L b w h hs => by
  obtain ⟨ρ, ps, B, P, rv, hv, hraw, hi⟩ := h.rawF
  exact q4x hraw hi
 now := fun o p F L b w h => by
  obtain ⟨ρ, ps, B, P, rv, hv, hraw, hi⟩ := h.rawF
  exact (qcU hraw).mono fun _ _ q => ⟨q.1, by rw [q.2]; exact Below.refl _ _⟩
 live := fun o p F L b w h hs => qbD h hs
 records := fun o p F L b w h hs => q7F h hs
 history := fun o p F L b w h hs => q7E h hs
 all := fun o p F L b w h => by
  obtain ⟨ρ, ps, B, P, rv, hv, hraw, hi⟩ := h.rawF
  exact (q8m hraw).mono fun _ _ ⟨A, c, e, h1, h2⟩ => ⟨A, c, e, h1.paS fun k q _ => .inr (.inr q), h2⟩
 count := fun o p F L b w h => by
  obtain ⟨ρ, ps, B, P, rv, hv, hraw, hi⟩ := h.rawF
  exact q9P hraw
theorem txnO : TxnO StT where
 read := fun o p F L b id key w h hs hi hk => q76 h hs id key hk
 scan := fun o p F L b id lo hi w h hs hid hlo hhi => q77 h hs id lo hi hlo hhi
 all := fun o p F L b w h => by
  obtain ⟨ρ, ps, B, P, rv, hv, hraw, hi⟩ := h.rawF
  exact (q8m hraw).mono fun _ _ ⟨A, c, e, h1, h2⟩ => ⟨A, c, e, h1.paS fun k q _ => q, h2⟩
open Go.Joins Go.ChangeShapes Go.WideShapes Go.ChangeAt Go.RowKit Go.Deep
theorem qaV : laidOutB Tryz.prog = true := by kernel_rfl
theorem q9A : Tryz.prog.cellsOf 37 = 3 := by kernel_rfl
theorem qeQ : Tryz.prog.cellsOf 39 = 6 := by kernel_rfl
theorem qcy : Tryz.prog.cellsOf 24 = 7 := by kernel_rfl
theorem qcA : Tryz.prog.cellsOf 22 = 1 := by kernel_rfl
theorem q8h : Tryz.prog.cellsOf 3 = 1 := by kernel_rfl
theorem qbq : Tryz.prog.cellsOf 4 = 1 := by kernel_rfl
theorem q8i : Tryz.prog.cellsOf 9 = 1 := by kernel_rfl
theorem q9z : Tryz.prog.cellsOf 35 = 1 := by kernel_rfl
theorem qfz {z : Int} (h : (Lit.int .u64 z).wf = true) : ∃ n : Nat, z = (n : Int) ∧ n < 18446744073709551616 := by
 simp [Lit.wf, IntKind.min, IntKind.max, IntKind.bits, IntKind.signed] at h
 exact ⟨z.toNat, by omega, by omega⟩
theorem q3z {a : Int} (h : (Lit.int .i64 a).wf = true) : I64 a := by
 simp [Lit.wf, IntKind.min, IntKind.max, IntKind.bits, IntKind.signed] at h
 exact ⟨by omega, by omega⟩
theorem qcv {s : ByteArray} (h : s.size ≤ maxLen) : s.data.toList.length ≤ maxLen := h
section
variable {H : Type} {enc : TypeId × Value → H} {W : World}
theorem q9y {fuel : Nat} {cs : List Value} {y : DataW H × List MemPlace} (h : DataW.trod enc Tryz.prog W 0 (fun _ => true) true fuel 35 cs = some y) : ∃ A c, ∃ l : List UInt8, cs = [.slice A l.length c] ∧ SlI W 0 W.heap.size A c l := by
 rcases open_ints Tryz.underlying35 Tryz.underlying5 (by kernel_rfl) h with ⟨hcs, _⟩ | ⟨x, n, c, zs, hcs, _, hl, hm, hz, _, hcell, hwz⟩
 ·exact ⟨none, 0, [], hcs, SlI.none_ _ _ _⟩
 ·obtain ⟨l, rfl, h1, h2, h3, h4⟩ := qeP (w := W) (a := some x) (len := n) (cap := c) (zs := zs) (.inr ⟨_, rfl, hl, hm, by simpa using hz, hcell, hwz⟩)
  exact ⟨some x, c, l, hcs, h1, h2, h3, h4⟩
theorem q9s {fuel : Nat} {cs : List Value} {y : DataW H × List MemPlace} (hlen0 : cs.length = 3) (h : DataW.trod enc Tryz.prog W 0 (fun _ => true) true fuel 37 cs = some y) : ∃ x : MW, cs = q0l x ∧ OkMW W 0 W.heap.size x := by
 match cs, hlen0 with
 | [c0, c1, c2], _ =>
  obtain ⟨xs, n, _, hx, _, hlen, hg⟩ := DataW.trod_struct Tryz.underlying37 h
  have g0 := hg 0 _ rfl
  have g1 := hg 1 _ rfl
  have g2 := hg 2 _ rfl
  match xs, hlen with
  | [y0, y1, y2], _ =>
   simp [q8i, qbq, q9z] at g0 g1 g2
   obtain ⟨s, e0, _, hs⟩ := DataW.trod_string Tryz.underlying9 g0
   obtain ⟨b, e1, _⟩ := DataW.trod_bool Tryz.underlying4 g1
   obtain ⟨A, c, l, e2, hl⟩ := q9y g2
   simp at e0 e1 e2
   exact ⟨⟨⟨s.data.toList, b, l⟩, A, c⟩, by rw [e0, e1, e2]; simp only [q0l]; rw [← qgB], qcv hs, hl⟩
theorem qdP {fuel : Nat} {cs : List Value} {y : DataW H × List MemPlace} (hlen0 : cs.length = 6) (h : DataW.trod enc Tryz.prog W 0 (fun _ => true) true fuel 39 cs = some y) : ∃ x : MOT, cs = q6y x ∧ OkOT W W.heap.size x := by
 obtain ⟨xs, n, _, hx, _, hlen, hg⟩ := DataW.trod_struct Tryz.underlying39 h
 have g0 := hg 0 _ rfl
 have g1 := hg 1 _ rfl
 have g2 := hg 2 _ rfl
 have g3 := hg 3 _ rfl
 match cs, hlen0 with
 | [c0, c1, c2, c3, c4, c5], _ =>
  match xs, hlen with
  | [y0, y1, y2, y3], _ =>
   simp [q8i, q8h, q9A] at g0 g1 g2 g3
   obtain ⟨k0, e0, _, h0⟩ := DataW.trod_int Tryz.underlying3 g0
   obtain ⟨k1, e1, _, h1⟩ := DataW.trod_int Tryz.underlying3 g1
   obtain ⟨⟨x, A, c⟩, e2, hk, hd⟩ := q9s rfl g2
   obtain ⟨s3, e3, _, h3⟩ := DataW.trod_string Tryz.underlying9 g3
   simp only [q0l] at e2
   simp at e0 e1 e2 e3
   exact ⟨⟨⟨k0, k1, x, s3.data.toList⟩, A, c⟩, by rw [e0, e1, e2.1, e2.2.1, e2.2.2, e3]; simp only [q6y]; rw [← qgB], q3z h0, q3z h1, hk, qcv h3, hd⟩
theorem qgk {fuel : Nat} {v : Value} {y : DataW H × List MemPlace} (h : DataW.trod enc Tryz.prog W 0 (fun _ => true) true fuel 25 [v] = some y) :
  ∃ (A : Option Addr) (c : Nat) (l : List OpT), v = .slice A l.length c ∧ ChOT W W.heap.size A c l := by
 obtain ⟨A, c, ms, e, _, h2, h3, h4, h5, h6⟩ := qfp otF Tryz.underlying25 qeQ (p := fun x => OkOT W W.heap.size x) (fun _ _ _ hl ht => qdP hl ht) h
 exact ⟨A, c, ms.map MOT.o, by rw [List.length_map]; exact e, by rw [List.length_map]; exact h3, h4, h5, ms, rfl, h6, h2⟩
theorem qgc {r : Go.Reach} {b0 : Nat} {v : Value} {d : DataW H} {p : List MemPlace} (hv : Value.okWide Tryz.prog W r b0 24 v) (h : DataW.Trod enc Tryz.prog W 0 (fun _ => true) true 24 v d p) :
  ∃ L : LimT, v = limT L ∧ I64 L.s.keys ∧ I64 L.s.vers ∧ I64 L.s.byts ∧ L.s.last < 18446744073709551616 ∧ I64 L.marks ∧ I64 L.recs ∧ I64 L.live := by
 obtain ⟨cs, rfl, hsz⟩ := okWide_struct Tryz.underlying24 hv
 obtain ⟨l⟩ := cs
 match l, hsz.trans qcy with
 | [c0, c1, c2, c3, c4, c5, c6], _ =>
  obtain ⟨fuel, hf⟩ := h
  have hf : DataW.trod enc Tryz.prog W 0 (fun _ => true) true fuel 24 [c0, c1, c2, c3, c4, c5, c6] = some (d, p) := by simpa [Value.cells] using hf
  obtain ⟨xs, n, _, hx, _, hlen, hg⟩ := DataW.trod_struct Tryz.underlying24 hf
  have g0 := hg 0 _ rfl
  have g1 := hg 1 _ rfl
  have g2 := hg 2 _ rfl
  have g3 := hg 3 _ rfl
  have g4 := hg 4 _ rfl
  have g5 := hg 5 _ rfl
  have g6 := hg 6 _ rfl
  match xs, hlen with
  | [y0, y1, y2, y3, y4, y5, y6], _ =>
   simp [q8h, qcA] at g0 g1 g2 g3 g4 g5 g6
   obtain ⟨k0, e0, _, h0⟩ := DataW.trod_int Tryz.underlying3 g0
   obtain ⟨k1, e1, _, h1⟩ := DataW.trod_int Tryz.underlying3 g1
   obtain ⟨k2, e2, _, h2⟩ := DataW.trod_int Tryz.underlying3 g2
   obtain ⟨k3, e3, _, h3⟩ := DataW.trod_int Tryz.underlying3 g3
   obtain ⟨k4, e4, _, h4⟩ := DataW.trod_int Tryz.underlying3 g4
   obtain ⟨k5, e5, _, h5⟩ := DataW.trod_int Tryz.underlying3 g5
   obtain ⟨k6, e6, _, h6⟩ := DataW.trod_int Tryz.underlying22 g6
   obtain ⟨last, rfl, hlast⟩ := qfz h6
   simp at e0 e1 e2 e3 e4 e5 e6
   exact ⟨⟨⟨k0, k1, k2, last⟩, k3, k4, k5⟩, by rw [e0, e1, e2, e3, e4, e5, e6]; rfl, q3z h0, q3z h1, q3z h2, hlast, q3z h3, q3z h4, q3z h5⟩
end
end Go.Proofs.YtdpbllacfljmoaaGreat
