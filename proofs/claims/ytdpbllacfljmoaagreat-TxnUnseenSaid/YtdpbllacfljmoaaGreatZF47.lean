import Derived.Test.YtdpbllacfljmoaaGreatZF46
import Derived.Test.YtdpbllacfljmoaaGreatZF41
import Derived.Shelf.Abstract
import Derived.Deep.LoopGhost
import Derived.Deep.DeepCutAuto
import Derived.Test.YtdpbllacfljmoaaGreatZF30
set_option maxRecDepth 100000
set_option maxHeartbeats 16000000
set_option linter.unusedVariables false
namespace Go.Proofs.YtdpbllacfljmoaaGreat
open Go.RowKit
theorem q4e (i : Nat) (u : TxS) (e : u.id = i) : ∀ l : List TxS, (l.map fun x => if x.id = u.id then u else x).filter (fun x => decide (x.id ≠ i)) = l.filter fun x => decide (x.id ≠ i)
 | [] => rfl
 | x :: l => by
  rw [List.map_cons]
  by_cases h : x.id = u.id
  ·rw [if_pos h, List.filter_cons_of_neg (by simp [e]), List.filter_cons_of_neg (by simp [h, e])]
   exact q4e i u e l
  ·rw [if_neg h, List.filter_cons_of_pos (by simp; omega), List.filter_cons_of_pos (by simp; omega), q4e i u e l]
theorem q6e (F : List Sp → List Sp) (L : LimT) (b : q08) (u t : TxS) (e : u.id = t.id) (st : PS) (r : List RecS) (h : List q47) (la ev : Nat) : q27 F L ⟨st, (setT b u).live, r, h, la, ev⟩ t = q27 F L ⟨st, b.live, r, h, la, ev⟩ t := by
 have hf : (setT b u).live.filter (fun x => decide (x.id ≠ t.id)) = b.live.filter fun x => decide (x.id ≠ t.id) := q4e t.id u e b.live
 unfold q27
 simp only
 rw [hf]
section
variable {w w' w0 w1 w2 : World} {o p : Nat} {ρ ρ' ρ0 ρ1 ρ2 : q0o} {L : LimT} {b b' : q08} {ps B : Nat} {P P' : Nat → TxP} {rv hv : Value} {F F' : Nat → Prop} {t t' : TxS} {X : Nat → Prop}
theorem q8l {id : Int} (h : ofT b id = some t) : q0r (FT L) L b id = (q27 (FT L) L (q1K L b t).1 t, (q1K L b t).2) := by
 unfold q0r
 rw [h]
 simp only
 unfold q1K
 split
 ·rfl
 ·cases hj : q1M b.recs (askT (FT L) b.st t) with
  | none =>
   simp only
   have e := q6e (FT L) L b (q2m L b.st t) t rfl b.st b.recs b.hist b.last b.event
   rw [← e]
   rfl
  | some out =>
   simp only
   split
   ·rw [q6e (FT L) L b (q2m L b.st t) t rfl]
   ·rw [q6e (FT L) L b (q2m L b.st t) t rfl]
theorem qdm (hok : OkTx L (fitN L.marks) b) : IdsT (q1K L b t).1.live := by
 unfold q1K
 split
 ·exact hok.ids
 ·split
  ·exact q3T hok.ids _
  ·split
   ·exact q3T hok.ids _
   ·exact q3T hok.ids _
theorem qbO (hok : OkTx L (fitN L.marks) b) (hri : q4V b.recs) : q4V (q1K L b t).1.recs := by
 unfold q1K
 split
 ·exact hri
 ·split
  ·exact hri
  ·split
   ·exact hri
   ·rename_i e
    have h0 := q8k (Decidable.not_not.1 e)
    refine List.pairwise_append.2 ⟨hri, List.pairwise_singleton _ _, fun x hx y hy => ?_⟩
    rw [List.mem_singleton] at hy
    subst hy
    have := (hok.recs x hx).last
    show x.last ≤ max _ 1
    omega
theorem qbN (hsm : q0L b) (ht : t ∈ b.live) : okRs (q1K L b t).1.recs := by
 have h0 := q58 hsm
 unfold q1K
 split
 ·exact h0
 ·split
  ·exact h0
  ·split
   ·exact h0
   ·have h1 := hsm.1
    unfold WgtT at h1
    have h2 : wTx t ≤ (b.live.map wTx).sum := q4P wTx ht
    have h3 : wTx t = 3 * (1 + t.marks.length + t.ws.length) := rfl
    have h4 := q3D (qd1 L) b.st t t.ws t.marks
    have h5 : (q1F (FT L) (q06 b.st t)).length ≤ (q06 b.st t).length := by
     have q1 := q3j (n := L.marks) (q0a ((q06 b.st t).map fun w => q0j w.key))
     have q2 := q1u ((q06 b.st t).map fun w => q0j w.key)
     rw [List.length_map] at q2
     rw [q7v]
     omega
    have h6 : (q1y (FT L) b.st t).length + (q06 b.st t).length ≤ t.marks.length + t.ws.length := h4
    refine ⟨?_, ?_⟩
    ·show (b.recs ++ [_]).length ≤ 1000
     rw [List.length_append, List.length_singleton]
     omega
    ·show q0C (b.recs ++ [_]) ≤ 1000
     unfold q0C at h1 ⊢
     rw [List.map_append, List.sum_append]
     simp only [List.map_cons, List.map_nil, List.sum_cons, List.sum_nil]
     omega
theorem StT.reached {op : OpT} (h : StT o w p (ownR ρ) L b) (hr : RawB w' o p ρ' L (q1g (FT L) L b op).1 ps B P' rv hv) (hre : Reach ρ w ρ' w') : ∃ F', q2b StT o w p (ownR ρ) L (q1g (FT L) L b op).1 w' F' :=
 ⟨ownR ρ', StT.turn h ⟨ρ', ps, B, P', rv, hv, rfl, hr⟩, hre.1, hre.2⟩
theorem q8o (h : StT o w p F L b) (hsm : q0L b) (id : Int) : Calls Tryz.prog 42 #[ptrS p, .int .i64 id] w fun r w' => r = .returned (.tuple #[.int .u64 ((q0r (FT L) L b id).2.n : Nat), .int .i64 (q0r (FT L) L b id).2.e]) ∧ ∃ F', q2b StT o w p F L (q0r (FT L) L b id).1 w' F' := by
 have hst := h
 obtain ⟨ρ, ps, B, P, rv, hv, rfl, hraw, hok, hri, hm⟩ := h
 have hfin : ∀ (w' : World) (ρ' : q0o) (P' : Nat → TxP) (rv' hv' : Value), RawB w' o p ρ' L (q0r (FT L) L b id).1 ps B P' rv' hv' → Reach ρ w ρ' w' → ∃ F', q2b StT o w p (ownR ρ) L (q0r (FT L) L b id).1 w' F' := fun w' ρ' P' rv' hv' h1 h2 => StT.reached (op := ⟨4, id, ⟨[], false, []⟩, []⟩) hst h1 h2
 have HFin := qh hfin
 have HFd := qh (q33 hraw id)
 cases hf : ofT b id with
 | none =>
  have HE := qh (show q0r (FT L) L b id = (b, errT 4) by unfold q0r; rw [hf])
  have HRaw := qh hraw
  unfold q2u at HFd
  rw [hf] at HFd
  simp only at HFd
  clear hst hraw hok hri hm hfin hf hsm
  unfold ptrS at HFd ⊢
  go_enter Tryz.func42, Tryz.ntmps42
  go_wp2_with fail
  refine HFd.out.mono ?_
  rintro e w' ⟨rfl, rfl⟩
  go_wp2
  go_ret2
  have q := HFin.out w' ρ P rv hv
  rw [HE.out] at q ⊢
  exact ⟨rfl, q HRaw.out (Reach.refl _ _)⟩
 | some t =>
  obtain ⟨ht, hid⟩ := q1z hf
  have HE := qh (q8l (L := L) hf)
  unfold q2u at HFd
  rw [hf] at HFd
  simp only at HFd
  have hin := q7D hraw hok hsm hm ht
  have HIds := qh (qdm (t := t) hok)
  have HRise := qh (qbO (t := t) hok hri)
  have HOkr := qh (qbN (L := L) hsm ht)
  have HM := qh hm
  rw [hid] at hin
  have HIn := qh hin
  have HId := qh hid
  clear hst hraw hok hri hm hfin hf hsm ht hid hin
  generalize q1K L b t = I at *
  obtain ⟨I1, I2⟩ := I
  simp only at HIn HIds HRise HOkr
  unfold ptrS at HFd HIn ⊢
  go_enter Tryz.func42, Tryz.ntmps42
  go_wp2_with fail
  refine HFd.out.mono ?_
  rintro e w' ⟨rfl, rfl⟩
  go_wp2_with fail
  refine HIn.out.mono ?_
  rintro e w2 ⟨rfl, ρ2, P2, rv2, hv2, hraw2, hre2, _⟩
  have hend := q8p hraw2 HIds.out HRise.out HOkr.out HM.out t
  rw [HId.out] at hend
  have HEnd := qh hend
  have HRe2 := qh hre2
  clear hraw2 hre2 hend
  unfold ptrS at HEnd
  go_wp2_with fail
  refine HEnd.out.mono ?_
  rintro e w3 ⟨rfl, ρ3, P3, rv3, hv3, hraw3, hre3, _⟩
  have q := HFin.out w3 ρ3 P3 rv3 hv3
  rw [HE.out] at q
  have HQ := qh (q hraw3 (HRe2.out.trans hre3))
  clear q hraw3 hre3
  go_wp2_with fail
  go_ret2
  rw [HE.out]
  exact ⟨rfl, HQ.out⟩
theorem q9G (h : StT o w p F L b) (hsm : q0L b) (id : Int) : Calls Tryz.prog 56 #[ptrS p, .int .i64 id] w fun r w' => r = .returned (.int .i64 (q1X (FT L) L b id).2.e) ∧ ∃ F', q2b StT o w p F L (q1X (FT L) L b id).1 w' F' := by
 have hst := h
 obtain ⟨ρ, ps, B, P, rv, hv, rfl, hraw, hok, hri, hm⟩ := h
 have hfin : ∀ (w' : World) (ρ' : q0o) (P' : Nat → TxP) (rv' hv' : Value), RawB w' o p ρ' L (q1X (FT L) L b id).1 ps B P' rv' hv' → Reach ρ w ρ' w' → ∃ F', q2b StT o w p (ownR ρ) L (q1X (FT L) L b id).1 w' F' := fun w' ρ' P' rv' hv' h1 h2 => StT.reached (op := ⟨5, id, ⟨[], false, []⟩, []⟩) hst h1 h2
 have HFin := qh hfin
 have HFd := qh (q33 hraw id)
 cases hf : ofT b id with
 | none =>
  have HE := qh (show q1X (FT L) L b id = (b, errT 4) by unfold q1X; rw [hf])
  have HRaw := qh hraw
  unfold q2u at HFd
  rw [hf] at HFd
  simp only at HFd
  clear hst hraw hok hri hm hfin hf hsm
  unfold ptrS at HFd ⊢
  go_enter Tryz.func56, Tryz.ntmps56
  go_wp2_with fail
  refine HFd.out.mono ?_
  rintro e w' ⟨rfl, rfl⟩
  go_wp2
  go_ret
  have q := HFin.out w' ρ P rv hv
  rw [HE.out] at q ⊢
  exact ⟨rfl, q HRaw.out (Reach.refl _ _)⟩
 | some t =>
  obtain ⟨ht, hid⟩ := q1z hf
  have HE := qh (show q1X (FT L) L b id = (q27 (FT L) L b t, errT 0) by unfold q1X; rw [hf])
  unfold q2u at HFd
  rw [hf] at HFd
  simp only at HFd
  have hend := q8p hraw hok.ids hri (q58 hsm) hm t
  rw [hid] at hend
  have HEnd := qh hend
  clear hst hraw hok hri hm hfin hf hsm ht hid hend
  unfold ptrS at HFd HEnd ⊢
  go_enter Tryz.func56, Tryz.ntmps56
  go_wp2_with fail
  refine HFd.out.mono ?_
  rintro e w' ⟨rfl, rfl⟩
  go_wp2_with fail
  refine HEnd.out.mono ?_
  rintro e w3 ⟨rfl, ρ3, P3, rv3, hv3, hraw3, hre3, _⟩
  have q := HFin.out w3 ρ3 P3 rv3 hv3
  rw [HE.out] at q
  have HQ := qh (q hraw3 hre3)
  clear q hraw3 hre3
  go_wp2_with fail
  go_ret
  rw [HE.out]
  exact ⟨rfl, HQ.out⟩
end
open Go.RowKit
def valP (x : MP) : Value := .agg (q0e x).toArray
theorem q67 (p : MP → Bool) (g : Nat) (lb : Array Value) (eg : ∀ args w, (callFunc g args).run Tryz.prog w = .ok (.enter g args) w) (l : List MP) (A : Option Addr) (c : Nat) (J : Nat → World → Prop) (w : World) (hl : l.length ≤ 2000000)
  (hrow : ∀ j W, J j W → RowG q0e W 0 W.heap.size A l) (hcall : ∀ (W : World) (j : Nat) (hj : j < l.length), J j W → Calls Tryz.prog g (#[valP (l[j]'hj)] ++ lb) W fun e w' => e = .returned (.bool (p (l[j]'hj))) ∧ J (j + 1) w') (h0 : J 0 w) :
  Calls Tryz.prog 181 #[.slice A l.length c, .func (.func g) #[] lb] w fun e w' => ∃ z : Int, e = .returned (.int .i64 z) ∧ AtG l p z ∧ J (q5j l z) w' := by
 have HRow := qh hrow
 have HCall := qh hcall
 have H0 := qh h0
 clear hrow hcall h0
 go_enter Tryz.func181, Tryz.ntmps181
 go_wp2
 go_loopg [5, 8] l.length (fun q _ i wr => ∃ j : Nat, j + q = l.length ∧ i = .int .i64 j ∧ (∀ i (hi : i < l.length), i < j → p (l[i]'hi) = false) ∧ J j wr)
 case atStart => exact ⟨0, by omega, rfl, fun i _ h => absurd h (by omega), H0.out⟩
 case round =>
  obtain ⟨j, hk, rfl, hall, hb⟩ := hrel
  have HK := qh hk
  have HA := qh hall
  have HJ := qh hb
  clear hall hb hk
  by_cases hj : j < l.length
  ·have hlt : decide ((j : Int) < (l.length : Int)) = true := by simpa using hj
   have hlt2 : decide (j < l.length) = true := by simpa using hj
   obtain ⟨b, o, rfl, _, _, hc⟩ := (HRow.out j wr HJ.out).at_ mpF hj
   have c0 := hc 0 _ rfl
   have c1 := hc 1 _ rfl
   simp only [Nat.add_zero] at c0
   have hcall := HCall.out wr j hj HJ.out
   have HT := qh (fun (h : p (l[j]'hj) = true) => show AtG l p (j : Int) from .inl ⟨j, hj, rfl, h, HA.out⟩)
   have HF := qh (fun (h : p (l[j]'hj) = false) => show ∀ i (hi : i < l.length), i < j + 1 → p (l[i]'hi) = false from fun i hi hij => by
     by_cases e : i = j
     ·subst e; exact h
     ·exact HA.out i hi (by omega))
   have HAs := qh (show q5j l (j : Int) = j + 1 by unfold q5j; rw [if_neg (by omega)]; simp)
   clear hc
   generalize l[j]'hj = x at *
   obtain ⟨xk, xd, xA, xc⟩ := x
   simp only at c0 c1
   unfold valP q0e at hcall
   simp only at hcall
   cases hq : p ⟨xk, xd, xA, xc⟩ with
   | true =>
    rw [hq] at hcall
    have HC := qh hcall
    have HQ := qh hq
    clear hcall hq
    go_wp2_with fail
    refine HC.out.mono ?_
    rintro e w' ⟨rfl, hb'⟩
    have HB' := qh hb'
    clear hb'
    go_wp2_with fail
    go_ret
    exact ⟨_, rfl, HT.out HQ.out, by rw [HAs.out]; exact HB'.out⟩
   | false =>
    rw [hq] at hcall
    have HC := qh hcall
    have HQ := qh hq
    clear hcall hq
    go_wp2_with fail
    refine HC.out.mono ?_
    rintro e w' ⟨rfl, hb'⟩
    have HB' := qh hb'
    clear hb'
    go_wp2_with fail
    go_roundg (gk - 1)
    case measure => have := HK.out; omega
    case rel => exact ⟨j + 1, by have := HK.out; omega, by go_num, HF.out HQ.out, HB'.out⟩
  ·have hlt : decide ((j : Int) < (l.length : Int)) = false := by simpa using hj
   have hj' : j = l.length := by have := HK.out; omega
   subst hj'
   have HN := qh (show AtG l p (-1) from .inr ⟨rfl, fun i hi => HA.out i hi hi⟩)
   go_wp2
   go_ret
   exact ⟨_, rfl, HN.out, HJ.out⟩
def q6N (n : Nat) : List Value := (Builtin.zeroCells #[.string ⟨#[]⟩, .slice none 0 0] n).toList
theorem qgG : (Tryz.prog.info? 107).map (fun i => i.zero.map (fun z => z.cells.toList)) = some (some [.string ⟨#[]⟩, .slice none 0 0]) := by kernel_rfl
theorem qeC (w : World) : ∃ z : Value, (zeroValue 107).run Tryz.prog w = .ok z w ∧ z.cells = #[.string ⟨#[]⟩, .slice none 0 0] := by
 obtain ⟨i, hi, hz⟩ := Option.map_eq_some_iff.1 qgG
 obtain ⟨z, hz0, hz1⟩ := Option.map_eq_some_iff.1 hz
 exact ⟨z, by simp [zeroValue, typeInfo, hi, hz0], by rw [← hz1]⟩
theorem qex (n : Nat) : (q6N n).length = n * 2 := by simp [q6N, Builtin.zeroCells]
theorem qez (n : Nat) : ∀ v ∈ q6N n, v.oneCell' = true := by
 intro v hv
 unfold q6N at hv
 obtain ⟨k, hk, rfl⟩ := List.getElem_of_mem hv
 have h2 : k % 2 = 0 ∨ k % 2 = 1 := by omega
 rcases h2 with h | h <;> simp [Builtin.zeroCells, h, Value.oneCell']
theorem qc9 {P : Program} (hp : P = Tryz.prog) {w : World} {lo g cap : Nat} {l : List MP} (h : BlkG 107 2 q0e w lo g cap l) (ty : TypeId) (m n c : Nat) (hn : 0 < n) (hm : m + n ≤ cap) :
  (Builtin.clear_ #[41] ty #[.slice (some ⟨g, m * 2, none⟩) n c]).run P w = .ok (.tuple #[]) (w.setCells g (m * 2) (q6N n)) := by
 subst hp
 obtain ⟨cur, h2, h5, _⟩ := h.cur
 obtain ⟨z, hz1, hz2⟩ := qeC w
 have hst := run_storeCells_cells (P := Tryz.prog) g (m * 2) (q6N n) 0 w (fun j hj => by
  rw [qex] at hj
  rw [cell_of_row w g _ _ _ _ h2, Array.getElem?_eq_getElem (by omega)]
  rfl) (fun j _ => h.frozen _) (qez n)
 simp only [Nat.add_zero] at hst
 obtain ⟨k, rfl⟩ : ∃ k, n = k + 1 := ⟨n - 1, by omega⟩
 have hz3 : (Builtin.zeroCells z.cells (k + 1)).toList = q6N (k + 1) := by rw [hz2]; rfl
 simp [Builtin.clear_, run_underlying Tryz.underlying41, hz1, hz3, hst]
theorem q4E {b : Nat} {w : World} (hb : b < w.heap.size) (vs : List Value) (o : Nat) : Mut (fun k => k = b) w (w.setCells b o vs) := by
 have h := q2F (B := b) vs o w w (Below.refl _ _) (Nat.le_refl _)
 exact ⟨h.os, h.tape, h.output, by rw [q1Q]; exact Nat.le_refl _, fun k _ hk => q3n hk vs o w⟩
theorem qcF (p : MP → Bool) (g : Nat) (lb : Array Value) (eg : ∀ args w, (callFunc g args).run Tryz.prog w = .ok (.enter g args) w) (l : List MP) (lo b cap : Nat) (Fc : Nat → Prop) (J : Nat → World → Prop) (w : World) (hl : l.length ≤ 2000000) (hb : BlkG 107 2 q0e w lo b cap l)
  (ha : AskG Tryz.prog g lb valP p l b w.heap.size Fc J) (h0 : J 0 w) :
  Calls Tryz.prog 125 #[.slice (some ⟨b, 0, none⟩) l.length cap, .func (.func g) #[] lb] w fun e w' => e = .returned (.slice (some ⟨b, 0, none⟩) (l.filter fun x => !p x).length cap) ∧ BlkG 107 2 q0e w' lo b cap (l.filter fun x => !p x) ∧ J l.length w' ∧ w.heap.size ≤ w'.heap.size := by
 have HI := qh (q67 p g lb eg l (some ⟨b, 0, none⟩) cap (fun j W => J j W ∧ W.heap[b]? = w.heap[b]? ∧ w.heap.size ≤ W.heap.size) w hl (fun j W h => (hb.keep h.2.1).row) (fun W j hj h => (ha.call W j hj h.1).mono fun _ _ ⟨e, h1, h2⟩ => ⟨e, h1, (h2.block b (Nat.lt_of_lt_of_le hb.lt.2 h.2.2) (fun q => (ha.far b q).1 rfl)).trans h.2.1, Nat.le_trans h.2.2 h2.size⟩) ⟨h0, rfl, Nat.le_refl _⟩)
 have HAk := qh ha
 have HB0 := qh hb
 have hlo := hb.lt
 have hlc := hb.len
 have HL := qh hl
 have HLC := qh hlc
 have HLO := qh hlo
 clear ha hb hlo h0
 obtain ⟨F, hF⟩ : ∃ F, (l.filter fun x => !p x) = F := ⟨_, rfl⟩
 rw [hF]
 have HF := qh hF
 clear hF
 go_enter Tryz.func125, Tryz.ntmps125
 go_wp2_with fail
 refine HI.out.mono ?_
 rintro r w1 ⟨z, rfl, hz, hJ1, hb1, hs1⟩
 have HB1 := qh (HB0.out.keep hb1)
 have HS1 := qh hs1
 have HJ1 := qh hJ1
 clear HI hb1 hs1 hJ1
 rcases hz with ⟨i, hi, rfl, h1, h2⟩ | ⟨rfl, h⟩
 ·have d1 : ((i : Int) == -1) = false := by rw [beq_eq_false_iff_ne]; omega
  have d2 : ¬ ((i : Int) = -1) := by omega
  have HD := qh (DelG.start hi h1 h2)
  have hi9 : i < 2000000 := by have := HL.out; omega
  have HJi := qh (show J (i + 1) w1 from by
   have h := HJ1.out
   unfold q5j at h
   rw [if_neg (by omega)] at h
   simpa using h)
  clear h1 h2 HJ1
  go_wp2_with fail
  go_loopg [5, 6, 7] (l.length - (i + 1)) (fun q vi vj _ wr => ∃ (j k : Nat) (L : List MP), j + q = l.length ∧ vj = .int .i64 j ∧ vi = .int .i64 k ∧ DelG l L p j k ∧ k < j ∧ BlkG 107 2 q0e wr lo b cap L ∧ J j wr ∧ w.heap.size ≤ wr.heap.size)
  case atStart => exact ⟨i + 1, i, l, by omega, by go_num, rfl, HD.out, by omega, HB1.out, HJi.out, HS1.out⟩
  case round =>
   obtain ⟨j, k, L, hk, rfl, rfl, hd, hkj, hbl, hjw, hsw⟩ := hrel
   have HK := qh hk
   have HDl := qh hd
   have HBl := qh hbl
   have HJw := qh hjw
   have HSw := qh hsw
   clear hk hd hbl hjw hsw
   by_cases hj : j < l.length
   ·have hlt : decide ((j : Int) < (l.length : Int)) = true := by simpa using hj
    have hlt2 : decide (j < l.length) = true := by simpa using hj
    have hjL : j < L.length := by rw [HDl.out.len]; exact hj
    have hkL : k < L.length := by omega
    have hkl : k < l.length := by omega
    have c0 := HBl.out.at_ mpF hjL 0 _ rfl
    have c1 := HBl.out.at_ mpF hjL 1 _ rfl
    rw [HDl.out.at_ hj hjL] at c0 c1
    simp only [Nat.add_zero] at c0
    have HSk := qh (HDl.out.skip hj)
    have HKe := qh (HDl.out.keep hj)
    have hbn := HBl.out.allocs
    have HCall := qh (fun (W : World) (h : J j W) => HAk.out.call W j hj h)
    have HSt := qh (fun (W : World) (h : BlkG 107 2 q0e W lo b cap L) => h.storeG mpF k (l[j]'hj) hkL)
    have HMt := qh (fun (W : World) (h : BlkG 107 2 q0e W lo b cap L) => q4E h.lt.2 (q0e (l[j]'hj)) (k * 2))
    generalize l[j]'hj = x at *
    obtain ⟨xk, xd, xA, xc⟩ := x
    unfold valP q0e at HCall
    unfold q0e at HSt HMt
    simp only at c0 c1 HCall HSt HMt
    obtain ⟨wt, hwt⟩ : ∃ y, wr.alloc (.cells #[.string (bs xk), .slice xA xd.length xc] 107) = y := ⟨_, rfl⟩
    have hx := heap_alloc_new wr (.cells #[.string (bs xk), .slice xA xd.length xc] 107)
    have hbt := hbn (.cells #[.string (bs xk), .slice xA xd.length xc] 107)
    have hwb : Below wr.heap.size wr wt := by rw [← hwt]; exact (Below.refl _ _).alloc (Nat.le_refl _) _
    rw [hwt] at hx hbt
    have HX := qh (fun (W : World) (h : Below wt.heap.size wt W) => (And.intro (cell_of_row W wr.heap.size 0 _ _ _ (q01 hx h (q00 hx))) (cell_of_row W wr.heap.size 1 _ _ _ (q01 hx h (q00 hx)))))
    have HXm := qh (fun (W : World) (h : W.heap[wr.heap.size]? = wt.heap[wr.heap.size]?) => (h.trans hx))
    have HBt := qh hbt
    have HJt := qh (HAk.out.turn _ _ _ HJw.out (qaZ (b := b) hwb))
    have HSt2 := qh (show w.heap.size ≤ wt.heap.size from Nat.le_trans HSw.out hwb.size)
    have HWlt := qh (q00 hx)
    have HWt := qh hwt
    have HbN := qh (show wr.heap.size ≠ b from fun e => by have := HBl.out.lt.2; omega)
    clear hx hbt hwb hwt hbn
    go_upto_region 8 with fail
    rw [HWt.out]
    clear HWt c0 c1
    obtain ⟨x0, x1⟩ := HX.out wt (Below.refl _ _)
    cases hq : p ⟨xk, xd, xA, xc⟩ with
    | true =>
     have hcall := HCall.out wt HJt.out
     rw [hq] at hcall
     have HC := qh hcall
     have HD2 := qh (HSk.out hq)
     clear hcall hq HSk HKe HCall
     go_wp2_with fail
     (try go_at_fn g)
     refine HC.out.mono ?_
     rintro e w' ⟨rfl, hj', hm'⟩
     have HJ' := qh hj'
     have HM' := qh hm'
     clear hj' hm'
     go_wp2_with fail
     go_roundg (gk - 1)
     case measure => have := HK.out; omega
     case rel =>
      have hj' := HJ'.out
      have hm' := HM'.out
      exact ⟨j + 1, k, L, by have := HK.out; omega, by go_num, rfl, HD2.out, by omega, HBt.out.keep (hm'.block b HBt.out.lt.2 (fun q => (HAk.out.far b q).1 rfl)), hj', Nat.le_trans HSt2.out hm'.size⟩
    | false =>
     have hcall := HCall.out wt HJt.out
     rw [hq] at hcall
     have HC := qh hcall
     have HD2 := qh (HKe.out hq)
     clear hcall hq HSk HKe HCall
     go_wp2_with fail
     (try go_at_fn g)
     refine HC.out.mono ?_
     rintro e w2 ⟨rfl, hj', hm'⟩
     have hb2 := HBt.out.keep (hm'.block b HBt.out.lt.2 (fun q => (HAk.out.far b q).1 rfl))
     have hbx2 := HXm.out w2 (hm'.block _ HWlt.out (fun q => by have := (HAk.out.far _ q).2; have := HSw.out; omega))
     have HB2 := qh hb2
     have HS2 := qh (Nat.le_trans HSt2.out hm'.size)
     have HJ2 := qh hj'
     clear x0 x1
     have f0 := hb2.frozen (k * 2)
     have f1 := hb2.frozen (k * 2 + 1)
     have k0 := hb2.at_ mpF hkL 0 _ rfl
     have k1 := hb2.at_ mpF hkL 1 _ rfl
     simp only [Nat.add_zero] at k0
     have x0 := cell_of_row w2 wr.heap.size 0 _ _ _ hbx2
     have x1 := cell_of_row w2 wr.heap.size 1 _ _ _ hbx2
     clear hj' hm' hb2 hbx2
     go_wp2_with fail
     go_roundg (gk - 1)
     case measure => have := HK.out; omega
     case rel => exact ⟨j + 1, k + 1, _, by have := HK.out; omega, by go_num, by go_num, HD2.out, by omega, HSt.out _ HB2.out, HAk.out.turn _ _ _ HJ2.out (HMt.out _ HB2.out), by simp only [World.setCell, Array.size_modify]; exact HS2.out⟩
   ·have hj' : j = l.length := by have := HK.out; omega
    subst hj'
    have hlt : decide ((l.length : Int) < (l.length : Int)) = false := by simp
    have hlt2 : decide (l.length < l.length) = false := by simp
    have HTk := qh (HDl.out.end_.trans HF.out)
    have HFl := qh (show F.length = k by rw [← HTk.out, List.length_take]; have := HDl.out.len; omega)
    have HTl := qh (show BlkG 107 2 q0e (wr.setCells b (k * 2) (q6N (l.length - k))) lo b cap F by rw [← HTk.out]; exact HBl.out.tail mpF k _)
    have HJl := qh (HAk.out.turn _ _ _ HJw.out (q4E HBl.out.lt.2 (q6N (l.length - k)) (k * 2)))
    have hszl := q1Q (b := b) (q6N (l.length - k)) (k * 2) wr
    have hclr := fun ty => qc9 (P := Tryz.prog) rfl HBl.out ty k (l.length - k) (cap - k) (by omega) (by have := HLC.out; omega)
    obtain ⟨w6, hw6⟩ : ∃ y, wr.setCells b (k * 2) (q6N (l.length - k)) = y := ⟨_, rfl⟩
    rw [hw6] at HTl HJl hclr hszl
    have HSz := qh (show w.heap.size ≤ w6.heap.size by rw [hszl]; exact HSw.out)
    have k1 : (0 : Int) ≤ (k : Int) := by omega
    have k2 : (k : Int) ≤ (l.length : Int) := by omega
    have k3 : (l.length : Int) ≤ (cap : Int) := by omega
    have k4 : ¬ cap = k := by omega
    clear hj hw6 HDl hszl
    go_wp2
    go_ret
    exact ⟨by rw [HFl.out]; rfl, HTl.out, HJl.out, HSz.out⟩
 ·have d1 : ((-1 : Int) == -1) = true := rfl
  have HE := qh (show l = F by
   rw [← HF.out, List.filter_eq_self.2]
   intro x hx
   obtain ⟨q, hq, rfl⟩ := List.getElem_of_mem hx
   rw [h q hq]
   rfl)
  clear h
  go_wp2_with fail
  go_ret
  exact ⟨by rw [← HE.out]; rfl, by rw [← HE.out]; exact HB1.out, HJ1.out, HS1.out⟩
open Go.RowKit
section
variable {w w' w0 w1 w2 : World} {o p : Nat} {ρ ρ' ρ0 ρ1 ρ2 : q0o} {L : LimT} {b b' : q08} {ps B : Nat} {P P' : Nat → TxP} {rv hv : Value} {F F' : Nat → Prop} {t t' : TxS} {X : Nat → Prop}
def hasW (ws : List Wr) (k : KeyS) : Bool := (ws.find? fun y => y.key == k).isSome
theorem qbE (h : RawB w o p ρ L b ps B P rv hv) (ht : t ∈ b.live) (x : MP) (n1 : Nat) (h1 : w.cell? ⟨n1, 0, none⟩ = some (ptrS (P t.id).q)) :
  Calls Tryz.prog 126 #[valP x, .pointer (some ⟨n1, 0, none⟩)] w fun r w' => r = .returned (.bool (hasW t.ws x.k)) ∧ Below w.heap.size w w' := by
 obtain ⟨xk, xb, xA, xc⟩ := x
 unfold valP q0e
 simp only
 obtain ⟨w1, hw1⟩ : ∃ y, w.alloc (.cells #[.string (bs xk), .slice xA xb.length xc] 107) = y := ⟨_, rfl⟩
 have hb1 : Below w.heap.size w w1 := by rw [← hw1]; exact (Below.refl _ w).alloc (Nat.le_refl _) _
 have hx1 : w1.heap[w.heap.size]? = some (.cells #[.string (bs xk), .slice xA xb.length xc] 107 (0, 0)) := by rw [← hw1]; exact heap_alloc_new w _
 have l1 := World.block_lt_of_cell? w _ h1
 have HW1 := qh hw1
 have HB1 := qh hb1
 have HIs : Hid (hasW t.ws xk = (wrF t.ws (P t.id).ad xk).isSome) := qh (by unfold hasW wrF; rw [Option.isSome_map])
 have hval : ∃ v0 v1 A n c, (wrF t.ws (P t.id).ad xk).getD (.agg #[.string ⟨#[]⟩, .bool false, .slice none 0 0]) = .agg #[.string v0, .bool v1, .slice A n c] := by
  unfold wrF
  cases t.ws.find? (fun y => y.key == xk) with
  | none => exact ⟨_, _, _, _, _, rfl⟩
  | some v => exact ⟨_, _, _, _, _, rfl⟩
 obtain ⟨v0, v1, A, m, c, hv⟩ := hval
 obtain ⟨S, hS1, hS2⟩ : ∃ S : World → Prop, (∀ W : World, Below w1.heap.size w1 W → S W) ∧ ∀ W : World, S W → W.cell? ⟨w.heap.size, 0, none⟩ = some (.string (bs xk)) ∧ W.cell? ⟨n1, 0, none⟩ = some (ptrS (P t.id).q) ∧ W.cell? ⟨(P t.id).q, 3, none⟩ = some (.map (some (P t.id).m)) ∧
   (Instr.lookup 115 (.map (some (P t.id).m)) (.string (bs xk)) true).run Tryz.prog W = .ok (.tuple #[.agg #[.string v0, .bool v1, .slice A m c], .bool (hasW t.ws xk)]) W := by
  refine ⟨fun W => Below w1.heap.size w1 W, fun _ hb => hb, fun W hb => ?_⟩
  have hbb := hb1.trans (hb.mono hb1.size)
  have hr := (h.below hbb).txs t ht
  have hlk := hr.look xk
  rw [hv, ← HIs.out] at hlk
  refine ⟨?_, (hbb.cell l1).trans h1, hr.map_, hlk⟩
  rw [cell_of_row W _ 0 _ _ _ (q01 hx1 hb (q00 hx1))]
  rfl
 have HKp := qh hS1
 have HRd := qh hS2
 generalize hasW t.ws xk = hs at *
 clear h ht h1 hw1 hb1 hx1 l1 hS1 hS2 hv HIs
 unfold ptrS at HRd
 go_enter Tryz.func126, Tryz.ntmps126
 go_upto_region 1 with fail
 rw [HW1.out]
 refine wp_region_held_drew (S := S) (by kernel_rfl) ?_ (fun hGd => ?_)
 ·exact HKp.out _ (Below.refl _ _).drew
 refine tkH (i := 0) (v := ?_) (fun w hSw => ?_) ?_
 rotate_left
 ·obtain ⟨z0, z1, z3, zl⟩ := HRd.out _ hSw; go_simp <;> with_reducible rfl
 (try simp only [Act.put, qA, qB, qC])
 refine tkS (i := 1) (v := ?_) ?_
 (try simp only [Act.put, qA, qB, qC])
 refine tkS (i := 2) (v := ?_) ?_
 (try simp only [Act.put, qA, qB, qC])
 refine tkH (i := 3) (v := ?_) (fun w hSw => ?_) ?_
 rotate_left
 ·obtain ⟨z0, z1, z3, zl⟩ := HRd.out _ hSw; go_simp <;> with_reducible rfl
 (try simp only [Act.put, qA, qB, qC])
 refine tkS (i := 4) (v := ?_) ?_
 (try simp only [Act.put, qA, qB, qC])
 refine tkH (i := 5) (v := ?_) (fun w hSw => ?_) ?_
 rotate_left
 ·obtain ⟨z0, z1, z3, zl⟩ := HRd.out _ hSw; go_simp <;> with_reducible rfl
 (try simp only [Act.put, qA, qB, qC])
 refine tkH (i := 6) (v := ?_) (fun w hSw => ?_) ?_
 rotate_left
 ·obtain ⟨z0, z1, z3, zl⟩ := HRd.out _ hSw; go_simp <;> with_reducible rfl
 (try simp only [Act.put, qA, qB, qC])
 refine tkS (i := 7) (v := ?_) ?_
 (try simp only [Act.put, qA, qB, qC])
 refine tkS (i := 8) (v := ?_) ?_
 (try simp only [Act.put, qA, qB, qC])
 refine tkS (i := 9) (v := ?_) ?_
 (try simp only [Act.put, qA, qB, qC])
 refine stH (i := 10) (fun K' hK => ?_)
 go_simp
 (first | (refine hK.out _ _ ?_ (fun hG2 => ?_)) | (go_wp2_with fail; refine hK.out _ _ ?_ (fun hG2 => ?_)))
 ·exact HKp.out _ ((Below.refl _ _).drew.alloc (Nat.le_refl _) _)
 clear hK K' hGd
 have hGd := hG2
 clear hG2
 (try simp only [Act.put, qA, qB, qC])
 refine stH (i := 11) (fun K' hK => ?_)
 go_simp
 (first | (refine hK.out _ _ ?_ (fun hG2 => ?_)) | (go_wp2_with fail; refine hK.out _ _ ?_ (fun hG2 => ?_)))
 ·exact HKp.out _ ((Below.refl _ w1).alloc (Nat.le_refl _) _).drew
 clear hK K' hGd
 have hGd := hG2
 clear hG2
 (try simp only [Act.put, qA, qB, qC])
 refine tkS (i := 12) (v := ?_) ?_
 (try simp only [Act.put, qA, qB, qC])
 refine wpAnyH_done (by kernel_rfl) ?_ _
 go_wp2_with fail
 go_ret
 exact ⟨rfl, HB1.out.trans ((((Below.refl _ w1).alloc (Nat.le_refl _) _).drew).mono HB1.out.size)⟩
theorem qeS (p : MP → Bool) (g : Nat) (lb : Array Value) (eg : ∀ args w, (callFunc g args).run Tryz.prog w = .ok (.enter g args) w) (w : World) :
  Calls Tryz.prog 125 #[.slice none 0 0, .func (.func g) #[] lb] w fun e w' => e = .returned (.slice none 0 0) ∧ Below w.heap.size w w' := by
 have HI := qh (q67 p g lb eg [] none 0 (fun _ W => Below w.heap.size w W) w (by simp) (fun _ _ _ => RowG.nil_) (fun _ _ hj _ => absurd hj (by simp)) (Below.refl _ _))
 simp only [List.length_nil] at HI
 go_enter Tryz.func125, Tryz.ntmps125
 go_wp2_with fail
 refine HI.out.mono ?_
 rintro e w1 ⟨z, rfl, hz, hb⟩
 have HB := qh hb
 rcases hz with ⟨j, hj, _⟩ | ⟨rfl, _⟩
 ·exact absurd hj (by simp)
 ·clear hb HI
  go_wp2
  go_ret
  exact ⟨rfl, HB.out⟩
theorem q8r {w0 : World} (hb0 : Below w0.heap.size w0 w) (h : RawB w o p ρ L b ps B P rv hv) (ht : t ∈ b.live) (ms : List MP) (v : Value) (ho : OwnG 107 2 q0e w w0.heap.size v ms) (hz : ∀ k, w0.heap.size ≤ k → ρ k = 0) (n1 : Nat) (h1 : w.cell? ⟨n1, 0, none⟩ = some (ptrS (P t.id).q)) (hn1 : ∀ g, v.ownBlock = some g → g ≠ n1) (hl : ms.length ≤ 2000000) :
  Calls Tryz.prog 125 #[v, .func (.func 126) #[] #[.pointer (some ⟨n1, 0, none⟩)]] w fun r w' => ∃ A c, r = .returned (.slice A (ms.filter fun x => !hasW t.ws x.k).length c) ∧ OwnG 107 2 q0e w' w0.heap.size (.slice A (ms.filter fun x => !hasW t.ws x.k).length c) (ms.filter fun x => !hasW t.ws x.k) ∧
   Below w0.heap.size w0 w' ∧ (∀ k, k < w.heap.size → v.ownBlock ≠ some k → w'.heap[k]? = w.heap[k]?) ∧ w.heap.size ≤ w'.heap.size ∧ ∀ g, (Value.slice A (ms.filter fun x => !hasW t.ws x.k).length c).ownBlock = some g → v.ownBlock = some g := by
 rcases ho.blkG with ⟨rfl, rfl⟩ | ⟨g, cap, rfl, hbk⟩
 ·exact (qeS (fun _ => false) _ _ (fun _ _ => rfl) w).mono fun r w' ⟨e, hb⟩ => ⟨none, 0, e, OwnG.none_ _ _ _ _ _, hb0.trans (hb.mono hb0.size), fun k hk _ => hb.block k hk, hb.size, fun g hg => by simp [Value.ownBlock] at hg⟩
 ·have hgl := hbk.lt
  have hg0 : ρ g = 0 := hz g hgl.1
  have hgn : g ≠ n1 := hn1 g rfl
  have hn1l : n1 < w.heap.size := World.block_lt_of_cell? w _ h1
  obtain ⟨J, hJ⟩ : ∃ J : Nat → World → Prop, J = fun _ W => RawB W o p ρ L b ps B P rv hv ∧ Mut (fun k => k = g) w W := ⟨_, rfl⟩
  have hcell : ∀ W, Mut (fun k => k = g) w W → W.cell? ⟨n1, 0, none⟩ = some (ptrS (P t.id).q) := fun W hm => by
   rw [World.cell?_of_block (a := ⟨n1, 0, none⟩) (hm.block n1 hn1l (fun e => hgn e.symm))]
   exact h1
  have hask : AskG Tryz.prog 126 #[.pointer (some ⟨n1, 0, none⟩)] valP (fun x => hasW t.ws x.k) ms g w.heap.size (fun _ => False) J := by
   refine ⟨fun k hk => absurd hk id, fun W j hj hJj => ?_, fun W W' j hJj hm => ?_⟩
   ·rw [hJ] at hJj
    refine (qbE hJj.1 ht (ms[j]'hj) n1 (hcell W hJj.2)).mono fun r w' ⟨e, hb⟩ => ⟨e, ?_, q0t _ hb⟩
    rw [hJ]
    exact ⟨hJj.1.below hb, hJj.2.trans (q0t (fun k => k = g) hb) fun _ q => .inl q⟩
   ·rw [hJ] at hJj ⊢
    exact ⟨hJj.1.keep (fun k hk => hm.block k (hJj.1.lo k hk).2 (fun e => hk (by rw [e]; exact hg0))) hm.size, hJj.2.trans hm fun _ q => .inl q⟩
  have hst : J 0 w := by rw [hJ]; exact ⟨h, Mut.refl _ _⟩
  refine (qcF (fun x => hasW t.ws x.k) _ _ (fun _ _ => rfl) ms w0.heap.size g cap (fun _ => False) J w hl hbk hask hst).mono fun r w' ⟨e, h2, h3, h4⟩ => ?_
  rw [hJ] at h3
  have hm := h3.2
  refine ⟨_, _, e, h2.own mpF, ⟨hm.os.trans hb0.os, hm.tape.trans hb0.tape, hm.output.trans hb0.output, Nat.le_trans hb0.size h4, fun k hk => (hm.block k (Nat.lt_of_lt_of_le hk hb0.size) (by omega)).trans (hb0.block k hk)⟩, fun k hk hne => hm.block k hk (fun e => hne (by rw [e]; rfl)), h4, fun g' hg' => hg'⟩
end
open Go.RowKit
section
variable {w w' w0 w1 w2 : World} {o p : Nat} {ρ ρ' ρ0 ρ1 ρ2 : q0o} {L : LimT} {b b' : q08} {ps B : Nat} {P P' : Nat → TxP} {rv hv : Value} {F F' : Nat → Prop} {t t' : TxS} {X : Nat → Prop}
def q4w (s : Sp) (ws : List Wr) (done : List KeyS) : List (KeyS × List UInt8) := done.filterMap fun k => (ws.find? fun y => y.key == k).bind fun y => if q32 s.lo s.hi y = true then some (y.key, y.dat) else none
theorem qbs (s : Sp) (ws : List Wr) (done : List KeyS) {k : KeyS} {y : Wr} (h : ws.find? (fun y => y.key == k) = some y) : q4w s ws (done ++ [k]) = q4w s ws done ++ if q32 s.lo s.hi y = true then [(y.key, y.dat)] else [] := by
 unfold q4w
 rw [List.filterMap_append]
 congr 1
 rw [List.filterMap_cons, h]
 simp only [Option.bind_some, List.filterMap_nil]
 split <;> simp_all
theorem qcC (s : Sp) (ws : List Wr) (done : List KeyS) : (q4w s ws done).length ≤ done.length := List.length_filterMap_le _ _
theorem q5W {s : Sp} {ws : List Wr} (hr : q4q ws) {done : List KeyS} (hd : ∀ y ∈ ws, y.key ∈ done) {q : KeyS × List UInt8} : q ∈ q4w s ws done ↔ ∃ y ∈ ws, q32 s.lo s.hi y = true ∧ q = (y.key, y.dat) := by
 unfold q4w
 rw [List.mem_filterMap]
 constructor
 ·rintro ⟨k, _, e⟩
  cases hf : ws.find? (fun y => y.key == k) with
  | none => rw [hf] at e; cases e
  | some y =>
   rw [hf] at e
   simp only [Option.bind_some] at e
   split at e
   ·rename_i hc
    injection e with e
    exact ⟨y, List.mem_of_find?_eq_some hf, hc, e.symm⟩
   ·cases e
 ·rintro ⟨y, hy, hc, rfl⟩
  refine ⟨y.key, hd y hy, ?_⟩
  rw [q5B hr hy]
  simp only [Option.bind_some]
  rw [if_pos hc]
def FarP (w0 w : World) (v : Value) (x : MP) : Prop := ByS w (fun k => w0.heap.size ≤ k ∧ v.ownBlock ≠ some k) x.A x.c x.b
theorem qfD {ws : List Wr} {ad : KeyS → Option Addr × Nat} {k : KeyS} {v : Value} (h : wrF ws ad k = some v) : ∃ y, ws.find? (fun y => y.key == k) = some y ∧ y ∈ ws ∧ y.key = k ∧ v = q4o y (ad y.key).1 (ad y.key).2 := by
 unfold wrF at h
 cases hf : ws.find? (fun y => y.key == k) with
 | none => rw [hf] at h; cases h
 | some y =>
  rw [hf] at h
  injection h with h
  exact ⟨y, rfl, List.mem_of_find?_eq_some hf, by simpa using List.find?_some hf, h.symm⟩
theorem qgf : q2a Tryz.prog 107 2 40 := q2a.of (by kernel_rfl)
end
open Go.RowKit
theorem q93 : ∀ (d ks : List KeyS), d.Nodup → (∀ k ∈ d, k ∈ ks) → d.length ≤ ks.length
 | [], _, _, _ => by simp
 | k :: d, ks, hn, hs => by
  obtain ⟨h1, h2⟩ := List.nodup_cons.1 hn
  have hk := hs k (List.mem_cons_self ..)
  have ih := q93 d (ks.erase k) h2 fun x hx => (List.mem_erase_of_ne (fun e => h1 (by rw [← e]; exact hx))).2 (hs x (List.mem_cons_of_mem _ hx))
  have hl := List.length_erase_of_mem hk
  have hp := List.length_pos_of_mem hk
  rw [List.length_cons]
  omega
section
variable {w w' w0 w1 w2 : World} {o p : Nat} {ρ ρ' ρ0 ρ1 ρ2 : q0o} {L : LimT} {b b' : q08} {ps B : Nat} {P P' : Nat → TxP} {rv hv : Value} {F F' : Nat → Prop} {t t' : TxS} {X : Nat → Prop}
def FarR (w0 w : World) (v : Value) (r : Nat) (x : MP) : Prop := ByS w (fun k => w0.heap.size ≤ k ∧ v.ownBlock ≠ some k ∧ k ≠ r) x.A x.c x.b
structure q4U (w0 : World) (m r n2 : Nat) (lo hi : KeyS) (f : KeyS → Option Value) (u : Value) (done : List KeyS) (ms : List MP) (wr : World) : Prop where
 row : OwnG 107 2 q0e wr w0.heap.size u ms
 far : ∀ x ∈ ms, FarR w0 wr u r x
 rng : q0W strK wr m r f done
 new : Below w0.heap.size w0 wr
 box : wr.heap[n2]? = some (.cells #[.string (bs lo), .string (bs hi)] 131 (0, 0))
 out : ∀ g, u.ownBlock = some g → g ≠ n2 ∧ g ≠ r
 m0 : m < w0.heap.size
 r0 : w0.heap.size ≤ r
 rn : r ≠ n2
section
variable {m r n2 : Nat} {lo hi : KeyS} {f : KeyS → Option Value} {u v' : Value} {done : List KeyS} {ms : List MP} {wr wn wy w6 : World} {k : KeyS} {x : MP}
theorem q4U.next (h : q4U w0 m r n2 lo hi f u done ms wr) (hg : wr.grownBy wn (some r)) (hr : q0W strK wn m r f (done ++ [k])) : q4U w0 m r n2 lo hi f u (done ++ [k]) ms wn :=
 ⟨h.row.keep (fun g hg2 hl2 => hg.block g hl2 (fun e => by injection e with e; exact (h.out g hg2).2 e)) (Nat.le_refl _), fun x hx => ByS.keep (h.far x hx) fun g hg2 hl => ⟨hg.block g hl (fun e => by injection e with e; exact hg2.2.2 e), hg2⟩, hr,
  ⟨hg.os.trans h.new.os, hg.tape.trans h.new.tape, hg.output.trans h.new.output, Nat.le_trans h.new.size hg.size, fun k hk => (hg.block k (Nat.lt_of_lt_of_le hk h.new.size) (fun e => by injection e with e; have := h.r0; omega)).trans (h.new.block k hk)⟩,
  (hg.block n2 (q00 h.box) (fun e => by injection e with e; exact h.rn e.symm)).trans h.box, h.out, h.m0, h.r0, h.rn⟩
theorem q4U.below (h : q4U w0 m r n2 lo hi f u done ms wr) (hb : Below wr.heap.size wr wn) : q4U w0 m r n2 lo hi f u done ms wn :=
 ⟨h.row.below hb, fun x hx => ByS.keep (h.far x hx) fun g hg2 hl => ⟨hb.block g hl, hg2⟩, h.rng.keep (hb.block m h.rng.lt.1) (hb.block r h.rng.lt.2.1), h.new.trans (hb.mono h.new.size), q01 h.box hb (q00 h.box), h.out, h.m0, h.r0, h.rn⟩
theorem q4U.push (h : q4U w0 m r n2 lo hi f u done ms wr) (hb : Below wr.heap.size wr wy) (ho : OwnG 107 2 q0e w6 w0.heap.size v' (ms ++ [x])) (hg : wy.grownBy w6 u.ownBlock) (hat : v'.ownBlock = u.ownBlock ∨ v'.ownBlock = some wy.heap.size) (hx : ByS wy (fun k => wr.heap.size ≤ k ∧ k < wy.heap.size) x.A x.c x.b) :
  q4U w0 m r n2 lo hi f v' done (ms ++ [x]) w6 := by
 have hs := hb.size
 have hw := h.new.size
 have hul : ∀ g, u.ownBlock = some g → w0.heap.size ≤ g ∧ g < wr.heap.size := h.row.lt
 have hkk : ∀ k, k < wy.heap.size → u.ownBlock ≠ some k → w6.heap[k]? = wy.heap[k]? := fun k h1 h2 => hg.block k h1 fun e => h2 e.symm
 have hrl := h.rng.lt
 have hnl := q00 h.box
 refine ⟨ho, fun z hz => ?_, h.rng.keep ?_ ?_, ⟨hg.os.trans (hb.os.trans h.new.os), hg.tape.trans (hb.tape.trans h.new.tape), hg.output.trans (hb.output.trans h.new.output), by have := hg.size; omega, fun k hk => ?_⟩, ?_, fun g hg2 => ?_, h.m0, h.r0, h.rn⟩
 ·rcases List.mem_append.1 hz with hz | hz
  ·refine ByS.keep (h.far z hz) fun g hg2 hl => ⟨(hkk g (by omega) hg2.2.1).trans (hb.block g hl), hg2.1, fun e => ?_, hg2.2.2⟩
   rcases hat with q | q
   ·exact hg2.2.1 (by rw [← q]; exact e)
   ·rw [q] at e
    injection e with e
    omega
  ·rw [List.mem_singleton] at hz
   subst hz
   refine ByS.keep hx fun g hg2 hl => ⟨hkk g hl (fun e => by have := hul g e; omega), by omega, fun e => ?_, by omega⟩
   rcases hat with q | q
   ·rw [q] at e
    have := hul g e
    omega
   ·rw [q] at e
    injection e with e
    omega
 ·exact (hkk m (by omega) (fun e => by have := hul m e; have := h.m0; omega)).trans (hb.block m hrl.1)
 ·exact (hkk r (by omega) (fun e => (h.out r e).2 rfl)).trans (hb.block r hrl.2.1)
 ·exact (hkk k (by omega) (fun e => by have := hul k e; omega)).trans ((hb.block k (by omega)).trans (h.new.block k hk))
 ·exact (hkk n2 (by omega) (fun e => (h.out n2 e).1 rfl)).trans ((hb.block n2 hnl).trans h.box)
 ·rcases hat with q | q
  ·exact h.out g (by rw [← q]; exact hg2)
  ·rw [q] at hg2
   injection hg2 with hg2
   exact ⟨by omega, by omega⟩
end
theorem qb4 {s : Sp} {ws : List Wr} {kept : List (KeyS × List UInt8)} {done : List KeyS} {ms : List MP} (ha : ms.map MP.p = kept ++ q4w s ws done) (hn : done.Nodup) (hs : ∀ k ∈ done, k ∈ ws.map Wr.key) : ms.length ≤ kept.length + ws.length := by
 have h1 := congrArg List.length ha
 rw [List.length_map, List.length_append] at h1
 have h2 := qcC s ws done
 have h3 := q93 done (ws.map Wr.key) hn hs
 rw [List.length_map] at h3
 omega
end
end Go.Proofs.YtdpbllacfljmoaaGreat
