import Derived.Test.YtdpbllacfljmoaaGreatZF41
import Derived.Test.YtdpbllacfljmoaaGreatZF15
set_option maxRecDepth 100000
set_option maxHeartbeats 16000000
set_option linter.unusedVariables false
namespace Go.Proofs.YtdpbllacfljmoaaGreat
open Go.RowKit
def mwOf (a : TxP) (x : Wr) : MW := ⟨x, (a.ad x.key).1, (a.ad x.key).2⟩
theorem qgg : q2a Tryz.prog 37 3 48 := q2a.of (by kernel_rfl)
section
variable {w w' : World} {o p : Nat} {ρ ρ' : q0o} {L : LimT} {b b' : q08} {ps B : Nat} {P : Nat → TxP} {rv hv : Value} {F F' : Nat → Prop} {t t' : TxS}
theorem TxM.look1 {a : TxP} (h : TxM w ρ t a) (key : KeyS) : (Instr.lookup 115 (.map (some a.m)) (.string (bs key)) false).run Tryz.prog w = .ok ((wrF t.ws a.ad key).getD (.agg #[.string ⟨#[]⟩, .bool false, .slice none 0 0])) w := by
 have e := MapK.look (P := Tryz.prog) (t := 115) (kt := 9) (et := 37) h.map Tryz.underlying115 Tryz.underlying9 (qfL w) false key
 simp only [strK, keyV] at e
 rw [e]
 rfl
theorem q9Y (h : RawB w o p ρ L b ps B P rv hv) (ht : t ∈ b.live) (hr : q4q t.ws) (hl : t.ws.length ≤ 1000) (hk : ∀ x ∈ t.ws, q2q x) :
  Calls Tryz.prog 131 #[ptrS (P t.id).q] w fun r w' => ∃ v, r = .returned v ∧ OwnG 37 3 q0l w' w.heap.size v (t.ws.map (mwOf (P t.id))) ∧ Below w.heap.size w w' := by
 have htx := h.txs t ht
 have hkeys : (t.ws.map Wr.key).Pairwise fun a b => blt a b = true := List.pairwise_map.2 hr
 have hsup : ∀ k, k ∈ t.ws.map Wr.key ↔ (wrF t.ws (P t.id).ad k).isSome = true := fun k => by
  unfold wrF
  rw [List.mem_map]
  cases hf : t.ws.find? (fun x => x.key == k) with
  | none =>
   have := q2A.1 hf
   constructor
   ·rintro ⟨x, hx, e⟩
    exact absurd e (this x hx)
   ·intro h
    cases h
  | some y =>
   have := (q21 hr).1 hf
   exact ⟨fun _ => rfl, fun _ => ⟨y, this.1, this.2⟩⟩
 have HK := qh (fun W => qf7 (some (P t.id).m) W)
 have HS := qh (qao htx.map hkeys hsup (fun k hk2 => by
  obtain ⟨x, hx, rfl⟩ := List.mem_map.1 hk2
  have := (hk x hx).1
  unfold maxLen
  omega) (by rw [List.length_map]; omega))
 have c3 := htx.map_
 have HLook : Hid (∀ (W : World) (j : Nat) (hj : j < t.ws.length), Below w.heap.size w W → W.cell? ⟨(P t.id).q, 3, none⟩ = some (.map (some (P t.id).m)) ∧ (Instr.lookup 115 (.map (some (P t.id).m)) (.string (bs (t.ws[j]'hj).key)) false).run Tryz.prog W = .ok (q4o (t.ws[j]'hj) ((P t.id).ad (t.ws[j]'hj).key).1 ((P t.id).ad (t.ws[j]'hj).key).2) W) := qh fun W j hj hb => by
  have hx := (h.below hb).txs t ht
  refine ⟨hx.map_, ?_⟩
  rw [hx.look1]
  unfold wrF
  rw [q5B hr (List.getElem_mem hj)]
  rfl
 have HLen := qh hl
 clear h htx hkeys hsup ht hr hk
 unfold ptrS
 go_enter Tryz.func131, Tryz.ntmps131
 go_wp2_with fail
 refine (HK.out w).mono ?_
 rintro e w1 ⟨rfl, hw1⟩
 rw [hw1]
 go_wp2_with fail
 refine HS.out.mono ?_
 rintro e w2 ⟨kv, rfl, hk2, hb2⟩
 obtain ⟨A2, cap2, rfl, k1, k2, k3, k4⟩ := hk2.form
 rw [List.length_map] at k1 ⊢
 have HRow := qh k4
 have HB2 := qh hb2
 clear hk2 k1 k2 k3 k4 hb2 HK HS hw1 c3
 go_wp2_with fail
 go_loopg [3, 13] t.ws.length (fun q u i wr => ∃ j : Nat, j + q = t.ws.length ∧ i = .int .i64 j ∧ OwnG 37 3 q0l wr w2.heap.size u ((t.ws.take j).map (mwOf (P t.id))) ∧ Below w2.heap.size w2 wr)
 case atStart => exact ⟨0, by omega, rfl, OwnG.none_ _ _ _ _ _, Below.refl _ _⟩
 case round =>
  obtain ⟨j, hk, rfl, ho, hb⟩ := hrel
  have HK := qh hk
  have HO := qh ho
  have HB := qh hb
  have hle := HLen.out
  clear hk ho hb
  by_cases hj : j < t.ws.length
  ·have hlt : decide ((j : Int) < (t.ws.length : Int)) = true := by simpa using hj
   have hlt2 : decide (j < t.ws.length) = true := by simpa using hj
   obtain ⟨bk, ok, rfl, _, _, hcell⟩ := (HRow.out.below HB.out (Nat.le_refl _)).at_ kF (j := j) (by rw [List.length_map]; exact hj)
   have d0 := hcell 0 _ rfl
   rw [List.getElem_map] at d0
   simp only [Nat.add_zero, Nat.mul_one] at d0
   obtain ⟨c3, hlk⟩ := HLook.out wr j hj (HB2.out.trans (HB.out.mono HB2.out.size))
   have HTk := qh (show (t.ws.take (j + 1)).map (mwOf (P t.id)) = (t.ws.take j).map (mwOf (P t.id)) ++ [mwOf (P t.id) (t.ws[j]'hj)] by rw [List.take_succ_eq_append_getElem hj, List.map_append, List.map_singleton])
   have HLn := qh (show ((t.ws.take j).map (mwOf (P t.id))).length ≤ 1000 by rw [List.length_map, List.length_take]; omega)
   unfold q4o at hlk
   clear hcell
   obtain ⟨x, hx⟩ : ∃ x, t.ws[j]'hj = x := ⟨_, rfl⟩
   rw [hx] at d0 hlk HTk
   clear hx
   obtain ⟨ms, hms⟩ : ∃ ms, (t.ws.take j).map (mwOf (P t.id)) = ms := ⟨_, rfl⟩
   rw [hms] at HTk HLn HO
   clear hms
   obtain ⟨⟨xA, xc⟩, had⟩ : ∃ v, (P t.id).ad x.key = v := ⟨_, rfl⟩
   have hmw : mwOf (P t.id) x = ⟨x, xA, xc⟩ := by unfold mwOf; rw [had]
   rw [hmw] at HTk
   rw [had] at hlk
   clear had hmw
   simp only at hlk
   go_wp2_with (at_builtin; refine q13 _ rfl _ _ 119 37 48 mwF qgg Tryz.underlying119 rfl w2.heap.size _ ms rfl (HO.out.allocs _) wr.heap.size (wr.heap.size + 1) ⟨wr.heap.size, 0, none⟩ 1 1 [⟨x, xA, xc⟩] rfl rfl (RowG.one (cs := q0l) (heap_alloc_new wr _)) (by have e8 := HLn.out; simp only [List.length_singleton]; unfold maxLen; omega) (by have e8 := HLn.out; simp only [List.length_singleton]; omega) (by have := HB.out.size; simp; omega) ?_; intro v1 w5 ho5 hg5 hat5; have HO5 := qh ho5; have HB5 := qh ((HB.out.alloc HB.out.size (.cells #[.string (bs x.key), .bool x.gone, .slice xA x.dat.length xc] 37)).grown hg5 (by have := HB.out.size; simp; omega) (fun k hk => (HO.out.lt k hk).1)); clear ho5 hg5 hat5)
   go_roundg (gk - 1)
   case measure => have := HK.out; omega
   case rel => exact ⟨j + 1, by have := HK.out; omega, by go_num, by rw [HTk.out]; exact HO5.out, HB5.out⟩
  ·have hj' : j = t.ws.length := by have := HK.out; omega
   subst hj'
   have hlt : decide ((t.ws.length : Int) < (t.ws.length : Int)) = false := by simp
   have hlt2 : decide (t.ws.length < t.ws.length) = false := by simp
   have HFin := qh (show OwnG 37 3 q0l wr w.heap.size u3 (t.ws.map (mwOf (P t.id))) by
    have h := HO.out
    rw [List.take_length] at h
    exact h.keep (fun _ _ _ => rfl) HB2.out.size)
   go_wp2
   go_ret
   exact ⟨_, rfl, HFin.out, HB2.out.trans (HB.out.mono HB2.out.size)⟩
end
theorem q9W (ms : List MW) (A : Option Addr) (c : Nat) (w : World) (hl : ms.length ≤ 1000) (hr : RowG q0l w 0 w.heap.size A ms) (hk : ∀ x ∈ ms, x.w.key.length ≤ 1000000) :
  Calls Tryz.prog 134 #[.slice A ms.length c] w fun r w' => ∃ v, r = .returned v ∧ OwnG 131 2 q07 w' w.heap.size v (ms.map fun x => q0j x.w.key) ∧ Below w.heap.size w w' := by
 have HR := qh hr
 have HLen := qh hl
 have HKey := qh hk
 clear hr hk
 go_enter Tryz.func134, Tryz.ntmps134
 go_wp2
 go_loopg [3, 8] ms.length (fun q u i wr => ∃ j : Nat, j + q = ms.length ∧ i = .int .i64 j ∧ OwnG 131 2 q07 wr w.heap.size u ((ms.take j).map fun x => q0j x.w.key) ∧ Below w.heap.size w wr)
 case atStart => exact ⟨0, by omega, rfl, OwnG.none_ _ _ _ _ _, Below.refl _ _⟩
 case round =>
  obtain ⟨j, hk, rfl, ho, hb⟩ := hrel
  have HK := qh hk
  have HO := qh ho
  have HB := qh hb
  have hle := HLen.out
  clear hk ho hb
  by_cases hj : j < ms.length
  ·have hlt : decide ((j : Int) < (ms.length : Int)) = true := by simpa using hj
   have hlt2 : decide (j < ms.length) = true := by simpa using hj
   obtain ⟨bk, ok, rfl, _, _, hcell⟩ := (HR.out.below HB.out (Nat.le_refl _)).at_ mwF hj
   have d0 := hcell 0 _ rfl
   have d1 := hcell 1 _ rfl
   have d2 := hcell 2 _ rfl
   simp only [Nat.add_zero] at d0
   have hkx := HKey.out _ (List.getElem_mem hj)
   have HTk := qh (show (ms.take (j + 1)).map (fun x => q0j x.w.key) = (ms.take j).map (fun x => q0j x.w.key) ++ [q0j (ms[j]'hj).w.key] by rw [List.take_succ_eq_append_getElem hj, List.map_append, List.map_singleton])
   have HLn := qh (show ((ms.take j).map fun x => q0j x.w.key).length ≤ 1000 by rw [List.length_map, List.length_take]; omega)
   clear hcell
   generalize ms[j]'hj = x at *
   obtain ⟨⟨xk, xg, xd⟩, xA, xc⟩ := x
   simp only at d0 d1 d2 hkx HTk
   obtain ⟨ls, hls⟩ : ∃ ls, ((ms.take j).map fun x => q0j x.w.key) = ls := ⟨_, rfl⟩
   rw [hls] at HTk HLn HO
   clear hls
   obtain ⟨wt, hwt⟩ : ∃ y, wr.alloc (.cells #[.string (bs xk), .bool xg, .slice xA xd.length xc] 37) = y := ⟨_, rfl⟩
   have hbt : Below wr.heap.size wr wt := by rw [← hwt]; exact (Below.refl _ wr).alloc (Nat.le_refl _) _
   have hxt : wt.heap[wr.heap.size]? = some (.cells #[.string (bs xk), .bool xg, .slice xA xd.length xc] 37 (0, 0)) := by rw [← hwt]; exact heap_alloc_new wr _
   have i0 : wt.cell? ⟨wr.heap.size, 0, none⟩ = some (.string (bs xk)) := by rw [cell_of_row wt _ 0 _ _ _ hxt]; rfl
   have HPt := qh (q3Q xk wt hkx)
   have HWt := qh hwt
   have HBt := qh (HB.out.trans (hbt.mono HB.out.size))
   have HOt := qh (HO.out.below hbt)
   clear hwt hbt hxt hkx
   go_upto_region 5 with fail
   rw [HWt.out]
   clear HWt d0 d1 d2
   go_wp2_with fail
   refine HPt.out.mono ?_
   rintro e w3 ⟨rfl, hb3⟩
   have HB3 := qh (HBt.out.trans (hb3.mono HBt.out.size))
   have HO3 := qh (HOt.out.below hb3)
   unfold q0T
   simp only
   clear hb3
   go_wp2_with (at_builtin; refine q13 _ rfl _ _ 84 131 32 spF qb9 Tryz.underlying84 rfl w.heap.size _ ls rfl (HO3.out.allocs _) w3.heap.size (w3.heap.size + 1) ⟨w3.heap.size, 0, none⟩ 1 1 [⟨xk, xk ++ [0]⟩] rfl rfl (RowG.one (cs := q07) (heap_alloc_new w3 _)) (by have e8 := HLn.out; simp only [List.length_singleton]; unfold maxLen; omega) (by have e8 := HLn.out; simp only [List.length_singleton]; omega) (by have := HB3.out.size; simp; omega) ?_; intro v1 w5 ho5 hg5 hat5; have HO5 := qh ho5; have HB5 := qh ((HB3.out.alloc HB3.out.size (.cells #[.string (bs xk), .string (bs (xk ++ [0]))] 131)).grown hg5 (by have := HB3.out.size; simp; omega) (fun k hk => (HO3.out.lt k hk).1)); clear ho5 hg5 hat5)
   go_roundg (gk - 1)
   case measure => have := HK.out; omega
   case rel => exact ⟨j + 1, by have := HK.out; omega, by go_num, by rw [HTk.out]; exact HO5.out, HB5.out⟩
  ·have hj' : j = ms.length := by have := HK.out; omega
   subst hj'
   have hlt : decide ((ms.length : Int) < (ms.length : Int)) = false := by simp
   have hlt2 : decide (ms.length < ms.length) = false := by simp
   have HFin := qh (show OwnG 131 2 q07 wr w.heap.size u3 (ms.map fun x => q0j x.w.key) by
    have h := HO.out
    rw [List.take_length] at h
    exact h)
   go_wp2
   go_ret
   exact ⟨_, rfl, HFin.out, HB.out⟩
open Go.RowKit
theorem q6E {b : q08} {t : TxS} (hi : IdsT b.live) (ht : t ∈ b.live) : setT b t = b := by
 unfold setT
 have : b.live.map (fun x => if x.id = t.id then t else x) = b.live := by
  conv => rhs; rw [← List.map_id b.live]
  refine List.map_congr_left fun x hx => ?_
  split
  ·rename_i e; exact (q7L hi x hx t ht e).symm
  ·rfl
 rw [this]
theorem qed {b : q08} (u v : TxS) (e : v.id = u.id) : setT (setT b u) v = setT b v := by
 unfold setT
 simp only [List.map_map]
 congr 1
 refine List.map_congr_left fun x _ => ?_
 simp only [Function.comp]
 by_cases h : x.id = u.id
 ·rw [if_pos h, if_pos e.symm, if_pos (h.trans e.symm)]
 ·rw [if_neg h]
theorem q5J {b : q08} {t : TxS} (ht : t ∈ b.live) (u : TxS) (e : u.id = t.id) : u ∈ (setT b u).live := by
 unfold setT
 exact List.mem_map.2 ⟨t, ht, if_pos e.symm⟩
section
variable {w w' : World} {o p : Nat} {ρ ρ' : q0o} {L : LimT} {b b' : q08} {ps B : Nat} {P : Nat → TxP} {rv hv : Value} {F F' : Nat → Prop} {t t' : TxS}
theorem q0X.same (h : RawB w o p ρ L b ps B P rv hv) (hb : Below w.heap.size w w') : q0X w o p ρ L b ps B P rv hv w' :=
 ⟨ρ, P, h.below hb, q0t _ hb, fun _ h => .inl h, fun _ => ⟨rfl, rfl⟩, q0P.below hb, fun _ _ => rfl⟩
theorem q0X.turned (h : q0X w o p ρ L b ps B P rv hv w') : Mut (fun k => 7 ≤ ρ k) w w' := by
 obtain ⟨ρ1, P1, h1, h2, h3, h4, h5, h6⟩ := h
 refine ⟨h2.os, h2.tape, h2.output, h2.size, fun k hk hf => ?_⟩
 by_cases e : ρ k = 0
 ·exact h2.block k hk (fun q => q e)
 ·exact (h5.same k hk e hf).1
theorem q9J (h : RawB w o p ρ L b ps B P rv hv) (ht : t ∈ b.live) (x : MW) (n1 n2 : Nat) (h1 : w.cell? ⟨n1, 0, none⟩ = some (ptrS p)) (h2 : w.cell? ⟨n2, 0, none⟩ = some (ptrS (P t.id).q)) (hk : x.w.key.length ≤ 1000000) :
  Calls Tryz.prog 187 #[valW x, .pointer (some ⟨n1, 0, none⟩), .pointer (some ⟨n2, 0, none⟩)] w fun r w' => r = .returned (.bool (decide (t.began < q24 (q03 b.st.K x.w.key)))) ∧ Below w.heap.size w w' := by
 obtain ⟨⟨xk, xg, xd⟩, xA, xc⟩ := x
 unfold valW q0l
 simp only at hk ⊢
 obtain ⟨w1, hw1⟩ : ∃ y, w.alloc (.cells #[.string (bs xk), .bool xg, .slice xA xd.length xc] 37) = y := ⟨_, rfl⟩
 have hb1 : Below w.heap.size w w1 := by rw [← hw1]; exact (Below.refl _ w).alloc (Nat.le_refl _) _
 have hx1 : w1.heap[w.heap.size]? = some (.cells #[.string (bs xk), .bool xg, .slice xA xd.length xc] 37 (0, 0)) := by rw [← hw1]; exact heap_alloc_new w _
 have HLt : Hid (∀ W : World, Below w1.heap.size w1 W → Calls Tryz.prog 188 #[ptrS ps, .string (bs xk)] W fun r w' => r = .returned (.int .u64 (q24 (q03 b.st.K xk) : Nat)) ∧ Below w1.heap.size w1 w') :=
  qh fun W hb => (q1Y.latest ps _ _ _ xk W (h.below (hb1.trans (hb.mono hb1.size))).store (by omega)).mono fun _ _ ⟨e, q⟩ => ⟨e, hb.trans (q.mono hb.size)⟩
 have l1 := World.block_lt_of_cell? w _ h1
 have l2 := World.block_lt_of_cell? w _ h2
 obtain ⟨S, hS1, hS2⟩ : ∃ S : World → Prop, (∀ W : World, Below w1.heap.size w1 W → S W) ∧ ∀ W : World, S W → W.cell? ⟨w.heap.size, 0, none⟩ = some (.string (bs xk)) ∧ W.cell? ⟨n1, 0, none⟩ = some (ptrS p) ∧ W.cell? ⟨n2, 0, none⟩ = some (ptrS (P t.id).q) ∧ W.cell? ⟨p, 7, none⟩ = some (ptrS ps) ∧ W.cell? ⟨(P t.id).q, 0, none⟩ = some (.int .u64 (t.began : Nat)) := by
  refine ⟨fun W => Below w1.heap.size w1 W, fun _ hb => hb, fun W hb => ?_⟩
  have hbb := hb1.trans (hb.mono hb1.size)
  have hr := h.below hbb
  refine ⟨?_, (hbb.cell l1).trans h1, (hbb.cell l2).trans h2, hr.store_, (hr.txs t ht).began_⟩
  rw [cell_of_row W _ 0 _ _ _ (q01 hx1 hb (q00 hx1))]
  rfl
 have HKp := qh hS1
 have HRd := qh hS2
 have HW1 := qh hw1
 have HB1 := qh hb1
 have HD := qh (show decide ((q24 (q03 b.st.K xk) : Int) > (t.began : Int)) = decide (t.began < q24 (q03 b.st.K xk)) by simp)
 generalize q24 (q03 b.st.K xk) = n at *
 clear h ht hk h1 h2 hw1 hb1 hx1 hS1 hS2 l1 l2
 unfold ptrS at HLt HRd
 go_enter Tryz.func187, Tryz.ntmps187
 go_upto_region 1 with fail
 rw [HW1.out]
 refine wp_region_held_drew (S := S) (by kernel_rfl) ?_ (fun hGd => ?_)
 ·exact HKp.out _ (Below.refl _ _).drew
 refine tkH (i := 0) (v := ?_) (fun w hSw => ?_) ?_
 rotate_left
 ·obtain ⟨z0, z1, z2, z7, zb⟩ := HRd.out _ hSw; go_simp <;> with_reducible rfl
 (try simp only [Act.put, qA, qB, qC])
 refine tkS (i := 1) (v := ?_) ?_
 (try simp only [Act.put, qA, qB, qC])
 refine tkS (i := 2) (v := ?_) ?_
 (try simp only [Act.put, qA, qB, qC])
 refine tkH (i := 3) (v := ?_) (fun w hSw => ?_) ?_
 rotate_left
 ·obtain ⟨z0, z1, z2, z7, zb⟩ := HRd.out _ hSw; go_simp <;> with_reducible rfl
 (try simp only [Act.put, qA, qB, qC])
 refine tkS (i := 4) (v := ?_) ?_
 (try simp only [Act.put, qA, qB, qC])
 refine tkH (i := 5) (v := ?_) (fun w hSw => ?_) ?_
 rotate_left
 ·obtain ⟨z0, z1, z2, z7, zb⟩ := HRd.out _ hSw; go_simp <;> with_reducible rfl
 (try simp only [Act.put, qA, qB, qC])
 refine tkH (i := 7) (v := ?_) (fun w hSw => ?_) ?_
 rotate_left
 ·obtain ⟨z0, z1, z2, z7, zb⟩ := HRd.out _ hSw; go_simp <;> with_reducible rfl
 (try simp only [Act.put, qA, qB, qC])
 refine tkS (i := 8) (v := ?_) ?_
 (try simp only [Act.put, qA, qB, qC])
 refine tkS (i := 9) (v := ?_) ?_
 (try simp only [Act.put, qA, qB, qC])
 refine tkH (i := 10) (v := ?_) (fun w hSw => ?_) ?_
 rotate_left
 ·obtain ⟨z0, z1, z2, z7, zb⟩ := HRd.out _ hSw; go_simp <;> with_reducible rfl
 (try simp only [Act.put, qA, qB, qC])
 refine stH (i := 6) (fun K' hK => ?_)
 go_simp
 go_at_call 188; with_reducible refine (HLt.out _ (Below.refl _ _).drew).mono ?_; rintro r w3 ⟨rfl, hb3⟩
 (first | (refine hK.out _ _ ?_ (fun hG2 => ?_)) | (go_wp2_with fail; refine hK.out _ _ ?_ (fun hG2 => ?_)))
 ·exact HKp.out _ hb3
 clear hK K' hGd
 have hGd := hG2
 clear hG2
 (try simp only [Act.put, qA, qB, qC])
 refine tkS (i := 11) (v := ?_) ?_
 (try simp only [Act.put, qA, qB, qC])
 refine tkS (i := 12) (v := ?_) ?_
 (try simp only [Act.put, qA, qB, qC])
 refine wpAnyH_done (by kernel_rfl) ?_ _
 go_wp2_with fail
 go_ret
 exact ⟨rfl, HB1.out.trans (hb3.mono HB1.out.size)⟩
theorem qbv (h : RawB w o p ρ L b ps B P rv hv) (ht : t ∈ b.live) (ms : List MW) (A : Option Addr) (c : Nat) (hl : ms.length ≤ 1000) (hr : RowG q0l w 0 w.heap.size A ms) (hk : ∀ x ∈ ms, x.w.key.length ≤ 1000000) (hms : ms.map MW.w = t.ws) :
  Calls Tryz.prog 132 #[ptrS p, ptrS (P t.id).q, .slice A ms.length c] w fun r w' => r = .returned (.bool (q4v b.st t)) ∧ Below w.heap.size w w' := by
 obtain ⟨w1, hw1⟩ : ∃ y, w.alloc (.cells #[ptrS p] 28) = y := ⟨_, rfl⟩
 obtain ⟨w2, hw2⟩ : ∃ y, w1.alloc (.cells #[ptrS (P t.id).q] 114) = y := ⟨_, rfl⟩
 have hb1 : Below w.heap.size w w1 := by rw [← hw1]; exact (Below.refl _ w).alloc (Nat.le_refl _) _
 have hb2 : Below w1.heap.size w1 w2 := by rw [← hw2]; exact (Below.refl _ w1).alloc (Nat.le_refl _) _
 have hx1 : w1.heap[w.heap.size]? = some (.cells #[ptrS p] 28 (0, 0)) := by rw [← hw1]; exact heap_alloc_new w _
 have hx2 : w2.heap[w1.heap.size]? = some (.cells #[ptrS (P t.id).q] 114 (0, 0)) := by rw [← hw2]; exact heap_alloc_new w1 _
 have hx12 := q01 hx1 hb2 (q00 hx1)
 have hb12 := hb1.trans (hb2.mono hb1.size)
 have hsz : w1.heap.size = w.heap.size + 1 := by rw [← hw1]; simp
 have hin := (q6Q (fun x => decide (t.began < q24 (q03 b.st.K x.w.key))) 187 #[.pointer (some ⟨w.heap.size, 0, none⟩), .pointer (some ⟨w1.heap.size, 0, none⟩)] (fun _ _ => rfl) ms A c (fun _ W => Below w2.heap.size w2 W) w2 (by omega)
  (fun _ W hb => (hr.below hb12 (Nat.le_refl _)).below hb (by have := hb12.size; omega) |>.wide (Nat.le_refl _) (by have := hb12.size; have := hb.size; omega))
  (fun W j hj hb => (q9J (h.below (hb12.trans (hb.mono hb12.size))) ht (ms[j]'hj) w.heap.size w1.heap.size (by rw [cell_of_row W _ 0 _ _ _ (q01 hx12 hb (q00 hx12))]; rfl) (by rw [cell_of_row W _ 0 _ _ _ (q01 hx2 hb (q00 hx2))]; rfl) (hk _ (List.getElem_mem hj))).mono fun _ _ ⟨e, q⟩ => ⟨e, hb.trans (q.mono hb.size)⟩)
  (Below.refl _ _))
 rw [hsz] at hin
 have HIn := qh hin
 clear hin
 have HE := qh (show (ms.any fun x => decide (t.began < q24 (q03 b.st.K x.w.key))) = q4v b.st t by unfold q4v; rw [← hms, List.any_map]; rfl)
 have HW1 := qh hw1
 have HW2 := qh hw2
 have HB := qh hb12
 clear h ht hl hr hk hms hb1 hb2 hx1 hx2 hx12 hb12 hw1 hw2
 unfold ptrS at HW1 HW2 ⊢
 go_enter Tryz.func132, Tryz.ntmps132
 go_upto_region 1 with fail
 rw [HW1.out, HW2.out]
 go_wp2_with fail
 refine HIn.out.mono ?_
 rintro e w3 ⟨rfl, _, hb3⟩
 have HB3 := qh hb3
 clear hb3
 go_wp2
 go_ret
 exact ⟨by rw [HE.out]; rfl, HB.out.trans (HB3.out.mono HB.out.size)⟩
theorem q0X.from {b1 : q08} {w1 w2 : World} (h : Below w.heap.size w w1) (k : q0X w1 o p ρ L b1 ps B P rv hv w2) : q0X w o p ρ L b1 ps B P rv hv w2 := by
 obtain ⟨ρ2, P2, k1, k2, k3, k4, k5, k6⟩ := k
 exact ⟨ρ2, P2, k1, (q0t (ownR ρ) h).trans k2 fun _ q => .inl q, fun i hi => (k3 i hi).elim .inl fun q => .inr (Nat.le_trans h.size q), k4, (q0P.below h).trans k5, k6⟩
def q3C (L : LimT) (st : PS) (t : TxS) (x : Wr) : TxS := if q1C st t x = true then q36 (FT L) t (q0j x.key) else t
theorem q8t (h : RawB w o p ρ L b ps B P rv hv) (ht : t ∈ b.live) (hi : IdsT b.live) (hml : t.marks.length ≤ 998) (hm1 : 1 ≤ L.marks) (hm2 : L.marks ≤ 1048576) (htb : t.began < 18446744073709551616) (x : MW) (n1 n2 : Nat) (h1 : w.cell? ⟨n1, 0, none⟩ = some (ptrS p)) (h2 : w.cell? ⟨n2, 0, none⟩ = some (ptrS (P t.id).q)) (z1 : ρ n1 = 0) (z2 : ρ n2 = 0) (hk : x.w.key.length ≤ 1000000) :
  Calls Tryz.prog 190 #[valW x, .pointer (some ⟨n1, 0, none⟩), .pointer (some ⟨n2, 0, none⟩)] w fun r w' => r = .returned (.bool (q1C b.st t x.w)) ∧ q0X w o p ρ L (setT b (q3C L b.st t x.w)) ps B P rv hv w' := by
 obtain ⟨⟨xk, xg, xd⟩, xA, xc⟩ := x
 unfold valW q0l
 simp only at hk ⊢
 obtain ⟨w1, hw1⟩ : ∃ y, w.alloc (.cells #[.string (bs xk), .bool xg, .slice xA xd.length xc] 37) = y := ⟨_, rfl⟩
 have hb1 : Below w.heap.size w w1 := by rw [← hw1]; exact (Below.refl _ w).alloc (Nat.le_refl _) _
 have hx1 : w1.heap[w.heap.size]? = some (.cells #[.string (bs xk), .bool xg, .slice xA xd.length xc] 37 (0, 0)) := by rw [← hw1]; exact heap_alloc_new w _
 have HSame : Hid (∀ W : World, Below w.heap.size w W → q0X w o p ρ L (setT b t) ps B P rv hv W) := qh fun W hb => by
  rw [q6E hi ht]
  exact q0X.same h hb
 have i1 : w1.cell? ⟨w.heap.size, 1, none⟩ = some (.bool xg) := by rw [cell_of_row w1 _ 1 _ _ _ hx1]; rfl
 have HW1 := qh hw1
 have HB1 := qh hb1
 cases xg with
 | false =>
  have HI := qh (show q1C b.st t ⟨xk, false, xd⟩ = false from rfl)
  have HM := qh (show q3C L b.st t ⟨xk, false, xd⟩ = t from rfl)
  clear h ht hi hml hm1 hm2 htb h1 h2 z1 z2 hk hw1 hb1 hx1
  go_enter Tryz.func190, Tryz.ntmps190
  go_upto_region 1 with fail
  rw [HW1.out]
  go_wp2
  go_ret
  rw [HM.out, HI.out]
  exact ⟨rfl, HSame.out _ HB1.out⟩
 | true =>
  have HRs : Hid (∀ W : World, Below w1.heap.size w1 W → Calls Tryz.prog 80 #[ptrS ps, .string (bs xk), .int .u64 (t.began : Nat)] W fun r w' => ∃ A c, r = .returned (.tuple #[.slice A ((q1v b.st.K xk t.began).getD []).length c, .bool (q1v b.st.K xk t.began).isSome]) ∧ Below w1.heap.size w1 w') :=
   qh fun W hb => (q1Y.read ps _ _ _ xk t.began W (h.below (hb1.trans (hb.mono hb1.size))).store (by omega) htb).mono fun _ _ ⟨A, c, e, _, q⟩ => ⟨A, c, e, hb.trans (q.mono hb.size)⟩
  have HPt : Hid (∀ W : World, Below w1.heap.size w1 W → Calls Tryz.prog 79 #[.string (bs xk)] W fun r w' => r = .returned (q0T (q0j xk)) ∧ Below w1.heap.size w1 w') :=
   qh fun W hb => (q3Q xk W (by omega)).mono fun _ _ q => ⟨q.1, hb.trans (q.2.mono hb.size)⟩
  have HMk : Hid (∀ W : World, Below w1.heap.size w1 W → Calls Tryz.prog 78 #[ptrS (P t.id).q, q0T (q0j xk), .int .i64 L.marks] W fun r w' => r = .returned (.tuple #[]) ∧ q0X W o p ρ L (setT b (q36 (FT L) t (q0j xk))) ps B P rv hv w') :=
   qh fun W hb => q52 (h.below (hb1.trans (hb.mono hb1.size))) ht (q0j xk) hml hm1 hm2
  have l1 := World.block_lt_of_cell? w _ h1
  have l2 := World.block_lt_of_cell? w _ h2
  obtain ⟨S, hS1, hS2⟩ : ∃ S : World → Prop, (∀ W : World, Below w1.heap.size w1 W → S W) ∧ ∀ W : World, S W → W.cell? ⟨w.heap.size, 0, none⟩ = some (.string (bs xk)) ∧ W.cell? ⟨n1, 0, none⟩ = some (ptrS p) ∧ W.cell? ⟨n2, 0, none⟩ = some (ptrS (P t.id).q) ∧ W.cell? ⟨p, 7, none⟩ = some (ptrS ps) ∧ W.cell? ⟨(P t.id).q, 0, none⟩ = some (.int .u64 (t.began : Nat)) := by
   refine ⟨fun W => Below w1.heap.size w1 W, fun _ hb => hb, fun W hb => ?_⟩
   have hbb := hb1.trans (hb.mono hb1.size)
   have hr := h.below hbb
   refine ⟨?_, (hbb.cell l1).trans h1, (hbb.cell l2).trans h2, hr.store_, (hr.txs t ht).began_⟩
   rw [cell_of_row W _ 0 _ _ _ (q01 hx1 hb (q00 hx1))]
   rfl
  obtain ⟨S5, hS51, hS52, hS53⟩ : ∃ S : World → Prop, (∀ W : World, Below w1.heap.size w1 W → S W) ∧ (∀ (W w' : World) (b' : q08), Below w1.heap.size w1 W → q0X W o p ρ L b' ps B P rv hv w' → S w') ∧ ∀ W : World, S W → W.cell? ⟨w.heap.size, 0, none⟩ = some (.string (bs xk)) ∧ W.cell? ⟨n1, 0, none⟩ = some (ptrS p) ∧ W.cell? ⟨n2, 0, none⟩ = some (ptrS (P t.id).q) ∧ W.cell? ⟨p, 3, none⟩ = some (.int .i64 L.marks) := by
   have hx0 : ρ w.heap.size = 0 := by
    refine Decidable.byContradiction fun e => ?_
    have := (h.lo _ e).2
    omega
   have key : ∀ W : World, Below w1.heap.size w1 W → W.cell? ⟨w.heap.size, 0, none⟩ = some (.string (bs xk)) ∧ W.cell? ⟨n1, 0, none⟩ = some (ptrS p) ∧ W.cell? ⟨n2, 0, none⟩ = some (ptrS (P t.id).q) ∧ W.cell? ⟨p, 3, none⟩ = some (.int .i64 L.marks) := fun W hb => by
    have hbb := hb1.trans (hb.mono hb1.size)
    refine ⟨?_, (hbb.cell l1).trans h1, (hbb.cell l2).trans h2, (h.below hbb).marksL⟩
    rw [cell_of_row W _ 0 _ _ _ (q01 hx1 hb (q00 hx1))]
    rfl
   refine ⟨_, key, fun W w' b' hb htn => ?_, fun _ q => q⟩
   obtain ⟨ρ', P', k1, k2, _⟩ := htn
   obtain ⟨q1, q2, q3, _⟩ := key W hb
   have hl := hb.size
   have hl1 := hb1.size
   have hlx := q00 hx1
   refine ⟨?_, ?_, ?_, k1.marksL⟩
   ·rw [World.cell?_of_block (a := ⟨w.heap.size, 0, none⟩) (k2.block w.heap.size (by omega) (fun q => q hx0))]; exact q1
   ·rw [World.cell?_of_block (a := ⟨n1, 0, none⟩) (k2.block n1 (by simp only at l1; omega) (fun q => q z1))]; exact q2
   ·rw [World.cell?_of_block (a := ⟨n2, 0, none⟩) (k2.block n2 (by simp only at l2; omega) (fun q => q z2))]; exact q3
  have HKp := qh hS1
  have HRd := qh hS2
  have HKp5 := qh hS51
  have HKt5 := qh hS52
  have HRd5 := qh hS53
  cases hrd : (q1v b.st.K xk t.began).isSome with
  | true =>
   have hnone : (q1v b.st.K xk t.began).isNone = false := by cases hx : q1v b.st.K xk t.began <;> rw [hx] at hrd <;> simp_all
   have HI := qh (show q1C b.st t ⟨xk, true, xd⟩ = false by unfold q1C; rw [hnone]; rfl)
   have HM := qh (show q3C L b.st t ⟨xk, true, xd⟩ = t by unfold q3C; rw [HI.out]; rfl)
   rw [hrd] at HRs
   clear h ht hi hml hm1 hm2 htb h1 h2 z1 z2 hk hw1 hb1 hx1 l1 l2 hrd hnone hS1 hS2 hS51 hS52 hS53 HMk HPt HKp5 HKt5 HRd5
   unfold ptrS at HRs HRd
   go_enter Tryz.func190, Tryz.ntmps190
   go_upto_region 1 with fail
   rw [HW1.out]
   go_upto_region 3 with fail
   refine wp_region_held_drew (S := S) (by kernel_rfl) ?_ (fun hGd => ?_)
   ·exact HKp.out _ (Below.refl _ _).drew
   refine tkH (i := 0) (v := ?_) (fun w hSw => ?_) ?_
   rotate_left
   ·obtain ⟨z0, z1, z2, z7, zb⟩ := HRd.out _ hSw; go_simp <;> with_reducible rfl
   (try simp only [Act.put, qA, qB, qC])
   refine tkS (i := 1) (v := ?_) ?_
   (try simp only [Act.put, qA, qB, qC])
   refine tkS (i := 2) (v := ?_) ?_
   (try simp only [Act.put, qA, qB, qC])
   refine tkH (i := 3) (v := ?_) (fun w hSw => ?_) ?_
   rotate_left
   ·obtain ⟨z0, z1, z2, z7, zb⟩ := HRd.out _ hSw; go_simp <;> with_reducible rfl
   (try simp only [Act.put, qA, qB, qC])
   refine tkS (i := 4) (v := ?_) ?_
   (try simp only [Act.put, qA, qB, qC])
   refine tkH (i := 5) (v := ?_) (fun w hSw => ?_) ?_
   rotate_left
   ·obtain ⟨z0, z1, z2, z7, zb⟩ := HRd.out _ hSw; go_simp <;> with_reducible rfl
   (try simp only [Act.put, qA, qB, qC])
   refine tkH (i := 6) (v := ?_) (fun w hSw => ?_) ?_
   rotate_left
   ·obtain ⟨z0, z1, z2, z7, zb⟩ := HRd.out _ hSw; go_simp <;> with_reducible rfl
   (try simp only [Act.put, qA, qB, qC])
   refine tkS (i := 7) (v := ?_) ?_
   (try simp only [Act.put, qA, qB, qC])
   refine tkS (i := 8) (v := ?_) ?_
   (try simp only [Act.put, qA, qB, qC])
   refine tkH (i := 9) (v := ?_) (fun w hSw => ?_) ?_
   rotate_left
   ·obtain ⟨z0, z1, z2, z7, zb⟩ := HRd.out _ hSw; go_simp <;> with_reducible rfl
   (try simp only [Act.put, qA, qB, qC])
   refine stH (i := 10) (fun K' hK => ?_)
   go_simp
   go_at_call 80; with_reducible refine (HRs.out _ (Below.refl _ _).drew).mono ?_; rintro r w3 ⟨A3, c3, rfl, hb3⟩
   (first | (refine hK.out _ _ ?_ (fun hG2 => ?_)) | (go_wp2_with fail; refine hK.out _ _ ?_ (fun hG2 => ?_)))
   ·exact HKp.out _ hb3
   clear hK K' hGd
   have hGd := hG2
   clear hG2
   (try simp only [Act.put, qA, qB, qC])
   refine tkS (i := 11) (v := ?_) ?_
   (try simp only [Act.put, qA, qB, qC])
   refine tkS (i := 12) (v := ?_) ?_
   (try simp only [Act.put, qA, qB, qC])
   refine tkS (i := 13) (v := ?_) ?_
   (try simp only [Act.put, qA, qB, qC])
   refine tkS (i := 14) (v := ?_) ?_
   (try simp only [Act.put, qA, qB, qC])
   refine tkS (i := 15) (v := ?_) ?_
   (try simp only [Act.put, qA, qB, qC])
   refine wpAnyH_done (by kernel_rfl) ?_ _
   go_wp2_with fail
   go_ret
   rw [HM.out, HI.out]
   exact ⟨rfl, HSame.out _ (HB1.out.trans (hb3.mono HB1.out.size))⟩
  | false =>
   have hnone : (q1v b.st.K xk t.began).isNone = true := by cases hx : q1v b.st.K xk t.began <;> rw [hx] at hrd <;> simp_all
   have HI := qh (show q1C b.st t ⟨xk, true, xd⟩ = true by unfold q1C; rw [hnone]; rfl)
   have HM := qh (show q3C L b.st t ⟨xk, true, xd⟩ = q36 (FT L) t (q0j xk) by unfold q3C; rw [HI.out]; rfl)
   rw [hrd] at HRs
   clear h ht hi hml hm1 hm2 htb h1 h2 z1 z2 hk hw1 hb1 hx1 l1 l2 hrd hnone hS1 hS2 hS51 hS52 hS53
   unfold ptrS at HRs HRd HRd5 HMk
   go_enter Tryz.func190, Tryz.ntmps190
   go_upto_region 1 with fail
   rw [HW1.out]
   go_upto_region 3 with fail
   refine wp_region_held_drew (S := S) (by kernel_rfl) ?_ (fun hGd => ?_)
   ·exact HKp.out _ (Below.refl _ _).drew
   refine tkH (i := 0) (v := ?_) (fun w hSw => ?_) ?_
   rotate_left
   ·obtain ⟨z0, z1, z2, z7, zb⟩ := HRd.out _ hSw; go_simp <;> with_reducible rfl
   (try simp only [Act.put, qA, qB, qC])
   refine tkS (i := 1) (v := ?_) ?_
   (try simp only [Act.put, qA, qB, qC])
   refine tkS (i := 2) (v := ?_) ?_
   (try simp only [Act.put, qA, qB, qC])
   refine tkH (i := 3) (v := ?_) (fun w hSw => ?_) ?_
   rotate_left
   ·obtain ⟨z0, z1, z2, z7, zb⟩ := HRd.out _ hSw; go_simp <;> with_reducible rfl
   (try simp only [Act.put, qA, qB, qC])
   refine tkS (i := 4) (v := ?_) ?_
   (try simp only [Act.put, qA, qB, qC])
   refine tkH (i := 5) (v := ?_) (fun w hSw => ?_) ?_
   rotate_left
   ·obtain ⟨z0, z1, z2, z7, zb⟩ := HRd.out _ hSw; go_simp <;> with_reducible rfl
   (try simp only [Act.put, qA, qB, qC])
   refine tkH (i := 6) (v := ?_) (fun w hSw => ?_) ?_
   rotate_left
   ·obtain ⟨z0, z1, z2, z7, zb⟩ := HRd.out _ hSw; go_simp <;> with_reducible rfl
   (try simp only [Act.put, qA, qB, qC])
   refine tkS (i := 7) (v := ?_) ?_
   (try simp only [Act.put, qA, qB, qC])
   refine tkS (i := 8) (v := ?_) ?_
   (try simp only [Act.put, qA, qB, qC])
   refine tkH (i := 9) (v := ?_) (fun w hSw => ?_) ?_
   rotate_left
   ·obtain ⟨z0, z1, z2, z7, zb⟩ := HRd.out _ hSw; go_simp <;> with_reducible rfl
   (try simp only [Act.put, qA, qB, qC])
   refine stH (i := 10) (fun K' hK => ?_)
   go_simp
   go_at_call 80; with_reducible refine (HRs.out _ (Below.refl _ _).drew).mono ?_; rintro r w3 ⟨A3, c3, rfl, hb3⟩
   (first | (refine hK.out _ _ ?_ (fun hG2 => ?_)) | (go_wp2_with fail; refine hK.out _ _ ?_ (fun hG2 => ?_)))
   ·exact HKp.out _ hb3
   clear hK K' hGd
   have hGd := hG2
   clear hG2
   (try simp only [Act.put, qA, qB, qC])
   refine tkS (i := 11) (v := ?_) ?_
   (try simp only [Act.put, qA, qB, qC])
   refine tkS (i := 12) (v := ?_) ?_
   (try simp only [Act.put, qA, qB, qC])
   refine tkS (i := 13) (v := ?_) ?_
   (try simp only [Act.put, qA, qB, qC])
   refine tkS (i := 14) (v := ?_) ?_
   (try simp only [Act.put, qA, qB, qC])
   refine tkS (i := 15) (v := ?_) ?_
   (try simp only [Act.put, qA, qB, qC])
   refine wpAnyH_done (by kernel_rfl) ?_ _
   go_upto_region 5 with fail
   clear hGd
   refine wp_region_held_drew (S := S5) (by kernel_rfl) ?_ (fun hGd => ?_)
   ·exact HKp5.out _ hb3.drew
   refine tkH (i := 0) (v := ?_) (fun w hSw => ?_) ?_
   rotate_left
   ·obtain ⟨z0, z1, z2, z3⟩ := HRd5.out _ hSw; go_simp <;> with_reducible rfl
   (try simp only [Act.put, qA, qB, qC])
   refine tkS (i := 1) (v := ?_) ?_
   (try simp only [Act.put, qA, qB, qC])
   refine tkH (i := 2) (v := ?_) (fun w hSw => ?_) ?_
   rotate_left
   ·obtain ⟨z0, z1, z2, z3⟩ := HRd5.out _ hSw; go_simp <;> with_reducible rfl
   (try simp only [Act.put, qA, qB, qC])
   refine tkH (i := 4) (v := ?_) (fun w hSw => ?_) ?_
   rotate_left
   ·obtain ⟨z0, z1, z2, z3⟩ := HRd5.out _ hSw; go_simp <;> with_reducible rfl
   (try simp only [Act.put, qA, qB, qC])
   refine tkS (i := 5) (v := ?_) ?_
   (try simp only [Act.put, qA, qB, qC])
   refine tkS (i := 6) (v := ?_) ?_
   (try simp only [Act.put, qA, qB, qC])
   refine tkS (i := 7) (v := ?_) ?_
   (try simp only [Act.put, qA, qB, qC])
   refine tkH (i := 8) (v := ?_) (fun w hSw => ?_) ?_
   rotate_left
   ·obtain ⟨z0, z1, z2, z3⟩ := HRd5.out _ hSw; go_simp <;> with_reducible rfl
   (try simp only [Act.put, qA, qB, qC])
   refine stH (i := 3) (fun K' hK => ?_)
   go_simp
   go_at_call 79; with_reducible refine (HPt.out _ hb3.drew).mono ?_; rintro r w4 ⟨rfl, hb4⟩
   (first | (refine hK.out _ _ ?_ (fun hG2 => ?_)) | (go_wp2_with fail; refine hK.out _ _ ?_ (fun hG2 => ?_)))
   ·exact HKp5.out _ hb4
   clear hK K' hGd
   have hGd := hG2
   clear hG2
   (try simp only [Act.put, qA, qB, qC])
   refine stH (i := 9) (fun K' hK => ?_)
   go_simp
   go_at_call 78; with_reducible refine (HMk.out _ hb4).mono ?_; rintro r w5 ⟨rfl, ht5⟩
   (first | (refine hK.out _ _ ?_ (fun hG2 => ?_)) | (go_wp2_with fail; refine hK.out _ _ ?_ (fun hG2 => ?_)))
   ·exact HKt5.out _ _ _ hb4 ht5
   clear hK K' hGd
   have hGd := hG2
   clear hG2
   (try simp only [Act.put, qA, qB, qC])
   refine wpAnyH_done (by kernel_rfl) ?_ _
   go_wp2_with fail
   go_ret
   rw [HM.out, HI.out]
   exact ⟨rfl, ht5.from (HB1.out.trans (hb4.mono HB1.out.size))⟩
end
end Go.Proofs.YtdpbllacfljmoaaGreat
