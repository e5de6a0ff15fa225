import Derived.Test.YtdpbllacfljmoaaGreatZF28
import Derived.Test.YtdpbllacfljmoaaGreatZF32
import Derived.Deep.AppendLies
import Derived.Lib.SliceRun
import Derived.RegionTactic
import Derived.Deep.LoopGhost
import Derived.Deep.DeepCutAuto
set_option maxRecDepth 100000
set_option maxHeartbeats 16000000
set_option linter.unusedVariables false
namespace Go.Proofs.YtdpbllacfljmoaaGreat
open Go.RowKit
structure ApMR (w : World) (v : Value) (x : MR) : Prop where
 ok : OkMR w w.heap.size x
 farA : ∀ g o, x.A = some ⟨g, o, none⟩ → 0 < x.r.reads.length → v.ownBlock ≠ some g
 farB : ∀ g o, x.B = some ⟨g, o, none⟩ → 0 < x.r.writes.length → v.ownBlock ≠ some g
section
variable {w w' : World} {lo hi B g : Nat} {v v' : Value} {x : MR} {A : Option Addr} {c : Nat} {l : List Sp}
theorem ChI.grownM (h : ChI w w.heap.size A c l) (hg : w.grownBy w' v.ownBlock) (hf : ∀ g o, A = some ⟨g, o, none⟩ → 0 < l.length → v.ownBlock ≠ some g) : ChI w' w'.heap.size A c l := by
 refine ⟨h.1, h.2.1, h.2.2.1, fun hn => ?_⟩
 obtain ⟨b, o, e, h1, h2, hc⟩ := h.2.2.2 hn
 refine ⟨b, o, e, h1, Nat.lt_of_lt_of_le h2 hg.size, fun j u hu => ?_⟩
 rw [World.cell?_of_block (hg.block b h2 (fun q => hf b o e hn q.symm))]
 exact hc j u hu
theorem ApMR.below (h : ApMR w v x) (hb : Below w.heap.size w w') : ApMR w' v x := ⟨h.ok.below hb (Nat.le_refl _) hb.size, h.farA, h.farB⟩
theorem q7o {A : Option Addr} {l : List Sp} (h : RowG q07 w lo hi A l) {g o : Nat} (e : A = some ⟨g, o, none⟩) (hn : 0 < l.length) : lo ≤ g ∧ g < hi := by
 obtain ⟨b, o', e', h1, h2, _⟩ := h hn
 rw [e] at e'
 injection e' with e'
 injection e' with e1
 subst e1
 exact ⟨h1, h2⟩
theorem ApMR.grown (h : ApMR w v x) (hg : w.grownBy w' v.ownBlock) (hv : v'.ownBlock = v.ownBlock ∨ v'.ownBlock = some w.heap.size) : ApMR w' v' x := by
 refine ⟨⟨h.ok.first, h.ok.last, h.ok.began, h.ok.out, h.ok.reads.grownM hg h.farA, h.ok.writes.grownM hg h.farB⟩, fun g o e hn => ?_, fun g o e hn => ?_⟩
 ·rcases hv with hv | hv
  ·rw [hv]; exact h.farA g o e hn
  ·rw [hv]
   have := (q7o h.ok.reads.2.2.2 e hn).2
   intro q
   injection q with q
   omega
 ·rcases hv with hv | hv
  ·rw [hv]; exact h.farB g o e hn
  ·rw [hv]
   have := (q7o h.ok.writes.2.2.2 e hn).2
   intro q
   injection q with q
   omega
theorem FrMR.apart (h : FrMR w lo w.heap.size x) (hv : ∀ g, v.ownBlock = some g → g < lo) : ApMR w v x :=
 ⟨h.ok, fun g o e hn q => by have := (q7o h.reads e hn).1; have := hv g q; omega, fun g o e hn q => by have := (q7o h.writes e hn).1; have := hv g q; omega⟩
theorem FrMR.below (h : FrMR w lo hi x) (hb : Below B w w') (hB : hi ≤ B) {lo' hi' : Nat} (hl : lo' ≤ lo) (hh : hi ≤ hi') : FrMR w' lo' hi' x := ⟨h.ok.below hb hB hh, (h.reads.below hb hB).wide hl hh, (h.writes.below hb hB).wide hl hh⟩
theorem FrMR.wide (h : FrMR w lo hi x) {lo' : Nat} (hl : lo' ≤ lo) : FrMR w lo' hi x := ⟨h.ok, h.reads.wide hl (Nat.le_refl _), h.writes.wide hl (Nat.le_refl _)⟩
theorem FrMR.far (h : FrMR w lo hi x) (hk : ∀ g, lo ≤ g → w'.heap[g]? = w.heap[g]?) : FrMR w' lo hi x := by
 have hr : RowG q07 w' lo hi x.A x.r.reads := h.reads.keep fun p h1 _ => World.cell?_of_block (hk _ h1)
 have hw : RowG q07 w' lo hi x.B x.r.writes := h.writes.keep fun p h1 _ => World.cell?_of_block (hk _ h1)
 exact ⟨⟨h.ok.first, h.ok.last, h.ok.began, h.ok.out, ⟨h.ok.reads.1, h.ok.reads.2.1, h.ok.reads.2.2.1, hr.wide (Nat.zero_le _) (Nat.le_refl _)⟩, ⟨h.ok.writes.1, h.ok.writes.2.1, h.ok.writes.2.2.1, hw.wide (Nat.zero_le _) (Nat.le_refl _)⟩⟩, hr, hw⟩
end
theorem FrMR.grown {w w' : World} {lo : Nat} {v : Value} {x : MR} (h : FrMR w lo w.heap.size x) (ha : ApMR w v x) (hg : w.grownBy w' v.ownBlock) : FrMR w' lo w'.heap.size x := by
 have hk : ∀ {A : Option Addr} {l : List Sp}, RowG q07 w lo w.heap.size A l → (∀ g o, A = some ⟨g, o, none⟩ → 0 < l.length → v.ownBlock ≠ some g) → RowG q07 w' lo w'.heap.size A l := fun hr hf hn => by
  obtain ⟨b, o, e, h1, h2, hc⟩ := hr hn
  refine ⟨b, o, e, h1, Nat.lt_of_lt_of_le h2 hg.size, fun j u hu => ?_⟩
  rw [World.cell?_of_block (hg.block b h2 (fun q => hf b o e hn q.symm))]
  exact hc j u hu
 exact ⟨⟨ha.ok.first, ha.ok.last, ha.ok.began, ha.ok.out, ha.ok.reads.grownM hg ha.farA, ha.ok.writes.grownM hg ha.farB⟩, hk h.reads ha.farA, hk h.writes ha.farB⟩
def q4p (m : List RecS) (w : World) (r : Ending) (w' : World) : Prop := ∃ v ms, r = .returned v ∧ ms.map MR.r = m ∧ OwnG 86 6 q0d w' w.heap.size v ms ∧ (∀ x ∈ ms, FrMR w' w.heap.size w'.heap.size x ∧ ApMR w' v x) ∧ Below w.heap.size w w'
theorem q4p.retRec {m : List RecS} {w w' : World} {r : Ending} (h : q4p m w r w') : q89 m w r w' := by
 obtain ⟨v, ms, rfl, hm, ho, hf, hb⟩ := h
 obtain ⟨A', c', rfl, k1, k2, k3, k4⟩ := ho.form
 have e : ms.length = m.length := by rw [← hm, List.length_map]
 exact ⟨A', c', by rw [← e], ⟨by rw [← e]; exact k1, k2, k3, ms, hm, k4.wide (Nat.zero_le _) (Nat.le_refl _), fun u hu => (hf u hu).2.ok⟩, hb⟩
theorem q9x (w : World) {ops : Array Oper} {rest : List Oper} {o : Oper} {a : Act} {Q : Exit → Act → World → Prop} (hgd : o.guard = none) (s x : Operand)
  (ho : o.op = .call { callee := .builtin .append, args := #[s, x], argTypes := #[52, 52] })
  (base : Nat) (v : Value) (ms : List MR) (hs : a.eval s = v) (hown : OwnG 86 6 q0d w base v ms) (y : MR) (g0 : Nat) (hx : a.eval x = .slice (some ⟨g0, 0, none⟩) 1 1)
  (hg : w.heap[g0]? = some (.cells (q0d y).toArray 86 (0, 0))) (hlen : ms.length + 1 ≤ 1000000) (hbase : base ≤ w.heap.size)
  (h : ∀ v' w', OwnG 86 6 q0d w' base v' (ms ++ [y]) → w.grownBy w' v.ownBlock → (v'.ownBlock = v.ownBlock ∨ v'.ownBlock = some w.heap.size) → wpList Tryz.prog ops Q rest (a.put o.dst v') w') : wpList Tryz.prog ops Q (o :: rest) a w := by
 obtain ⟨i, z, hi0, hz0, hzs, hz2, hz3⟩ := qdJ
 refine wpList_append_lies w hgd s x 52 ho base 86 i z 6 80 Tryz.underlying52 hi0 hz0 hz2 hz3 hzs (by omega) v ms.length (q0g q0d ms) hs hown ⟨g0, 0, none⟩ 1 1 (q0g q0d [y]) hx
  (by rw [mrF.flat_len]; rfl) ?_ (mrF.flat_one [y]) (by omega) (by unfold maxLen; omega) (by omega) hbase w.heap.size rfl ?_
 ·intro j u hu
  rw [q0Q]
  obtain ⟨b, o', e, _, _, hc⟩ := (RowG.one hg) (by simp : 0 < [y].length)
  injection e with e
  injection e with e1 e2
  subst e1 e2
  exact hc j u hu
 ·intro g cap w' h1 h2 h3 h4
  refine h _ w' ?_ h2 ?_
  ·unfold OwnG
   rw [List.length_append, q0Z]
   exact h1
  ·rcases h3 with h3 | h3
   ·exact .inl h3.symm
   ·exact .inr (by rw [h3]; rfl)
theorem q4b (l : List Sp) (A : Option Addr) (c : Nat) (w : World) (hl : l.length ≤ 1000000) (h : ChI w w.heap.size A c l) :
  Calls Tryz.prog 71 #[.slice A l.length c] w fun r w' => ∃ A' c', r = .returned (.slice A' l.length c') ∧ ChI w' w'.heap.size A' c' l ∧ RowG q07 w' w.heap.size w'.heap.size A' l ∧ Below w.heap.size w w' := by
 have q22 : ∀ (w : World) (a : Option Addr) (n c n' c' : Nat), (binOp .eql 84 (.slice a n c) (.slice none n' c')).run Tryz.prog w = .ok (.bool a.isNone) w := fun w a n c n' c' => Lib.run_eql_slice_nil w _ _ a n c n' c' Tryz.underlying84
 cases A with
 | none =>
  obtain rfl := h.2.2.1 rfl
  have h0 : l = [] := List.eq_nil_of_length_eq_zero (by have := h.1; omega)
  subst h0
  clear h hl
  go_enter Tryz.func71, Tryz.ntmps71
  go_wp2
  go_ret
  exact ⟨none, 0, rfl, ChI.none_ _ _, RowG.nil_, Below.refl _ _⟩
 | some ad =>
  have HC := qh (h.below ((Below.refl _ w).alloc (Nat.le_refl _) (.cells #[] 131)) (Nat.le_refl _) (Nat.le_refl _))
  have HB0 := qh ((Below.refl w.heap.size w).alloc (Nat.le_refl _) (.cells #[] 131))
  have HL := qh hl
  clear h hl
  go_enter Tryz.func71, Tryz.ntmps71
  go_wp2_with (at_builtin; refine q2Y _ rfl _ _ 84 131 32 spF qb9 Tryz.underlying84 rfl w.heap.size _ [] rfl (OwnG.made w 131 2 q07) 0 _ (some ad) l.length c l rfl rfl HC.out.2.2.1 HC.out.2.2.2 (by have := HL.out; simp [maxLen]; omega) (by have := HL.out; simp; omega) (by simp) ?_; intro v1 w1 ho1 hg1; have HO1 := qh ho1; have HB1 := qh (HB0.out.grown hg1 (by simp) (fun k hk => ((OwnG.made w 131 2 q07).lt k hk).1)); clear ho1 hg1)
  obtain ⟨A', c', rfl, k1, k2, k3, k4⟩ := HO1.out.form
  go_wp2
  go_ret
  rw [List.nil_append] at k1 k4
  exact ⟨A', c', by rw [List.nil_append]; rfl, ⟨k1, k2, k3, k4.wide (Nat.zero_le _) (Nat.le_refl _)⟩, k4, HB1.out⟩
theorem q8s (x : MR) (w : World) (ho : okR x.r) (hx : OkMR w w.heap.size x) :
  Calls Tryz.prog 200 #[q0u x] w (qfO x.r w) := by
 obtain ⟨⟨xf, xl, xb, xo, xr, xw⟩, xA, xc, xB, xd⟩ := x
 unfold q0u
 have HX := qh hx
 have HO := qh ho
 clear hx ho
 simp only at HX HO
 have HNum := qh (And.intro HX.out.first (And.intro HX.out.last (And.intro HX.out.began HX.out.out)))
 go_enter Tryz.func200, Tryz.ntmps200
 go_upto_region 1 with fail
 obtain ⟨w1, hw1⟩ : ∃ y, (w.alloc (.cells #[.int .u64 xf, .int .u64 xl, .int .u64 xb, .int .u64 xo, .slice xA xr.length xc, .slice xB xw.length xd] 86)).alloc (.cells #[.int .u64 0, .int .u64 0, .int .u64 0, .int .u64 0, .slice none 0 0, .slice none 0 0] 86) = y := ⟨_, rfl⟩
 rw [hw1]
 have hb1 : Below w.heap.size w w1 := by rw [← hw1]; exact ((Below.refl _ w).alloc (Nat.le_refl _) _).alloc (by simp) _
 have hs1 : w1.heap.size = w.heap.size + 2 := by rw [← hw1]; simp
 have hx1 : w1.heap[w.heap.size]? = some (.cells #[.int .u64 xf, .int .u64 xl, .int .u64 xb, .int .u64 xo, .slice xA xr.length xc, .slice xB xw.length xd] 86 (0, 0)) := by rw [← hw1]; exact q0G (heap_alloc_new w _) _
 have hz1 : w1.heap[w.heap.size + 1]? = some (.cells #[.int .u64 0, .int .u64 0, .int .u64 0, .int .u64 0, .slice none 0 0, .slice none 0 0] 86 (0, 0)) := by rw [← hw1]; exact q23 w _ _
 clear hw1
 have HB1 := qh hb1
 have HS1 := qh hs1
 have HX1 := qh (fun (W : World) (h : Below w1.heap.size w1 W) => q01 hx1 h (q00 hx1))
 have HZ1 := qh (fun (W : World) (h : Below w1.heap.size w1 W) => q01 hz1 h (q00 hz1))
 have HCl := qh (fun (W : World) (h : Below w1.heap.size w1 W) => q0O (HX1.out W h))
 have HFr := qh (fun (W : World) (h : Below w1.heap.size w1 W) => And.intro (q02 (HX1.out W h) 4) (q02 (HX1.out W h) 5))
 have C1 : Hid (∀ (W : World), Below w1.heap.size w1 W → Calls Tryz.prog 71 #[.slice xA xr.length xc] W fun r w' => ∃ A' c', r = .returned (.slice A' xr.length c') ∧ ChI w' w'.heap.size A' c' xr ∧ RowG q07 w' w1.heap.size w'.heap.size A' xr ∧ Below w1.heap.size w1 w') :=
  qh fun W h => (q4b xr xA xc W (by have := HO.out.1; simp only at this; omega) ((HX.out.reads.below hb1 (Nat.le_refl _) hb1.size).below h (Nat.le_refl _) h.size)).mono fun _ _ ⟨A', c', e, h1, h2, q⟩ => ⟨A', c', e, h1, h2.wide h.size (Nat.le_refl _), h.trans (q.mono h.size)⟩
 have C2 : Hid (∀ (A' : Option Addr) (c' : Nat) (W : World), ChI W W.heap.size A' c' xr → RowG q07 W w1.heap.size W.heap.size A' xr → Below w1.heap.size w1 W → Calls Tryz.prog 71 #[.slice xB xw.length xd] W fun r w' => ∃ B' d', r = .returned (.slice B' xw.length d') ∧ FrMR w' w1.heap.size w'.heap.size ⟨⟨xf, xl, xb, xo, xr, xw⟩, A', c', B', d'⟩ ∧ Below w1.heap.size w1 w') :=
  qh fun A' c' W h1 h2 h => (q4b xw xB xd W (by have := HO.out.2; simp only at this; omega) ((HX.out.writes.below hb1 (Nat.le_refl _) hb1.size).below h (Nat.le_refl _) h.size)).mono fun _ _ ⟨B', d', e, h3, h4, q⟩ => ⟨B', d', e, ⟨⟨HNum.out.1, HNum.out.2.1, HNum.out.2.2.1, HNum.out.2.2.2, h1.below q (Nat.le_refl _) q.size, h3⟩, (h2.below q (Nat.le_refl _)).wide (Nat.le_refl _) q.size, h4.wide h.size (Nat.le_refl _)⟩, h.trans (q.mono h.size)⟩
 obtain ⟨z0, z1, z2, z3, z4, z5⟩ := HCl.out _ (Below.refl _ _)
 clear hb1 hs1 hx1 hz1
 go_region_with ((first
  | (go_at_call 71; with_reducible refine (C2.out _ _ _ h2 h2r hb2).mono ?_; rintro r w3 ⟨B', d', rfl, h3, hb3⟩; obtain ⟨f4, f5⟩ := HFr.out _ hb3; obtain ⟨u0, u1, u2, u3, u4, u5⟩ := HCl.out _ hb3; clear h2 h2r hb2)
  | (go_at_call 71; with_reducible refine (C1.out _ (Below.refl _ _).drew).mono ?_; rintro r w2 ⟨A', c', rfl, h2, h2r, hb2⟩; obtain ⟨y0, y1, y2, y3, y4, y5⟩ := HCl.out _ hb2; clear z0 z1 z2 z3 z4 z5)))
 all_goals
  have hx3 := HX1.out _ hb3
  have hx5 : ((w3.setCell ⟨w.heap.size, 4, none⟩ (.slice A' xr.length c')).setCell ⟨w.heap.size, 5, none⟩ (.slice B' xw.length d')).heap[w.heap.size]? = some (.cells #[.int .u64 xf, .int .u64 xl, .int .u64 xb, .int .u64 xo, .slice A' xr.length c', .slice B' xw.length d'] 86 (0, 0)) := by
   rw [q1n (q1n hx3 4 (.slice A' xr.length c')) 5 (.slice B' xw.length d')]
   rfl
  have hz5 : ((w3.setCell ⟨w.heap.size, 4, none⟩ (.slice A' xr.length c')).setCell ⟨w.heap.size, 5, none⟩ (.slice B' xw.length d')).heap[w.heap.size + 1]? = some (.cells #[.int .u64 0, .int .u64 0, .int .u64 0, .int .u64 0, .slice none 0 0, .slice none 0 0] 86 (0, 0)) := by
   rw [q1p (by omega), q1p (by omega)]
   exact HZ1.out _ hb3
  have hb5 : Below w.heap.size w ((w3.setCell ⟨w.heap.size, 4, none⟩ (.slice A' xr.length c')).setCell ⟨w.heap.size, 5, none⟩ (.slice B' xw.length d')) := ((HB1.out.trans (hb3.mono HB1.out.size)).setCell (Nat.le_refl _) _).setCell (Nat.le_refl _) _
  have hfr : FrMR ((w3.setCell ⟨w.heap.size, 4, none⟩ (.slice A' xr.length c')).setCell ⟨w.heap.size, 5, none⟩ (.slice B' xw.length d')) w1.heap.size w3.heap.size ⟨⟨xf, xl, xb, xo, xr, xw⟩, A', c', B', d'⟩ := h3.far (fun g hg => by rw [q1p (by have := HS1.out; omega), q1p (by have := HS1.out; omega)])
  have hs5 : ((w3.setCell ⟨w.heap.size, 4, none⟩ (.slice A' xr.length c')).setCell ⟨w.heap.size, 5, none⟩ (.slice B' xw.length d')).heap.size = w3.heap.size := by simp [World.setCell]
  generalize (w3.setCell ⟨w.heap.size, 4, none⟩ (.slice A' xr.length c')).setCell ⟨w.heap.size, 5, none⟩ (.slice B' xw.length d') = w5 at *
  have HZ5 := qh hz5
  have HX5 := qh (q0O hx5)
  have HB5 := qh hb5
  have HF5 := qh hfr
  have HS5 := qh hs5
  clear hx3 hx5 hz5 hb5 hfr hs5 h3 hb3 f4 f5 u0 u1 u2 u3 u4 u5
  obtain ⟨z0, z1, z2, z3, z4, z5⟩ := HX5.out
  obtain ⟨a0, a1, a2, a3, a4, a5, q0, q1, q2, q3, q4, q5, g0, g1, g2, g3, g4, g5⟩ := (Box6.of HZ5.out).cells
  go_wp2_with fail
  refine bodyPost_ret (results6 (k := 2) (h := w.heap.size + 1) rfl rfl (by rfl) (Box6.set (Box6.of HZ5.out))) (by rfl) ?_
  refine ⟨⟨⟨xf, xl, xb, xo, xr, xw⟩, A', c', B', d'⟩, rfl, rfl, ?_, Below.set6 HB5.out (by omega)⟩
  rw [show (World.setCell _ _ _).heap.size = w5.heap.size from q39, HS5.out]
  exact (HF5.out.far (fun g hg => q4L (by have := HS1.out; omega))).wide (by have := HS1.out; omega)
open Go.RowKit
def BlkM (w : World) (lo g cap : Nat) (l : List MR) : Prop :=
 ∃ cur, lo ≤ g ∧ w.heap[g]? = some (.cells cur 86 (0, 0)) ∧ l.length ≤ cap ∧ cap ≤ maxLen ∧ cur.size = cap * 6 ∧ cur.toList.take (l.length * 6) = q0g q0d l
section
variable {w w' : World} {lo g cap : Nat} {l : List MR}
theorem BlkM.own (h : BlkM w lo g cap l) : OwnG 86 6 q0d w lo (.slice (some ⟨g, 0, none⟩) l.length cap) l := by
 obtain ⟨cur, h1, h2, h3, h4, h5, h6⟩ := h
 exact ⟨mrF.flat_len l, .inr ⟨g, cap, cur, rfl, h1, h2, h3, h4, h5, h6⟩⟩
theorem OwnG.blkM {v : Value} (h : OwnG 86 6 q0d w lo v l) : (v = .slice none 0 0 ∧ l = []) ∨ ∃ g cap, v = .slice (some ⟨g, 0, none⟩) l.length cap ∧ BlkM w lo g cap l := by
 rcases h.2 with ⟨h1, h2⟩ | ⟨g, cap, cur, hv, h1, h2, h3, h4, h5, h6⟩
 ·exact .inl ⟨h1, List.eq_nil_of_length_eq_zero h2⟩
 ·exact .inr ⟨g, cap, hv, cur, h1, h2, h3, h4, h5, h6⟩
theorem BlkM.lt (h : BlkM w lo g cap l) : lo ≤ g ∧ g < w.heap.size := by
 obtain ⟨_, h1, h2, _⟩ := h
 exact ⟨h1, q00 h2⟩
theorem BlkM.keep (h : BlkM w lo g cap l) (hk : w'.heap[g]? = w.heap[g]?) : BlkM w' lo g cap l := by
 obtain ⟨cur, h1, h2, h3⟩ := h
 exact ⟨cur, h1, hk.trans h2, h3⟩
theorem BlkM.below (h : BlkM w lo g cap l) (hb : Below w.heap.size w w') : BlkM w' lo g cap l := h.keep (hb.block g h.lt.2)
theorem BlkM.frozen (h : BlkM w lo g cap l) (o : Nat) : w.frozen? ⟨g, o, none⟩ = false := by
 obtain ⟨cur, _, h2, _⟩ := h
 exact q02 h2 o
theorem BlkM.cells (h : BlkM w lo g cap l) {j : Nat} (hj : j < l.length) : w.cell? ⟨g, j * 6, none⟩ = some (.int .u64 (l[j]'hj).r.first) ∧ w.cell? ⟨g, j * 6 + 1, none⟩ = some (.int .u64 (l[j]'hj).r.last) ∧ w.cell? ⟨g, j * 6 + 2, none⟩ = some (.int .u64 (l[j]'hj).r.began) ∧
  w.cell? ⟨g, j * 6 + 3, none⟩ = some (.int .u64 (l[j]'hj).r.out) ∧ w.cell? ⟨g, j * 6 + 4, none⟩ = some (.slice (l[j]'hj).A (l[j]'hj).r.reads.length (l[j]'hj).c) ∧ w.cell? ⟨g, j * 6 + 5, none⟩ = some (.slice (l[j]'hj).B (l[j]'hj).r.writes.length (l[j]'hj).d) := by
 obtain ⟨cur, _, h2, _, _, h5, h6⟩ := h
 have hc : ∀ i u, i < 6 → (q0d (l[j]'hj))[i]? = some u → w.cell? ⟨g, j * 6 + i, none⟩ = some u := fun i u hi hu => by
  have e := mrF.flat_at l j hj i hi
  rw [hu, ← h6, List.getElem?_take] at e
  rw [cell_of_row w g _ _ _ _ h2]
  split at e
  ·rw [← e, Array.getElem?_toList]
  ·cases e
 exact ⟨hc 0 _ (by omega) rfl, hc 1 _ (by omega) rfl, hc 2 _ (by omega) rfl, hc 3 _ (by omega) rfl, hc 4 _ (by omega) rfl, hc 5 _ (by omega) rfl⟩
theorem q8H : ∀ (l : List MR) (j : Nat) (x : MR), j < l.length → q0g q0d (l.set j x) = ((((((q0g q0d l).set (j * 6) (.int .u64 x.r.first)).set (j * 6 + 1) (.int .u64 x.r.last)).set (j * 6 + 2) (.int .u64 x.r.began)).set (j * 6 + 3) (.int .u64 x.r.out)).set (j * 6 + 4) (.slice x.A x.r.reads.length x.c)).set (j * 6 + 5) (.slice x.B x.r.writes.length x.d)
 | [], _, _, h => absurd h (by simp)
 | y :: l, 0, x, _ => by simp [q0k, q0d]
 | y :: l, j + 1, x, h => by
  have ih := q8H l j x (by simpa using h)
  rw [List.set_cons_succ, q0k, q0k, ih]
  rw [show (j + 1) * 6 = (j * 6) + 6 by omega]
  simp [q0d]
theorem BlkM.store (h : BlkM w lo g cap l) (j : Nat) (x : MR) (hj : j < l.length) : BlkM ((((((w.setCell ⟨g, j * 6, none⟩ (.int .u64 x.r.first)).setCell ⟨g, j * 6 + 1, none⟩ (.int .u64 x.r.last)).setCell ⟨g, j * 6 + 2, none⟩ (.int .u64 x.r.began)).setCell ⟨g, j * 6 + 3, none⟩ (.int .u64 x.r.out)).setCell ⟨g, j * 6 + 4, none⟩ (.slice x.A x.r.reads.length x.c)).setCell ⟨g, j * 6 + 5, none⟩ (.slice x.B x.r.writes.length x.d)) lo g cap (l.set j x) := by
 obtain ⟨cur, h1, h2, h3, h4, h5, h6⟩ := h
 refine ⟨_, h1, q1n (q1n (q1n (q1n (q1n (q1n h2 _ _) _ _) _ _) _ _) _ _) _ _, by rw [List.length_set]; exact h3, h4, by simp [h5], ?_⟩
 rw [List.length_set, q8H l j x hj, ← h6]
 simp only [Array.toList_setIfInBounds, List.take_set]
theorem qek {b : Nat} {v0 v1 v2 v3 v4 v5 : Value} {j : Nat} (hb : b ≠ g) : ((((((w.setCell ⟨g, j * 6, none⟩ v0).setCell ⟨g, j * 6 + 1, none⟩ v1).setCell ⟨g, j * 6 + 2, none⟩ v2).setCell ⟨g, j * 6 + 3, none⟩ v3).setCell ⟨g, j * 6 + 4, none⟩ v4).setCell ⟨g, j * 6 + 5, none⟩ v5).heap[b]? = w.heap[b]? := by
 rw [q1p hb, q1p hb, q1p hb, q1p hb, q1p hb, q1p hb]
end
theorem q62 (ms : List MR) (A : Option Addr) (c : Nat) (w : World) (hl : ms.length ≤ 1000000) (hlc : ms.length ≤ c) (hnil : A = none → c = 0) (hr : RowG q0d w 0 w.heap.size A ms) :
  Calls Tryz.prog 70 #[.slice A ms.length c] w fun r w' => ∃ v', r = .returned v' ∧ OwnG 86 6 q0d w' w.heap.size v' ms ∧ Below w.heap.size w w' := by
 have q22 : ∀ (w : World) (a : Option Addr) (n c n' c' : Nat), (binOp .eql 52 (.slice a n c) (.slice none n' c')).run Tryz.prog w = .ok (.bool a.isNone) w := fun w a n c n' c' => Lib.run_eql_slice_nil w _ _ a n c n' c' Tryz.underlying52
 cases A with
 | none =>
  obtain rfl := hnil rfl
  have h0 : ms = [] := List.eq_nil_of_length_eq_zero (by omega)
  subst h0
  clear hr hl
  go_enter Tryz.func70, Tryz.ntmps70
  go_wp2
  go_ret
  exact ⟨_, rfl, OwnG.none_ _ _ _ _ _, Below.refl _ _⟩
 | some ad =>
  have HC := qh (hr.below ((Below.refl _ w).alloc (Nat.le_refl _) (.cells #[] 86)) (Nat.le_refl _))
  have HB0 := qh ((Below.refl w.heap.size w).alloc (Nat.le_refl _) (.cells #[] 86))
  have HL := qh hl
  clear hr hl hlc hnil
  go_enter Tryz.func70, Tryz.ntmps70
  go_wp2_with (at_builtin; refine q2Y _ rfl _ _ 52 86 80 mrF qdJ Tryz.underlying52 rfl w.heap.size _ [] rfl (OwnG.made w 86 6 q0d) 0 _ (some ad) ms.length c ms rfl rfl (fun e => by cases e) HC.out (by have := HL.out; simp [maxLen]; omega) (by have := HL.out; simp; omega) (by simp) ?_; intro v1 w1 ho1 hg1; have HO1 := qh ho1; have HB1 := qh (HB0.out.grown hg1 (by simp) (fun k hk => ((OwnG.made w 86 6 q0d).lt k hk).1)); clear ho1 hg1)
  go_ret
  have h := HO1.out
  rw [List.nil_append] at h
  exact ⟨v1, rfl, h, HB1.out⟩
theorem q6a (ms : List MR) (A : Option Addr) (c : Nat) (w : World) (hl : ms.length ≤ 1000) (hlc : ms.length ≤ c) (hnil : A = none → c = 0) (hr : RowG q0d w 0 w.heap.size A ms) (hok : ∀ x ∈ ms, okR x.r ∧ OkMR w w.heap.size x) :
  Calls Tryz.prog 201 #[.slice A ms.length c] w fun r w' => ∃ ms' v', r = .returned v' ∧ ms'.map MR.r = ms.map MR.r ∧ OwnG 86 6 q0d w' w.heap.size v' ms' ∧ (∀ x ∈ ms', FrMR w' w.heap.size w'.heap.size x ∧ ApMR w' v' x) ∧ Below w.heap.size w w' := by
 have HC := qh (q62 ms A c w (by omega) hlc hnil hr)
 have HOk := qh hok
 have HL := qh hl
 clear hok hr hlc hnil
 go_enter Tryz.func201, Tryz.ntmps201
 go_wp2_with fail
 refine HC.out.mono ?_
 rintro r w1 ⟨v1, rfl, ho1, hb1⟩
 clear HC
 rcases ho1.blkM with ⟨rfl, rfl⟩ | ⟨g, cap, rfl, hblk⟩
 ·have HB1 := qh hb1
  clear hb1 ho1
  go_wp2_with fail
  go_loopg [9] 0 (fun q i wr => i = .int .i64 0 ∧ wr = w1)
  case atStart => exact ⟨rfl, rfl⟩
  case round =>
   obtain ⟨rfl, rfl⟩ := hrel
   go_wp2_with fail
   go_ret
   exact ⟨[], _, rfl, rfl, OwnG.none_ _ _ _ _ _, by simp, HB1.out⟩
 ·have HB1 := qh hb1
  have HBk := qh hblk
  have hlt1 := hblk.lt
  have HLt := qh hlt1
  have hcap : ms.length ≤ cap ∧ cap ≤ maxLen := by
   obtain ⟨_, _, _, h3, h4, _⟩ := hblk
   exact ⟨h3, h4⟩
  clear hb1 ho1 hblk hlt1
  go_wp2_with fail
  go_loopg [3, 9] ms.length (fun q _ i wr => ∃ (j : Nat) (news : List MR), j + q = ms.length ∧ i = .int .i64 j ∧ news.length = j ∧ news.map MR.r = (ms.take j).map MR.r ∧ BlkM wr w.heap.size g cap (news ++ ms.drop j) ∧ (∀ x ∈ news, FrMR wr w1.heap.size wr.heap.size x) ∧ w1.heap.size ≤ wr.heap.size ∧ Below w.heap.size w wr)
  case atStart => exact ⟨0, [], by omega, rfl, rfl, rfl, HBk.out, by simp, Nat.le_refl _, HB1.out⟩
  case round =>
   obtain ⟨j, news, hk, rfl, hn, hm, hblk, hfr, hsz, hb⟩ := hrel
   obtain ⟨wo, hwo⟩ : ∃ y, y = wr := ⟨_, rfl⟩
   subst hwo
   have HK := qh hk
   have HN := qh hn
   have HM := qh hm
   have HBl := qh hblk
   have HFr := qh hfr
   have HSz := qh hsz
   have HB := qh hb
   clear hk hn hm hblk hfr hsz hb
   by_cases hj : j < ms.length
   ·have hlt : decide ((j : Int) < (ms.length : Int)) = true := by simpa using hj
    have hlt3 : decide (j < ms.length) = true := by simpa using hj
    have hd : ms.drop j = ms[j] :: ms.drop (j + 1) := List.drop_eq_getElem_cons hj
    have hlj : (news ++ ms.drop j).length = ms.length := by rw [List.length_append, List.length_drop, HN.out]; omega
    have hj2 : j < (news ++ ms.drop j).length := by rw [hlj]; exact hj
    have hat : (news ++ ms.drop j)[j]'hj2 = ms[j] := by
     rw [List.getElem_append_right (by rw [HN.out]; exact Nat.le_refl _)]
     simp [HN.out]
    obtain ⟨c0, c1, c2, c3, c4, c5⟩ := HBl.out.cells hj2
    rw [hat] at c0 c1 c2 c3 c4 c5
    obtain ⟨hox, hokx⟩ := HOk.out _ (List.getElem_mem hj)
    have HStep := qh (fun (x' : MR) (e : x'.r = ms[j].r) => And.intro (show (news ++ [x']).map MR.r = (ms.take (j + 1)).map MR.r by rw [List.map_append, HM.out, List.take_succ_eq_append_getElem hj, List.map_append, List.map_cons, List.map_nil, List.map_cons, List.map_nil, e]) (show (news ++ ms.drop j).set j x' = (news ++ [x']) ++ ms.drop (j + 1) by
     rw [hd, List.set_append_right _ _ (by rw [HN.out]; exact Nat.le_refl _), HN.out, Nat.sub_self, List.set_cons_zero, List.append_assoc]
     rfl))
    have HLj := qh hlj
    have HJ2 := qh hj2
    clear hat hd hj2 hlj
    have hokw : OkMR wo wo.heap.size ms[j] := hokx.below HB.out (Nat.le_refl _) HB.out.size
    clear hokx
    generalize ms[j] = x at *
    obtain ⟨⟨xf, xl, xb, xo, xr, xw⟩, xA, xc, xB, xd⟩ := x
    simp only at c0 c1 c2 c3 c4 c5 hox hokw
    obtain ⟨wt, hwt⟩ : ∃ y, wo.alloc (.cells #[.int .u64 xf, .int .u64 xl, .int .u64 xb, .int .u64 xo, .slice xA xr.length xc, .slice xB xw.length xd] 86) = y := ⟨_, rfl⟩
    have hbt : Below wo.heap.size wo wt := by rw [← hwt]; exact (Below.refl _ wo).alloc (Nat.le_refl _) _
    have hxt : wt.heap[wo.heap.size]? = some (.cells #[.int .u64 xf, .int .u64 xl, .int .u64 xb, .int .u64 xo, .slice xA xr.length xc, .slice xB xw.length xd] 86 (0, 0)) := by rw [← hwt]; exact heap_alloc_new wo _
    have hOwn := q8s ⟨⟨xf, xl, xb, xo, xr, xw⟩, xA, xc, xB, xd⟩ wt hox (hokw.below hbt (Nat.le_refl _) hbt.size)
    unfold q0u at hOwn
    simp only at hOwn
    have HOwn := qh hOwn
    have HWt := qh hwt
    have HBt := qh hbt
    have HCl := qh (q0O hxt)
    clear hOwn hwt hbt hxt hox hokw
    go_upto_region 5 with fail
    rw [HWt.out]
    clear HWt c0 c1 c2 c3 c4 c5
    obtain ⟨z0, z1, z2, z3, z4, z5⟩ := HCl.out
    go_wp2_with fail
    refine HOwn.out.mono ?_
    rintro r w2 ⟨x', hx', rfl, hf2, hb2⟩
    have HB2 := qh (HBt.out.trans (hb2.mono HBt.out.size))
    have HF2 := qh (hf2.wide (Nat.le_trans HSz.out HBt.out.size))
    have HX' := qh hx'
    have HBl2 := qh (HBl.out.below HB2.out)
    clear hf2 hb2 hx' z0 z1 z2 z3 z4 z5 HOwn HCl
    obtain ⟨c0, c1, c2, c3, c4, c5⟩ := HBl2.out.cells HJ2.out
    have f0 := HBl2.out.frozen (j * 6)
    have f1 := HBl2.out.frozen (j * 6 + 1)
    have f2 := HBl2.out.frozen (j * 6 + 2)
    have f3 := HBl2.out.frozen (j * 6 + 3)
    have f4 := HBl2.out.frozen (j * 6 + 4)
    have f5 := HBl2.out.frozen (j * 6 + 5)
    have HSt := qh (HBl2.out.store j x' HJ2.out)
    have HFar := qh (fun (b : Nat) (hb : b ≠ g) => qek (w := w2) (g := g) (b := b) (v0 := .int .u64 x'.r.first) (v1 := .int .u64 x'.r.last) (v2 := .int .u64 x'.r.began) (v3 := .int .u64 x'.r.out) (v4 := .slice x'.A x'.r.reads.length x'.c) (v5 := .slice x'.B x'.r.writes.length x'.d) (j := j) hb)
    unfold q0u
    go_wp2_with fail
    go_roundg (gk - 1)
    case measure => have := HK.out; omega
    case rel =>
     obtain ⟨e1, e2⟩ := HStep.out x' HX'.out
     have hlt2 := HLt.out
     refine ⟨j + 1, news ++ [x'], by have := HK.out; omega, by go_num, by simp [HN.out], e1, ?_, ?_, ?_, ?_⟩
     ·rw [← e2]; exact HSt.out
     ·intro y hy
      have hsz2 : (World.setCell (World.setCell (World.setCell (World.setCell (World.setCell (World.setCell w2 ⟨g, j * 6, none⟩ (.int .u64 x'.r.first)) ⟨g, j * 6 + 1, none⟩ (.int .u64 x'.r.last)) ⟨g, j * 6 + 2, none⟩ (.int .u64 x'.r.began)) ⟨g, j * 6 + 3, none⟩ (.int .u64 x'.r.out)) ⟨g, j * 6 + 4, none⟩ (.slice x'.A x'.r.reads.length x'.c)) ⟨g, j * 6 + 5, none⟩ (.slice x'.B x'.r.writes.length x'.d)).heap.size = w2.heap.size := by simp [World.setCell]
      rw [hsz2]
      refine FrMR.far (w := w2) ?_ (fun b hb => HFar.out b (by omega))
      rcases List.mem_append.1 hy with hy | hy
      ·exact (HFr.out y hy).below HB2.out (Nat.le_refl _) (Nat.le_refl _) HB2.out.size
      ·rw [List.mem_singleton] at hy
       subst hy
       exact HF2.out
     ·have := HSz.out
      have := HB2.out.size
      simp [World.setCell]
      omega
     ·exact (((((((HB.out.trans (HB2.out.mono HB.out.size)).setCell hlt2.1 _).setCell hlt2.1 _).setCell hlt2.1 _).setCell hlt2.1 _).setCell hlt2.1 _).setCell hlt2.1 _)
   ·have hj' : j = ms.length := by have := HK.out; omega
    have hlt : decide ((j : Int) < (ms.length : Int)) = false := by simpa using hj
    have hlt2 : decide (j < ms.length) = false := by simpa using hj
    have HFin := qh (show news ++ ms.drop j = news from by rw [hj', List.drop_length, List.append_nil])
    have HMt := qh (show news.map MR.r = ms.map MR.r from by have h := HM.out; rwa [hj', List.take_length] at h)
    have HLn := qh (show news.length = ms.length from HN.out.trans hj')
    clear hj'
    go_wp2_with fail
    go_ret
    refine ⟨news, _, rfl, HMt.out, ?_, fun x hx => ⟨(HFr.out x hx).wide (Nat.le_trans HB1.out.size (Nat.le_refl _)), (HFr.out x hx).apart fun q hq => by
     have := HLt.out
     simp [Value.ownBlock] at hq
     omega⟩, HB.out⟩
    have h := HBl.out.own
    rw [HFin.out, HLn.out] at h
    exact h
end Go.Proofs.YtdpbllacfljmoaaGreat
