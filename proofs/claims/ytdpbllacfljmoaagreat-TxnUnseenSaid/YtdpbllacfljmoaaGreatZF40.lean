import Derived.Test.YtdpbllacfljmoaaGreatZF27
import Derived.Test.YtdpbllacfljmoaaGreatZF33
import Derived.Test.YtdpbllacfljmoaaGreatZF39
set_option maxRecDepth 100000
set_option maxHeartbeats 16000000
set_option linter.unusedVariables false
namespace Go.Proofs.YtdpbllacfljmoaaGreat
open Go.RowKit
section
variable {α : Type} {k : Nat} {cs : α → List Value} {e : TypeId} {w w' : World} {lo g cap : Nat} {l : List α}
theorem q8F (hF : q12 k cs) {i : Nat} {v : Value} (hi : i < k) : ∀ (l : List α) (j : Nat) (x : α) (hj : j < l.length), cs x = (cs (l[j]'hj)).set i v → q0g cs (l.set j x) = (q0g cs l).set (j * k + i) v
 | y :: l, 0, x, _, hx => by
  rw [List.set_cons_zero, q0k, q0k, Nat.zero_mul, Nat.zero_add, List.set_append_left _ _ (by rw [hF.len]; exact hi)]
  exact congrArg (· ++ q0g cs l) hx
 | y :: l, j + 1, x, hj, hx => by
  rw [List.set_cons_succ, q0k, q0k, List.set_append_right _ _ (by rw [hF.len, Nat.add_mul]; omega), hF.len, q8F hF hi l j x (by simpa using hj) hx]
  rw [show (j + 1) * k + i - k = j * k + i by rw [Nat.add_mul]; omega]
theorem BlkG.store1 (hF : q12 k cs) (h : BlkG e k cs w lo g cap l) (j i : Nat) (x : α) (v : Value) (hi : i < k) (hj : j < l.length) (hx : cs x = (cs (l[j]'hj)).set i v) : BlkG e k cs (w.setCell ⟨g, j * k + i, none⟩ v) lo g cap (l.set j x) := by
 obtain ⟨cur, h1, h2, h3, h4, h5, h6⟩ := h
 refine ⟨_, h1, q1n h2 _ _, by rw [List.length_set]; exact h3, h4, by simp [h5], ?_⟩
 rw [List.length_set, q8F hF hi l j x hj hx, ← h6]
 simp only [Array.toList_setIfInBounds, List.take_set]
end
def FrS (w : World) (lo : Nat) (A : Option Addr) (c : Nat) (l : List Sp) : Prop := l.length ≤ c ∧ c ≤ maxLen ∧ (A = none → c = 0) ∧ RowG q07 w lo w.heap.size A l
section
variable {w w' : World} {lo lo' B : Nat} {A : Option Addr} {c : Nat} {l : List Sp}
theorem FrS.far (h : FrS w lo A c l) (hk : ∀ b, lo ≤ b → b < w.heap.size → w'.heap[b]? = w.heap[b]?) (hs : w.heap.size ≤ w'.heap.size) : FrS w' lo A c l :=
 ⟨h.1, h.2.1, h.2.2.1, (h.2.2.2.keep fun p h1 h2 => World.cell?_of_block (hk p.block h1 h2)).wide (Nat.le_refl _) hs⟩
theorem FrS.below (h : FrS w lo A c l) (hb : Below w.heap.size w w') : FrS w' lo A c l := h.far (fun b _ h2 => hb.block b h2) hb.size
theorem FrS.wide (h : FrS w lo A c l) (hl : lo' ≤ lo) : FrS w lo' A c l := ⟨h.1, h.2.1, h.2.2.1, h.2.2.2.wide hl (Nat.le_refl _)⟩
theorem FrS.spS (h : FrS w lo A c l) {R : Nat → Prop} (hr : ∀ g, lo ≤ g → R g) : SpS w R A c l := ⟨h.1, h.2.1, h.2.2.1, RowS.of_new h.2.2.2 hr⟩
theorem q3i (l : List Sp) (A : Option Addr) (c : Nat) (w : World) (hl : l.length ≤ 1000000) (h : ChI w w.heap.size A c l) :
  Calls Tryz.prog 71 #[.slice A l.length c] w fun r w' => ∃ A' c', r = .returned (.slice A' l.length c') ∧ FrS w' w.heap.size A' c' l ∧ Below w.heap.size w w' :=
 (q4b l A c w hl h).mono fun _ _ ⟨A', c', e, h1, h2, h3⟩ => ⟨A', c', e, ⟨h1.1, h1.2.1, h1.2.2.1, h2⟩, h3⟩
end
theorem qge : q2a Tryz.prog 104 7 88 := q2a.of (by kernel_rfl)
theorem q9L (ms : List MD) (A : Option Addr) (c : Nat) (w : World) (hl : ms.length ≤ 1000000) (hlc : ms.length ≤ c) (hnil : A = none → c = 0) (hr : RowG q0S w 0 w.heap.size A ms) :
  Calls Tryz.prog 73 #[.slice A ms.length c] w fun r w' => ∃ v', r = .returned v' ∧ OwnG 104 7 q0S w' w.heap.size v' ms ∧ Below w.heap.size w w' := by
 have q22 : ∀ (w : World) (a : Option Addr) (n c n' c' : Nat), (binOp .eql 53 (.slice a n c) (.slice none n' c')).run Tryz.prog w = .ok (.bool a.isNone) w := fun w a n c n' c' => Lib.run_eql_slice_nil w _ _ a n c n' c' Tryz.underlying53
 cases A with
 | none =>
  obtain rfl := hnil rfl
  have h0 : ms = [] := List.eq_nil_of_length_eq_zero (by omega)
  subst h0
  clear hr hl
  go_enter Tryz.func73, Tryz.ntmps73
  go_wp2
  go_ret
  exact ⟨_, rfl, OwnG.none_ _ _ _ _ _, Below.refl _ _⟩
 | some ad =>
  have HC := qh (hr.below ((Below.refl _ w).alloc (Nat.le_refl _) (.cells #[] 104)) (Nat.le_refl _))
  have HB0 := qh ((Below.refl w.heap.size w).alloc (Nat.le_refl _) (.cells #[] 104))
  have HL := qh hl
  clear hr hl hlc hnil
  go_enter Tryz.func73, Tryz.ntmps73
  go_wp2_with (at_builtin; refine q2Y _ rfl _ _ 53 104 88 mdF qge Tryz.underlying53 rfl w.heap.size _ [] rfl (OwnG.made w 104 7 q0S) 0 _ (some ad) ms.length c ms rfl rfl (fun e => by cases e) HC.out (by have := HL.out; simp [maxLen]; omega) (by have := HL.out; simp; omega) (by simp) ?_; intro v1 w1 ho1 hg1; have HO1 := qh ho1; have HB1 := qh (HB0.out.grown hg1 (by simp) (fun k hk => ((OwnG.made w 104 7 q0S).lt k hk).1)); clear ho1 hg1)
  go_ret
  have h := HO1.out
  rw [List.nil_append] at h
  exact ⟨v1, rfl, h, HB1.out⟩
theorem qc4 {b : q08} (h : q0L b) : b.recs.length ≤ 1000 ∧ ∀ r ∈ b.recs, r.reads.length ≤ 1000000 ∧ r.writes.length ≤ 1000000 := by
 have h1 := h.1
 unfold WgtT at h1
 refine ⟨by omega, fun r hr => ?_⟩
 have h2 : r.reads.length + r.writes.length ≤ (b.recs.map fun r => r.reads.length + r.writes.length).sum := q4P (fun r : RecS => r.reads.length + r.writes.length) hr
 unfold q0C at h1
 omega
theorem qbM {b : q08} (h : q0L b) : b.hist.length ≤ 1000 ∧ ∀ r ∈ b.hist, r.reads.length ≤ 1000000 ∧ r.writes.length ≤ 1000000 := by
 have h1 := h.1
 unfold WgtT at h1
 have h3 : b.hist.length ≤ (b.hist.map q6L).sum := by
  have : ∀ l : List q47, l.length ≤ (l.map q6L).sum := fun l => by
   induction l with
   | nil => exact Nat.le_refl _
   | cons x l ih => rw [List.map_cons, List.sum_cons, List.length_cons]; unfold q6L at *; omega
  exact this _
 refine ⟨by omega, fun r hr => ?_⟩
 have h2 : 1 + r.reads.length + r.writes.length ≤ (b.hist.map q6L).sum := q4P q6L hr
 omega
theorem qcz {w : World} {lo g cap : Nat} {l : List MR} (h : BlkG 86 6 q0d w lo g cap l) {j : Nat} (hj : j < l.length) : w.cell? ⟨g, j * 6, none⟩ = some (.int .u64 (l[j]'hj).r.first) ∧ w.cell? ⟨g, j * 6 + 1, none⟩ = some (.int .u64 (l[j]'hj).r.last) ∧ w.cell? ⟨g, j * 6 + 2, none⟩ = some (.int .u64 (l[j]'hj).r.began) ∧ w.cell? ⟨g, j * 6 + 3, none⟩ = some (.int .u64 (l[j]'hj).r.out) ∧ w.cell? ⟨g, j * 6 + 4, none⟩ = some (.slice (l[j]'hj).A (l[j]'hj).r.reads.length (l[j]'hj).c) ∧ w.cell? ⟨g, j * 6 + 5, none⟩ = some (.slice (l[j]'hj).B (l[j]'hj).r.writes.length (l[j]'hj).d) :=
 ⟨by simpa using h.at_ mrF hj 0 _ rfl, h.at_ mrF hj 1 _ rfl, h.at_ mrF hj 2 _ rfl, h.at_ mrF hj 3 _ rfl, h.at_ mrF hj 4 _ rfl, h.at_ mrF hj 5 _ rfl⟩
theorem qfY {w w' : World} {o : Nat} {F : Nat → Prop} {lo cap g : Nat} {l : List RecS} {ms : List MR} (hlo : w.heap.size ≤ lo) (hb : BlkG 86 6 q0d w' w.heap.size g cap ms) (e : ms.map MR.r = l) (hs : ∀ x ∈ ms, (x.r.first < 18446744073709551616 ∧ x.r.last < 18446744073709551616 ∧ x.r.began < 18446744073709551616 ∧ x.r.out < 18446744073709551616) ∧ (FrS w' lo x.A x.c x.r.reads ∧ FrS w' lo x.B x.d x.r.writes)) :
  ReS w' (ResT F o w) (some ⟨g, 0, none⟩) cap l := by
 obtain ⟨h1, h2⟩ := hb.len
 have hll : l.length = ms.length := by rw [← e, List.length_map]
 refine ⟨by rw [hll]; exact h1, h2, (fun q => by cases q), ms, e, ?_, fun x hx => ?_⟩
 ·exact RowS.of_new (lo := w.heap.size) (hi := w'.heap.size) (by
   obtain ⟨A, c, q, _, _, _, hr⟩ := (hb.own mrF).form
   injection q with q1 q2 q3
   rw [q1]
   exact hr) fun k hk => .inr (.inr hk)
 ·obtain ⟨hnu, hf1, hf2⟩ := hs x hx
  exact ⟨hnu, hf1.spS fun g hg => .inr (.inr (Nat.le_trans hlo hg)), hf2.spS fun g hg => .inr (.inr (Nat.le_trans hlo hg))⟩
theorem q7F {w : World} {o p : Nat} {F : Nat → Prop} {L : LimT} {b : q08} (h : StT o w p F L b) (hsm : q0L b) :
  Calls Tryz.prog 29 #[ptrS p] w fun r w' => ∃ A c, r = .returned (.slice A b.recs.length c) ∧ ReS w' (ResT F o w) A c b.recs ∧ Below w.heap.size w w' := by
 obtain ⟨ρ, ps, B, P, rv, hv, rfl, hraw, hok, hri, hm⟩ := h
 have cR := hraw.recs_
 have HM := qh (q18 hraw)
 obtain ⟨ms, hms, hown, hoks, _⟩ := hraw.recs
 have hwg := qc4 hsm
 have hlen : ms.length ≤ 1000 := by
  have e : ms.length = b.recs.length := by rw [← hms, List.length_map]
  omega
 have hsml : ∀ x ∈ ms, x.r.reads.length ≤ 1000000 ∧ x.r.writes.length ≤ 1000000 := fun x hx => by
  have h1 : x.r ∈ b.recs := by rw [← hms]; exact List.mem_map.2 ⟨x, hx, rfl⟩
  exact hwg.2 _ h1
 have hch : ∀ x ∈ ms, ((x.r.first < 18446744073709551616 ∧ x.r.last < 18446744073709551616 ∧ x.r.began < 18446744073709551616 ∧ x.r.out < 18446744073709551616) ∧ ChI w w.heap.size x.A x.c x.r.reads) ∧ ChI w w.heap.size x.B x.d x.r.writes := fun x hx => ⟨⟨(hoks x hx).1, (hoks x hx).2.1.ch⟩, (hoks x hx).2.2.ch⟩
 obtain ⟨A0, c0, hvv, q1, q2, q3, q4⟩ := hown.form
 have HC := qh (q62 ms A0 c0 w (by omega) q1 q3 (q4.wide (Nat.le_refl _) (Nat.le_refl _)))
 rw [hvv] at cR
 have HMs := qh hms
 have HSml := qh hsml
 have HCh := qh hch
 have hlen2 : b.recs.length = ms.length := by rw [← hms, List.length_map]
 clear hraw hok hri hm hown hoks hvv q1 q2 q3 q4 hms hsml hch hwg
 unfold ptrS at HM ⊢
 go_enter Tryz.func29, Tryz.ntmps29
 go_wp2_with fail
 refine HM.out.mono ?_
 rintro e w' ⟨rfl, rfl⟩
 go_wp2_with fail
 refine HC.out.mono ?_
 rintro r w1 ⟨v1, rfl, ho1, hb1⟩
 clear HC HM cR
 rcases ho1.blkG with ⟨rfl, rfl⟩ | ⟨g, cap, rfl, hblk⟩
 ·have HB1 := qh hb1
  clear hb1 ho1
  go_wp2_with fail
  go_loopg [16] 0 (fun q i wr => i = .int .i64 0 ∧ wr = w1)
  case atStart => exact ⟨rfl, rfl⟩
  case round =>
   obtain ⟨rfl, rfl⟩ := hrel
   go_wp2_with fail
   go_ret
   rw [hlen2]
   refine ⟨none, 0, rfl, ?_, HB1.out⟩
   rw [← HMs.out]
   exact ⟨Nat.le_refl _, Nat.zero_le _, fun _ => rfl, [], rfl, fun q => absurd q (by simp), fun x hx => by cases hx⟩
 ·have HB1 := qh hb1
  have HBk := qh hblk
  have hlt1 := hblk.lt
  have HLt := qh hlt1
  have hcap := hblk.len
  clear hb1 ho1 hblk hlt1
  go_wp2_with fail
  go_loopg [4, 16] ms.length (fun q _ i wr => ∃ (j : Nat) (news : List MR), j + q = ms.length ∧ i = .int .i64 j ∧ news.length = j ∧ news.map MR.r = (ms.take j).map MR.r ∧ BlkG 86 6 q0d wr w'.heap.size g cap (news ++ ms.drop j) ∧ (∀ x ∈ news, (x.r.first < 18446744073709551616 ∧ x.r.last < 18446744073709551616 ∧ x.r.began < 18446744073709551616 ∧ x.r.out < 18446744073709551616) ∧ (FrS wr w1.heap.size x.A x.c x.r.reads ∧ FrS wr w1.heap.size x.B x.d x.r.writes)) ∧ w1.heap.size ≤ wr.heap.size ∧ Below w'.heap.size w' wr)
  case atStart => exact ⟨0, [], by omega, rfl, rfl, rfl, HBk.out, by simp, Nat.le_refl _, HB1.out⟩
  case round =>
   obtain ⟨j, news, hk, rfl, hn, hm, hblk, hfr, hsz, hb⟩ := hrel
   obtain ⟨wo, hwo⟩ : ∃ y, y = wr := ⟨_, rfl⟩
   subst hwo
   have HK := qh hk
   have HN := qh hn
   have HM := qh hm
   have HBl := qh hblk
   have HFr := qh hfr
   have HSz := qh hsz
   have HB := qh hb
   clear hk hn hm hblk hfr hsz hb
   by_cases hj : j < ms.length
   ·have hlt : decide ((j : Int) < (ms.length : Int)) = true := by simpa using hj
    have hlt3 : decide (j < ms.length) = true := by simpa using hj
    have hd : ms.drop j = ms[j] :: ms.drop (j + 1) := List.drop_eq_getElem_cons hj
    have hlj : (news ++ ms.drop j).length = ms.length := by rw [List.length_append, List.length_drop, HN.out]; omega
    have hj2 : j < (news ++ ms.drop j).length := by rw [hlj]; exact hj
    have hat : (news ++ ms.drop j)[j]'hj2 = ms[j] := by
     rw [List.getElem_append_right (by rw [HN.out]; exact Nat.le_refl _)]
     simp [HN.out]
    obtain ⟨c0, c1, c2, c3, c4, c5⟩ := qcz HBl.out hj2
    rw [hat] at c0 c1 c2 c3 c4 c5
    have hokx := HCh.out _ (List.getElem_mem hj)
    have hsmx := HSml.out _ (List.getElem_mem hj)
    have HStep := qh (fun (x' : MR) (e : x'.r = ms[j].r) => And.intro (show (news ++ [x']).map MR.r = (ms.take (j + 1)).map MR.r by rw [List.map_append, HM.out, List.take_succ_eq_append_getElem hj, List.map_append, List.map_cons, List.map_nil, List.map_cons, List.map_nil, e]) (show (news ++ ms.drop j).set j x' = (news ++ [x']) ++ ms.drop (j + 1) by
     rw [hd, List.set_append_right _ _ (by rw [HN.out]; exact Nat.le_refl _), HN.out, Nat.sub_self, List.set_cons_zero, List.append_assoc]
     rfl))
    have HLj := qh hlj
    have HJ2 := qh hj2
    have HAt := qh hat
    clear hat hd hlj
    have hok1 : ChI wo wo.heap.size ms[j].A ms[j].c ms[j].r.reads := hokx.1.2.below HB.out (Nat.le_refl _) HB.out.size
    have hok2 : ChI wo wo.heap.size ms[j].B ms[j].d ms[j].r.writes := hokx.2.below HB.out (Nat.le_refl _) HB.out.size
    have hnum := hokx.1.1
    clear hokx
    generalize ms[j] = x at *
    obtain ⟨⟨xf, xl, xb, xo, xr, xw⟩, xA, xc, xB, xd⟩ := x
    simp only at c0 c1 c2 c3 c4 c5 hok1 hok2 hsmx
    obtain ⟨wt, hwt⟩ : ∃ y, wo.alloc (.cells #[.int .u64 xf, .int .u64 xl, .int .u64 xb, .int .u64 xo, .slice xA xr.length xc, .slice xB xw.length xd] 86) = y := ⟨_, rfl⟩
    have hbt : Below wo.heap.size wo wt := by rw [← hwt]; exact (Below.refl _ wo).alloc (Nat.le_refl _) _
    have hxt : wt.heap[wo.heap.size]? = some (.cells #[.int .u64 xf, .int .u64 xl, .int .u64 xb, .int .u64 xo, .slice xA xr.length xc, .slice xB xw.length xd] 86 (0, 0)) := by rw [← hwt]; exact heap_alloc_new wo _
    have C1 : Hid (∀ W : World, Below wt.heap.size wt W → Calls Tryz.prog 71 #[.slice xA xr.length xc] W fun r w' => ∃ A' c', r = .returned (.slice A' xr.length c') ∧ FrS w' wt.heap.size A' c' xr ∧ Below wt.heap.size wt w') :=
     qh fun W hb => (q3i xr xA xc W hsmx.1 (hok1.below (hbt.trans (hb.mono hbt.size)) (Nat.le_refl _) (hbt.trans (hb.mono hbt.size)).size)).mono fun _ _ ⟨A', c', e, h1, q⟩ => ⟨A', c', e, h1.wide hb.size, hb.trans (q.mono hb.size)⟩
    have C2 : Hid (∀ (A' : Option Addr) (c' : Nat) (W : World), FrS W wt.heap.size A' c' xr → Below wt.heap.size wt W → Calls Tryz.prog 71 #[.slice xB xw.length xd] W fun r w' => ∃ B' d', r = .returned (.slice B' xw.length d') ∧ (FrS w' wt.heap.size A' c' xr ∧ FrS w' wt.heap.size B' d' xw) ∧ Below wt.heap.size wt w') :=
     qh fun A' c' W hf hb => (q3i xw xB xd W hsmx.2 (hok2.below (hbt.trans (hb.mono hbt.size)) (Nat.le_refl _) (hbt.trans (hb.mono hbt.size)).size)).mono fun _ _ ⟨B', d', e, h1, q⟩ => ⟨B', d', e, ⟨hf.below q, h1.wide hb.size⟩, hb.trans (q.mono hb.size)⟩
    have HWt := qh hwt
    have HBt := qh hbt
    have HCl := qh (fun (W : World) (hb : Below wt.heap.size wt W) => And.intro (show W.cell? ⟨wo.heap.size, 4, none⟩ = some (.slice xA xr.length xc) by rw [cell_of_row W _ 4 _ _ _ (q01 hxt hb (q00 hxt))]; rfl) (show W.cell? ⟨wo.heap.size, 5, none⟩ = some (.slice xB xw.length xd) by rw [cell_of_row W _ 5 _ _ _ (q01 hxt hb (q00 hxt))]; rfl))
    have HRow := qh (fun (W : World) (hb : Below wt.heap.size wt W) => And.intro ((HBl.out.below hbt).below (hb.mono (Nat.le_refl _))) (And.intro (BlkG.frozen ((HBl.out.below hbt).below hb) (j * 6 + 4)) (And.intro (BlkG.frozen ((HBl.out.below hbt).below hb) (j * 6 + 5)) (And.intro (BlkG.at_ mrF ((HBl.out.below hbt).below hb) HJ2.out 4 (.slice xA xr.length xc) (by rw [HAt.out]; rfl)) (BlkG.at_ mrF ((HBl.out.below hbt).below hb) HJ2.out 5 (.slice xB xw.length xd) (by rw [HAt.out]; rfl))))))
    clear hwt hbt hxt hok1 hok2
    go_upto_region 7 with fail
    rw [HWt.out]
    clear HWt c0 c1 c2 c3 c4 c5
    obtain ⟨z4, z5⟩ := HCl.out _ (Below.refl _ _)
    go_region_with ((first
     | (go_at_call 71; with_reducible refine (C2.out _ _ _ h2 hb2).mono ?_; rintro r w3 ⟨B', d', rfl, h3, hb3⟩; obtain ⟨hr3, f4, f5, k4, k5⟩ := HRow.out _ hb3; obtain ⟨u4, u5⟩ := HCl.out _ hb3; clear h2 hb2)
     | (go_at_call 71; with_reducible refine (C1.out _ (Below.refl _ _).drew).mono ?_; rintro r w2 ⟨A', c', rfl, h2, hb2⟩; obtain ⟨y4, y5⟩ := HCl.out _ hb2; clear z4 z5)))
    all_goals
     have HSt := qh (show BlkG 86 6 q0d ((w3.setCell ⟨g, j * 6 + 4, none⟩ (.slice A' xr.length c')).setCell ⟨g, j * 6 + 5, none⟩ (.slice B' xw.length d')) w'.heap.size g cap (((news ++ ms.drop j).set j ⟨⟨xf, xl, xb, xo, xr, xw⟩, A', c', xB, xd⟩).set j ⟨⟨xf, xl, xb, xo, xr, xw⟩, A', c', B', d'⟩) from
      (hr3.store1 mrF j 4 ⟨⟨xf, xl, xb, xo, xr, xw⟩, A', c', xB, xd⟩ _ (by omega) HJ2.out (by rw [HAt.out]; rfl)).store1 mrF j 5 ⟨⟨xf, xl, xb, xo, xr, xw⟩, A', c', B', d'⟩ _ (by omega) (by rw [List.length_set]; exact HJ2.out) (by rw [List.getElem_set_self]; rfl))
     have HFar := qh (fun (b : Nat) (hb : b ≠ g) => show ((w3.setCell ⟨g, j * 6 + 4, none⟩ (.slice A' xr.length c')).setCell ⟨g, j * 6 + 5, none⟩ (.slice B' xw.length d')).heap[b]? = w3.heap[b]? from (q0b hb _ _).trans (q0b hb _ _))
     have HB3 := qh (HBt.out.trans (hb3.mono HBt.out.size))
     clear hr3
     go_wp2_with fail
     go_roundg (gk - 1)
     case measure => have := HK.out; omega
     case rel =>
      obtain ⟨e1, e2⟩ := HStep.out ⟨⟨xf, xl, xb, xo, xr, xw⟩, A', c', B', d'⟩ rfl
      have hlt2 := HLt.out
      have hs3 := HB3.out.size
      have hws := HSz.out
      refine ⟨j + 1, news ++ [⟨⟨xf, xl, xb, xo, xr, xw⟩, A', c', B', d'⟩], by have := HK.out; omega, by go_num, by simp [HN.out], e1, ?_, ?_, ?_, ?_⟩
      ·rw [← e2, ← List.set_set (a := (⟨⟨xf, xl, xb, xo, xr, xw⟩, A', c', xB, xd⟩ : MR))]; exact HSt.out
      ·have hfar : ∀ (A : Option Addr) (c : Nat) (l : List Sp), FrS wo w1.heap.size A c l → FrS ((w3.setCell ⟨g, j * 6 + 4, none⟩ (.slice A' xr.length c')).setCell ⟨g, j * 6 + 5, none⟩ (.slice B' xw.length d')) w1.heap.size A c l := fun A c l hf => hf.far (fun b b1 b2 => (HFar.out b (by omega)).trans (HB3.out.block b b2)) (by simpa [World.setCell] using hs3)
       have hnew : ∀ (A : Option Addr) (c : Nat) (l : List Sp), FrS w3 wt.heap.size A c l → FrS ((w3.setCell ⟨g, j * 6 + 4, none⟩ (.slice A' xr.length c')).setCell ⟨g, j * 6 + 5, none⟩ (.slice B' xw.length d')) w1.heap.size A c l := fun A c l hf => (hf.far (w' := (w3.setCell ⟨g, j * 6 + 4, none⟩ (.slice A' xr.length c')).setCell ⟨g, j * 6 + 5, none⟩ (.slice B' xw.length d')) (fun b b1 _ => HFar.out b (by have := HBt.out.size; omega)) (by simp [World.setCell])).wide (by have := HBt.out.size; omega)
       intro x hx
       rcases List.mem_append.1 hx with hx | hx
       ·obtain ⟨hnu, hf1, hf2⟩ := HFr.out x hx
        exact ⟨hnu, hfar _ _ _ hf1, hfar _ _ _ hf2⟩
       ·rw [List.mem_singleton] at hx
        subst hx
        exact ⟨hnum, hnew _ _ _ h3.1, hnew _ _ _ h3.2⟩
      ·have : w1.heap.size ≤ w3.heap.size := by omega
       simpa [World.setCell] using this
      ·exact ((HB.out.trans (HB3.out.mono HB.out.size)).setCell (p := ⟨g, j * 6 + 4, none⟩) hlt2.1 _).setCell (p := ⟨g, j * 6 + 5, none⟩) hlt2.1 _
   ·have hje : j = ms.length := by have := HK.out; omega
    have hlt : decide ((j : Int) < (ms.length : Int)) = false := by simpa using hj
    have hlt3 : decide (j < ms.length) = false := by simpa using hj
    have hbl := HBl.out
    have hmm := HM.out
    have hnl := HN.out
    rw [hje, List.drop_length, List.append_nil] at hbl
    rw [hje, List.take_length] at hmm
    have HBl2 := qh hbl
    have HMm := qh hmm
    clear hbl hmm
    go_wp2_with fail
    go_ret
    rw [hlen2]
    exact ⟨_, _, rfl, qfY (Nat.le_trans HB1.out.size (Nat.le_refl _)) HBl2.out (HMm.out.trans HMs.out) HFr.out, HB.out⟩
theorem qcx {w : World} {lo g cap : Nat} {l : List MD} (h : BlkG 104 7 q0S w lo g cap l) {j : Nat} (hj : j < l.length) : w.cell? ⟨g, j * 7, none⟩ = some (.int .i64 (l[j]'hj).d.id) ∧ w.cell? ⟨g, j * 7 + 1, none⟩ = some (.int .u64 (l[j]'hj).d.began) ∧ w.cell? ⟨g, j * 7 + 2, none⟩ = some (.int .u64 (l[j]'hj).d.at_) ∧ w.cell? ⟨g, j * 7 + 3, none⟩ = some (.int .i64 (l[j]'hj).d.start) ∧ w.cell? ⟨g, j * 7 + 4, none⟩ = some (.int .i64 (l[j]'hj).d.end_) ∧ w.cell? ⟨g, j * 7 + 5, none⟩ = some (.slice (l[j]'hj).A (l[j]'hj).d.reads.length (l[j]'hj).c) ∧ w.cell? ⟨g, j * 7 + 6, none⟩ = some (.slice (l[j]'hj).B (l[j]'hj).d.writes.length (l[j]'hj).e) :=
 ⟨by simpa using h.at_ mdF hj 0 _ rfl, h.at_ mdF hj 1 _ rfl, h.at_ mdF hj 2 _ rfl, h.at_ mdF hj 3 _ rfl, h.at_ mdF hj 4 _ rfl, h.at_ mdF hj 5 _ rfl, h.at_ mdF hj 6 _ rfl⟩
theorem qfX {w w' : World} {o : Nat} {F : Nat → Prop} {lo cap g : Nat} {l : List q47} {ms : List MD} (hlo : w.heap.size ≤ lo) (hb : BlkG 104 7 q0S w' w.heap.size g cap ms) (e : ms.map MD.d = l) (hs : ∀ x ∈ ms, (FrS w' lo x.A x.c x.d.reads ∧ FrS w' lo x.B x.e x.d.writes)) :
  DoS w' (ResT F o w) (some ⟨g, 0, none⟩) cap l := by
 obtain ⟨h1, h2⟩ := hb.len
 have hll : l.length = ms.length := by rw [← e, List.length_map]
 refine ⟨by rw [hll]; exact h1, h2, (fun q => by cases q), ms, e, ?_, fun x hx => ?_⟩
 ·exact RowS.of_new (lo := w.heap.size) (hi := w'.heap.size) (by
   obtain ⟨A, c, q, _, _, _, hr⟩ := (hb.own mdF).form
   injection q with q1 q2 q3
   rw [q1]
   exact hr) fun k hk => .inr (.inr hk)
 ·obtain ⟨hf1, hf2⟩ := hs x hx
  exact ⟨hf1.spS fun g hg => .inr (.inr (Nat.le_trans hlo hg)), hf2.spS fun g hg => .inr (.inr (Nat.le_trans hlo hg))⟩
theorem q7E {w : World} {o p : Nat} {F : Nat → Prop} {L : LimT} {b : q08} (h : StT o w p F L b) (hsm : q0L b) :
  Calls Tryz.prog 31 #[ptrS p] w fun r w' => ∃ A c, r = .returned (.slice A b.hist.length c) ∧ DoS w' (ResT F o w) A c b.hist ∧ Below w.heap.size w w' := by
 obtain ⟨ρ, ps, B, P, rv, hv, rfl, hraw, hok, hri, hm⟩ := h
 have cR := hraw.hist_
 have HM := qh (q18 hraw)
 obtain ⟨ms, hms, hown, hoks, _⟩ := hraw.hist
 have hwg := qbM hsm
 have hlen : ms.length ≤ 1000 := by
  have e : ms.length = b.hist.length := by rw [← hms, List.length_map]
  omega
 have hsml : ∀ x ∈ ms, x.d.reads.length ≤ 1000000 ∧ x.d.writes.length ≤ 1000000 := fun x hx => by
  have h1 : x.d ∈ b.hist := by rw [← hms]; exact List.mem_map.2 ⟨x, hx, rfl⟩
  exact hwg.2 _ h1
 have hch : ∀ x ∈ ms, ( ChI w w.heap.size x.A x.c x.d.reads) ∧ ChI w w.heap.size x.B x.e x.d.writes := fun x hx => ⟨(hoks x hx).1.ch, (hoks x hx).2.ch⟩
 obtain ⟨A0, c0, hvv, q1, q2, q3, q4⟩ := hown.form
 have HC := qh (q9L ms A0 c0 w (by omega) q1 q3 (q4.wide (Nat.le_refl _) (Nat.le_refl _)))
 rw [hvv] at cR
 have HMs := qh hms
 have HSml := qh hsml
 have HCh := qh hch
 have hlen2 : b.hist.length = ms.length := by rw [← hms, List.length_map]
 clear hraw hok hri hm hown hoks hvv q1 q2 q3 q4 hms hsml hch hwg
 unfold ptrS at HM ⊢
 go_enter Tryz.func31, Tryz.ntmps31
 go_wp2_with fail
 refine HM.out.mono ?_
 rintro e w' ⟨rfl, rfl⟩
 go_wp2_with fail
 refine HC.out.mono ?_
 rintro r w1 ⟨v1, rfl, ho1, hb1⟩
 clear HC HM cR
 rcases ho1.blkG with ⟨rfl, rfl⟩ | ⟨g, cap, rfl, hblk⟩
 ·have HB1 := qh hb1
  clear hb1 ho1
  go_wp2_with fail
  go_loopg [16] 0 (fun q i wr => i = .int .i64 0 ∧ wr = w1)
  case atStart => exact ⟨rfl, rfl⟩
  case round =>
   obtain ⟨rfl, rfl⟩ := hrel
   go_wp2_with fail
   go_ret
   rw [hlen2]
   refine ⟨none, 0, rfl, ?_, HB1.out⟩
   rw [← HMs.out]
   exact ⟨Nat.le_refl _, Nat.zero_le _, fun _ => rfl, [], rfl, fun q => absurd q (by simp), fun x hx => by cases hx⟩
 ·have HB1 := qh hb1
  have HBk := qh hblk
  have hlt1 := hblk.lt
  have HLt := qh hlt1
  have hcap := hblk.len
  clear hb1 ho1 hblk hlt1
  go_wp2_with fail
  go_loopg [4, 16] ms.length (fun q _ i wr => ∃ (j : Nat) (news : List MD), j + q = ms.length ∧ i = .int .i64 j ∧ news.length = j ∧ news.map MD.d = (ms.take j).map MD.d ∧ BlkG 104 7 q0S wr w'.heap.size g cap (news ++ ms.drop j) ∧ (∀ x ∈ news, (FrS wr w1.heap.size x.A x.c x.d.reads ∧ FrS wr w1.heap.size x.B x.e x.d.writes)) ∧ w1.heap.size ≤ wr.heap.size ∧ Below w'.heap.size w' wr)
  case atStart => exact ⟨0, [], by omega, rfl, rfl, rfl, HBk.out, by simp, Nat.le_refl _, HB1.out⟩
  case round =>
   obtain ⟨j, news, hk, rfl, hn, hm, hblk, hfr, hsz, hb⟩ := hrel
   obtain ⟨wo, hwo⟩ : ∃ y, y = wr := ⟨_, rfl⟩
   subst hwo
   have HK := qh hk
   have HN := qh hn
   have HM := qh hm
   have HBl := qh hblk
   have HFr := qh hfr
   have HSz := qh hsz
   have HB := qh hb
   clear hk hn hm hblk hfr hsz hb
   by_cases hj : j < ms.length
   ·have hlt : decide ((j : Int) < (ms.length : Int)) = true := by simpa using hj
    have hlt3 : decide (j < ms.length) = true := by simpa using hj
    have hd : ms.drop j = ms[j] :: ms.drop (j + 1) := List.drop_eq_getElem_cons hj
    have hlj : (news ++ ms.drop j).length = ms.length := by rw [List.length_append, List.length_drop, HN.out]; omega
    have hj2 : j < (news ++ ms.drop j).length := by rw [hlj]; exact hj
    have hat : (news ++ ms.drop j)[j]'hj2 = ms[j] := by
     rw [List.getElem_append_right (by rw [HN.out]; exact Nat.le_refl _)]
     simp [HN.out]
    obtain ⟨c0, c1, c2, c3, c4, c5, c6⟩ := qcx HBl.out hj2
    rw [hat] at c0 c1 c2 c3 c4 c5 c6
    have hokx := HCh.out _ (List.getElem_mem hj)
    have hsmx := HSml.out _ (List.getElem_mem hj)
    have HStep := qh (fun (x' : MD) (e : x'.d = ms[j].d) => And.intro (show (news ++ [x']).map MD.d = (ms.take (j + 1)).map MD.d by rw [List.map_append, HM.out, List.take_succ_eq_append_getElem hj, List.map_append, List.map_cons, List.map_nil, List.map_cons, List.map_nil, e]) (show (news ++ ms.drop j).set j x' = (news ++ [x']) ++ ms.drop (j + 1) by
     rw [hd, List.set_append_right _ _ (by rw [HN.out]; exact Nat.le_refl _), HN.out, Nat.sub_self, List.set_cons_zero, List.append_assoc]
     rfl))
    have HLj := qh hlj
    have HJ2 := qh hj2
    have HAt := qh hat
    clear hat hd hlj
    have hok1 : ChI wo wo.heap.size ms[j].A ms[j].c ms[j].d.reads := hokx.1.below HB.out (Nat.le_refl _) HB.out.size
    have hok2 : ChI wo wo.heap.size ms[j].B ms[j].e ms[j].d.writes := hokx.2.below HB.out (Nat.le_refl _) HB.out.size
    skip
    clear hokx
    generalize ms[j] = x at *
    obtain ⟨⟨xi, xb, xt, xs, xe, xr, xw⟩, xA, xc, xB, xd⟩ := x
    simp only at c0 c1 c2 c3 c4 c5 c6 hok1 hok2 hsmx
    obtain ⟨wt, hwt⟩ : ∃ y, wo.alloc (.cells #[.int .i64 (xi : Nat), .int .u64 (xb : Nat), .int .u64 (xt : Nat), .int .i64 (xs : Nat), .int .i64 (xe : Nat), .slice xA xr.length xc, .slice xB xw.length xd] 104) = y := ⟨_, rfl⟩
    have hbt : Below wo.heap.size wo wt := by rw [← hwt]; exact (Below.refl _ wo).alloc (Nat.le_refl _) _
    have hxt : wt.heap[wo.heap.size]? = some (.cells #[.int .i64 (xi : Nat), .int .u64 (xb : Nat), .int .u64 (xt : Nat), .int .i64 (xs : Nat), .int .i64 (xe : Nat), .slice xA xr.length xc, .slice xB xw.length xd] 104 (0, 0)) := by rw [← hwt]; exact heap_alloc_new wo _
    have C1 : Hid (∀ W : World, Below wt.heap.size wt W → Calls Tryz.prog 71 #[.slice xA xr.length xc] W fun r w' => ∃ A' c', r = .returned (.slice A' xr.length c') ∧ FrS w' wt.heap.size A' c' xr ∧ Below wt.heap.size wt w') :=
     qh fun W hb => (q3i xr xA xc W hsmx.1 (hok1.below (hbt.trans (hb.mono hbt.size)) (Nat.le_refl _) (hbt.trans (hb.mono hbt.size)).size)).mono fun _ _ ⟨A', c', e, h1, q⟩ => ⟨A', c', e, h1.wide hb.size, hb.trans (q.mono hb.size)⟩
    have C2 : Hid (∀ (A' : Option Addr) (c' : Nat) (W : World), FrS W wt.heap.size A' c' xr → Below wt.heap.size wt W → Calls Tryz.prog 71 #[.slice xB xw.length xd] W fun r w' => ∃ B' d', r = .returned (.slice B' xw.length d') ∧ (FrS w' wt.heap.size A' c' xr ∧ FrS w' wt.heap.size B' d' xw) ∧ Below wt.heap.size wt w') :=
     qh fun A' c' W hf hb => (q3i xw xB xd W hsmx.2 (hok2.below (hbt.trans (hb.mono hbt.size)) (Nat.le_refl _) (hbt.trans (hb.mono hbt.size)).size)).mono fun _ _ ⟨B', d', e, h1, q⟩ => ⟨B', d', e, ⟨hf.below q, h1.wide hb.size⟩, hb.trans (q.mono hb.size)⟩
    have HWt := qh hwt
    have HBt := qh hbt
    have HCl := qh (fun (W : World) (hb : Below wt.heap.size wt W) => And.intro (show W.cell? ⟨wo.heap.size, 5, none⟩ = some (.slice xA xr.length xc) by rw [cell_of_row W _ 5 _ _ _ (q01 hxt hb (q00 hxt))]; rfl) (show W.cell? ⟨wo.heap.size, 6, none⟩ = some (.slice xB xw.length xd) by rw [cell_of_row W _ 6 _ _ _ (q01 hxt hb (q00 hxt))]; rfl))
    have HRow := qh (fun (W : World) (hb : Below wt.heap.size wt W) => And.intro ((HBl.out.below hbt).below (hb.mono (Nat.le_refl _))) (And.intro (BlkG.frozen ((HBl.out.below hbt).below hb) (j * 7 + 5)) (And.intro (BlkG.frozen ((HBl.out.below hbt).below hb) (j * 7 + 6)) (And.intro (BlkG.at_ mdF ((HBl.out.below hbt).below hb) HJ2.out 5 (.slice xA xr.length xc) (by rw [HAt.out]; rfl)) (BlkG.at_ mdF ((HBl.out.below hbt).below hb) HJ2.out 6 (.slice xB xw.length xd) (by rw [HAt.out]; rfl))))))
    clear hwt hbt hxt hok1 hok2
    go_upto_region 7 with fail
    rw [HWt.out]
    clear HWt c0 c1 c2 c3 c4 c5 c6
    obtain ⟨z4, z5⟩ := HCl.out _ (Below.refl _ _)
    go_region_with ((first
     | (go_at_call 71; with_reducible refine (C2.out _ _ _ h2 hb2).mono ?_; rintro r w3 ⟨B', d', rfl, h3, hb3⟩; obtain ⟨hr3, f4, f5, k4, k5⟩ := HRow.out _ hb3; obtain ⟨u4, u5⟩ := HCl.out _ hb3; clear h2 hb2)
     | (go_at_call 71; with_reducible refine (C1.out _ (Below.refl _ _).drew).mono ?_; rintro r w2 ⟨A', c', rfl, h2, hb2⟩; obtain ⟨y4, y5⟩ := HCl.out _ hb2; clear z4 z5)))
    all_goals
     have HSt := qh (show BlkG 104 7 q0S ((w3.setCell ⟨g, j * 7 + 5, none⟩ (.slice A' xr.length c')).setCell ⟨g, j * 7 + 6, none⟩ (.slice B' xw.length d')) w'.heap.size g cap (((news ++ ms.drop j).set j ⟨⟨xi, xb, xt, xs, xe, xr, xw⟩, A', c', xB, xd⟩).set j ⟨⟨xi, xb, xt, xs, xe, xr, xw⟩, A', c', B', d'⟩) from
      (hr3.store1 mdF j 5 ⟨⟨xi, xb, xt, xs, xe, xr, xw⟩, A', c', xB, xd⟩ _ (by omega) HJ2.out (by rw [HAt.out]; rfl)).store1 mdF j 6 ⟨⟨xi, xb, xt, xs, xe, xr, xw⟩, A', c', B', d'⟩ _ (by omega) (by rw [List.length_set]; exact HJ2.out) (by rw [List.getElem_set_self]; rfl))
     have HFar := qh (fun (b : Nat) (hb : b ≠ g) => show ((w3.setCell ⟨g, j * 7 + 5, none⟩ (.slice A' xr.length c')).setCell ⟨g, j * 7 + 6, none⟩ (.slice B' xw.length d')).heap[b]? = w3.heap[b]? from (q0b hb _ _).trans (q0b hb _ _))
     have HB3 := qh (HBt.out.trans (hb3.mono HBt.out.size))
     clear hr3
     go_wp2_with fail
     go_roundg (gk - 1)
     case measure => have := HK.out; omega
     case rel =>
      obtain ⟨e1, e2⟩ := HStep.out ⟨⟨xi, xb, xt, xs, xe, xr, xw⟩, A', c', B', d'⟩ rfl
      have hlt2 := HLt.out
      have hs3 := HB3.out.size
      have hws := HSz.out
      refine ⟨j + 1, news ++ [⟨⟨xi, xb, xt, xs, xe, xr, xw⟩, A', c', B', d'⟩], by have := HK.out; omega, by go_num, by simp [HN.out], e1, ?_, ?_, ?_, ?_⟩
      ·rw [← e2, ← List.set_set (a := (⟨⟨xi, xb, xt, xs, xe, xr, xw⟩, A', c', xB, xd⟩ : MD))]; exact HSt.out
      ·have hfar : ∀ (A : Option Addr) (c : Nat) (l : List Sp), FrS wo w1.heap.size A c l → FrS ((w3.setCell ⟨g, j * 7 + 5, none⟩ (.slice A' xr.length c')).setCell ⟨g, j * 7 + 6, none⟩ (.slice B' xw.length d')) w1.heap.size A c l := fun A c l hf => hf.far (fun b b1 b2 => (HFar.out b (by omega)).trans (HB3.out.block b b2)) (by simpa [World.setCell] using hs3)
       have hnew : ∀ (A : Option Addr) (c : Nat) (l : List Sp), FrS w3 wt.heap.size A c l → FrS ((w3.setCell ⟨g, j * 7 + 5, none⟩ (.slice A' xr.length c')).setCell ⟨g, j * 7 + 6, none⟩ (.slice B' xw.length d')) w1.heap.size A c l := fun A c l hf => (hf.far (w' := (w3.setCell ⟨g, j * 7 + 5, none⟩ (.slice A' xr.length c')).setCell ⟨g, j * 7 + 6, none⟩ (.slice B' xw.length d')) (fun b b1 _ => HFar.out b (by have := HBt.out.size; omega)) (by simp [World.setCell])).wide (by have := HBt.out.size; omega)
       intro x hx
       rcases List.mem_append.1 hx with hx | hx
       ·obtain ⟨hf1, hf2⟩ := HFr.out x hx
        exact ⟨hfar _ _ _ hf1, hfar _ _ _ hf2⟩
       ·rw [List.mem_singleton] at hx
        subst hx
        exact ⟨hnew _ _ _ h3.1, hnew _ _ _ h3.2⟩
      ·have : w1.heap.size ≤ w3.heap.size := by omega
       simpa [World.setCell] using this
      ·exact ((HB.out.trans (HB3.out.mono HB.out.size)).setCell (p := ⟨g, j * 7 + 5, none⟩) hlt2.1 _).setCell (p := ⟨g, j * 7 + 6, none⟩) hlt2.1 _
   ·have hje : j = ms.length := by have := HK.out; omega
    have hlt : decide ((j : Int) < (ms.length : Int)) = false := by simpa using hj
    have hlt3 : decide (j < ms.length) = false := by simpa using hj
    have hbl := HBl.out
    have hmm := HM.out
    have hnl := HN.out
    rw [hje, List.drop_length, List.append_nil] at hbl
    rw [hje, List.take_length] at hmm
    have HBl2 := qh hbl
    have HMm := qh hmm
    clear hbl hmm
    go_wp2_with fail
    go_ret
    rw [hlen2]
    exact ⟨_, _, rfl, qfX (Nat.le_trans HB1.out.size (Nat.le_refl _)) HBl2.out (HMm.out.trans HMs.out) HFr.out, HB.out⟩
end Go.Proofs.YtdpbllacfljmoaaGreat
