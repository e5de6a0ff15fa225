import Derived.Test.YtdpbllacfljmoaaGreatZF44
set_option maxRecDepth 100000
set_option maxHeartbeats 16000000
set_option linter.unusedVariables false
namespace Go.Proofs.YtdpbllacfljmoaaGreat
open Go.RowKit
def q2m (L : LimT) (st : PS) (t : TxS) : TxS := ⟨t.id, t.began, t.start, q1y (FT L) st t, t.ws⟩
section
variable {w w' w0 w1 w2 : World} {o p : Nat} {ρ ρ' ρ0 ρ1 ρ2 : q0o} {L : LimT} {b b' : q08} {ps B : Nat} {P P' : Nat → TxP} {rv hv : Value} {F F' : Nat → Prop} {t t' : TxS} {X : Nat → Prop}
theorem qdy (u : TxS) (h : ∀ x ∈ b.live, x.id = u.id → x.began = u.began) : lowT (setT b u) = lowT b := by
 unfold lowT setT
 simp only
 rw [List.foldl_map]
 have key : ∀ (l : List TxS) (n : Nat), (∀ x ∈ l, x.id = u.id → x.began = u.began) → l.foldl (fun l x => min l (if x.id = u.id then u else x).began) n = l.foldl (fun l t => min l t.began) n := by
  intro l
  induction l with
  | nil => intro n _; rfl
  | cons x l ih =>
   intro n hl
   rw [List.foldl_cons, List.foldl_cons, ih _ fun y hy => hl y (List.mem_cons_of_mem _ hy)]
   congr 1
   by_cases e : x.id = u.id
   ·rw [if_pos e, hl x (List.mem_cons_self ..) e]
   ·rw [if_neg e]
 exact key _ _ h
theorem qeT (p : MW → Bool) (g : Nat) (lb : Array Value) (eg : ∀ args w, (callFunc g args).run Tryz.prog w = .ok (.enter g args) w) (w : World) :
  Calls Tryz.prog 189 #[.slice none 0 0, .func (.func g) #[] lb] w fun e w' => e = .returned (.slice none 0 0) ∧ Below w.heap.size w w' := by
 have HI := qh (q4c p g lb eg [] none 0 (fun _ W => Below w.heap.size w W) w (by simp) (fun _ _ _ => RowG.nil_) (fun _ _ hj _ => absurd hj (by simp)) (Below.refl _ _))
 simp only [List.length_nil] at HI
 go_enter Tryz.func189, Tryz.ntmps189
 go_wp2_with fail
 refine HI.out.mono ?_
 rintro e w1 ⟨z, rfl, hz, hb⟩
 have HB := qh hb
 rcases hz with ⟨j, hj, _⟩ | ⟨rfl, _⟩
 ·exact absurd hj (by simp)
 ·clear hb HI
  go_wp2
  go_ret
  exact ⟨rfl, HB.out⟩
theorem q6R (b : q08) (w : World) : Calls Tryz.prog 133 #[ptrS p, ptrS B, .slice none 0 0] w fun r w' => r = .returned (.slice none 0 0) ∧ Below w.heap.size w w' := by
 obtain ⟨w1, hw1⟩ : ∃ y, w.alloc (.cells #[ptrS p] 28) = y := ⟨_, rfl⟩
 obtain ⟨w2, hw2⟩ : ∃ y, w1.alloc (.cells #[ptrS B] 114) = y := ⟨_, rfl⟩
 have hb1 : Below w.heap.size w w1 := by rw [← hw1]; exact (Below.refl _ w).alloc (Nat.le_refl _) _
 have hb2 : Below w1.heap.size w1 w2 := by rw [← hw2]; exact (Below.refl _ w1).alloc (Nat.le_refl _) _
 have HB := qh (hb1.trans (hb2.mono hb1.size))
 have HIn := qh (qeT (fun _ => false) 190 #[.pointer (some ⟨w.heap.size, 0, none⟩), .pointer (some ⟨w.heap.size + 1, 0, none⟩)] (fun _ _ => rfl) w2)
 have HW1 := qh hw1
 have HW2 := qh hw2
 clear hb1 hb2 hw1 hw2
 unfold ptrS at HW1 HW2 ⊢
 go_enter Tryz.func133, Tryz.ntmps133
 go_upto_region 1 with fail
 rw [HW1.out, HW2.out]
 go_wp2_with fail
 refine HIn.out.mono ?_
 rintro e w3 ⟨rfl, hb3⟩
 have HB3 := qh hb3
 clear hb3
 go_wp2
 go_ret
 exact ⟨rfl, HB.out.trans (HB3.out.mono HB.out.size)⟩
theorem q8u {w0 : World} (h : RawB w0 o p ρ L b ps B P rv hv) (hb0 : Below w0.heap.size w0 w) (ht : t ∈ b.live) (hi : IdsT b.live) (hml : t.marks.length ≤ 330) (hm1 : 1 ≤ L.marks) (hm2 : L.marks ≤ 1048576) (htb : t.began < 18446744073709551616)
  (ms : List MW) (v : Value) (hl : ms.length ≤ 330) (ho : OwnG 37 3 q0l w w0.heap.size v ms) (hk : ∀ x ∈ ms, x.w.key.length ≤ 1000000) (hms : ms.map MW.w = t.ws) :
  Calls Tryz.prog 133 #[ptrS p, ptrS (P t.id).q, v] w fun r w' => ∃ A c, r = .returned (.slice A (ms.filter fun x => !q1C b.st t x.w).length c) ∧ OwnG 37 3 q0l w' w0.heap.size (.slice A (ms.filter fun x => !q1C b.st t x.w).length c) (ms.filter fun x => !q1C b.st t x.w) ∧
   q0X w0 o p ρ L (setT b (q2m L b.st t)) ps B P rv hv w' := by
 rcases ho.blkG with ⟨rfl, rfl⟩ | ⟨g, cap, rfl, hbk⟩
 ·refine (q6R b w).mono fun r w' ⟨e, hb⟩ => ⟨none, 0, e, OwnG.none_ _ _ _ _ _, ?_⟩
  have hws : t.ws = [] := by rw [← hms]; rfl
  have hd : q2m L b.st t = t := by
   obtain ⟨i, a, s, m, ws⟩ := t
   simp only at hws
   subst hws
   rfl
  rw [hd, q6E hi ht]
  exact q0X.same h (hb0.trans (hb.mono hb0.size))
 ·exact (q9X h hb0 ht hi hml hm1 hm2 htb ms w0.heap.size g cap hl hbk hbk.lt.1 hk hms).mono fun r w' ⟨e, h1, h2⟩ => ⟨_, _, e, h1.own mwF, h2⟩
def boxR (ρ : q0o) (lo hi n : Nat) : q0o := fun k => if lo ≤ k ∧ k < hi ∧ k ≠ n then 6 else ρ k
theorem q4t {lo hi n k : Nat} (h : k < lo) : boxR ρ lo hi n k = ρ k := if_neg (by omega)
theorem qeL {lo hi n : Nat} : boxR ρ lo hi n n = ρ n := if_neg (by omega)
theorem qeM {lo hi n k : Nat} (h : lo ≤ k) (h2 : k < hi) (h3 : k ≠ n) : boxR ρ lo hi n k = 6 := if_pos ⟨h, h2, h3⟩
theorem q4X {lo hi n k : Nat} : (lo ≤ k ∧ k < hi ∧ boxR ρ lo hi n k = 6) ∨ boxR ρ lo hi n k = ρ k := by
 unfold boxR
 split
 ·rename_i e; exact .inl ⟨e.1, e.2.1, rfl⟩
 ·exact .inr rfl
theorem RawB.box3 (h : RawB w o p ρ L b ps B P rv hv) {n : Nat} (hb : Below w.heap.size w w') : RawB w' o p (boxR ρ w.heap.size w'.heap.size n) L b ps B P rv hv := by
 have s : q0P (fun _ => False) ρ (boxR ρ w.heap.size w'.heap.size n) w w' := ⟨hb.size, fun k h1 _ _ => ⟨hb.block k h1, q4t h1⟩⟩
 have hp := q00 h.box
 have hB := h.live.lt
 refine ⟨(hb.block p hp).trans h.box, h.live.keep (hb.block B hB), h.store.step s id fun k e => ?_, fun t ht => (h.txs t ht).step s id id id, h.recs.step s id id, h.hist.step s id id, (q4t hp).trans h.rp, (q4t hB).trans h.rB, fun k hk => ?_⟩
 ·rcases q4X (ρ := ρ) (lo := w.heap.size) (hi := w'.heap.size) (n := n) (k := k) with ⟨_, _, h6⟩ | h6
  ·rw [h6] at e; omega
  ·rw [← h6]; exact e
 ·rcases q4X (ρ := ρ) (lo := w.heap.size) (hi := w'.heap.size) (n := n) (k := k) with ⟨h1, h2, _⟩ | h6
  ·exact ⟨Nat.le_trans h.o_le h1, h2⟩
  ·have := h.lo k (by rw [← h6]; exact hk)
   exact ⟨this.1, Nat.lt_of_lt_of_le this.2 hb.size⟩
structure q1r (w0 : World) (o p : Nat) (ρ0 : q0o) (L : LimT) (b : q08) (ps B : Nat) (P : Nat → TxP) (rv hv : Value) (w : World) (ρ : q0o) (x : MR) (n : Nat) : Prop where
 raw : RawB w o p ρ L b ps B P rv hv
 ok : OkRS w (datR ρ) x
 box : w.heap[n]? = some (.cells (q0d x).toArray 86 (0, 0))
 free : ρ n = 0
 reach : Reach ρ0 w0 ρ w
 new : w0.heap.size ≤ n
theorem RawB.recAt {W w0 : World} {n : Nat} {A Ar : Option Addr} {c cr : Nat} {rd wr : List Sp} {bg : Nat} (h : RawB w o p ρ L b ps B P rv hv) (hre : Reach ρ0 w0 ρ w) (h0 : w0.heap.size ≤ w.heap.size) (hb : Below w.heap.size w W) (hn : w.heap.size ≤ n) {n0 n1 n2 n3 : Int} {A9 B9 : Option Addr} {x9 y9 c9 d9 : Nat}
  (hx : W.heap[n]? = some (.cells #[.int .u64 n0, .int .u64 n1, .int .u64 n2, .int .u64 n3, .slice A9 x9 c9, .slice B9 y9 d9] 86 (0, 0))) (hc : ChF W w.heap.size W.heap.size A c wr) (hr : SpS w (datR ρ) Ar cr rd) (hbg : bg < 18446744073709551616) :
  ∃ ρ', q1r w0 o p ρ0 L b ps B P rv hv (set6 W n (.int .u64 0) (.int .u64 0) (.int .u64 (bg : Nat)) (.int .u64 0) (.slice Ar rd.length cr) (.slice A wr.length c)) ρ' ⟨⟨0, 0, bg, 0, rd, wr⟩, Ar, cr, A, c⟩ n ∧ ∀ k, k < w.heap.size → ρ' k = ρ k := by
 have hb2 : Below w.heap.size w (set6 W n (.int .u64 0) (.int .u64 0) (.int .u64 (bg : Nat)) (.int .u64 0) (.slice Ar rd.length cr) (.slice A wr.length c)) := Below.set6 hb hn
 have hns := fun o s => qai hx o s
 have hsz : (set6 W n (.int .u64 0) (.int .u64 0) (.int .u64 (bg : Nat)) (.int .u64 0) (.slice Ar rd.length cr) (.slice A wr.length c)).heap.size = W.heap.size := q39
 have hraw := h.box3 (n := n) hb2
 refine ⟨_, ⟨hraw, ⟨⟨by show 0 < _; omega, by show 0 < _; omega, hbg, by show 0 < _; omega⟩, ?_, ?_⟩, Box6.set (Box6.of hx), ?_, hre.trans ⟨q0t _ hb2, fun k hk => ?_⟩, Nat.le_trans h0 hn⟩, fun k hk => q4t hk⟩
 ·exact hr.keep fun g hg hl => ⟨hb2.block g hl, by unfold datR; rw [q4t hl]; exact hg⟩
 ·have hc2 := hc.set6f (v0 := .int .u64 0) (v1 := .int .u64 0) (v2 := .int .u64 (bg : Nat)) (v3 := .int .u64 0) (v4 := .slice Ar rd.length cr) (v5 := .slice A wr.length c) hns
  refine ⟨hc2.1, hc2.2.1, hc2.2.2.1, fun hl => ?_⟩
  obtain ⟨g, oo, e, g1, g2, hcc⟩ := hc.2.2.2 hl
  obtain ⟨g', oo', e', _, _, hcc'⟩ := hc2.2.2.2 hl
  rw [e] at e'
  injection e' with e'
  injection e' with e1 e2 _
  subst e1 e2
  have hgn : g ≠ n := fun hgn => by
   obtain ⟨a, l, hwl⟩ : ∃ a l, wr = a :: l := by
    cases hwr : wr with
    | nil => rw [hwr] at hl; simp at hl
    | cons a l => exact ⟨a, l, rfl⟩
   have h0 := hcc 0 (.string (bs a.lo)) (by rw [hwl]; rfl)
   rw [hgn] at h0
   exact hns _ _ h0
  exact ⟨g, oo, e, by unfold datR; exact qeM g1 (by rw [hsz]; exact g2) hgn, hcc'⟩
 ·rw [qeL]
  exact Decidable.byContradiction fun e => by have := (h.lo n e).2; omega
 ·unfold ownR at hk
  rcases q4X (ρ := ρ) (lo := w.heap.size) (hi := (set6 W n (.int .u64 0) (.int .u64 0) (.int .u64 (bg : Nat)) (.int .u64 0) (.slice Ar rd.length cr) (.slice A wr.length c)).heap.size) (n := n) (k := k) with ⟨h1, _, _⟩ | h6
  ·exact .inr h1
  ·exact .inl (by unfold ownR; rw [← h6]; exact hk)
end
open Go.RowKit
theorem qf6 {l : List RecS} {t : RecS} {out : Nat} (h : q1M l t = some out) (hl : ∀ r ∈ l, r.first < 18446744073709551616) : out < 18446744073709551616 := by
 unfold q1M at h
 split at h
 ·cases h
 ·injection h with h
  rw [← h]
  unfold outR
  cases hf : (q3v (q0c l t.began) t).foldl q2p none with
  | none => show 0 < _; omega
  | some x =>
   rcases (q35 (q3v (q0c l t.began) t) none).2.2 x hf with e | ⟨a, ha, e⟩
   ·cases e
   ·show x < _
    rw [e]
    refine hl a ?_
    unfold q3v at ha
    have h1 := (List.mem_filter.1 ha).1
    unfold q0c at h1
    exact (List.mem_filter.1 h1).1
theorem ByS.slAt {w : World} {R : Nat → Prop} {A : Option Addr} {c hi : Nat} {d : List UInt8} (h : ByS w R A c d) (hr : ∀ g, R g → g < hi) : SlI w 0 hi A c d := ⟨h.1, h.2.1, h.2.2.1, fun hn => by
 obtain ⟨b, o, e, hb, hc⟩ := h.2.2.2 hn
 exact ⟨b, o, e, Nat.zero_le _, hr b hb, hc⟩⟩
theorem qgP : q2a Tryz.prog 104 7 88 := q2a.of (by kernel_rfl)
theorem q46 (w : World) {o : Oper} {a : Act} {K : Act → World → Prop} {Q : Exit → Act → World → Prop} (s x : Operand)
  (ho : o.op = .call { callee := .builtin .append, args := #[s, x], argTypes := #[53, 53] })
  (base : Nat) (v : Value) (ms : List MD) (hs : a.eval s = v) (hown : OwnG 104 7 q0S w base v ms)
  (lo up : Nat) (ad : Addr) (m c : Nat) (ms' : List MD) (hx : a.eval x = .slice (some ad) m c) (hm : m = ms'.length) (hr : RowG q0S w lo up (some ad) ms')
  (hlen : ms.length + ms'.length ≤ 1000000) (hbase : base ≤ w.heap.size)
  (h : ∀ v' w', OwnG 104 7 q0S w' base v' (ms ++ ms') → w.grownBy w' v.ownBlock → (v'.ownBlock = v.ownBlock ∨ v'.ownBlock = some w.heap.size) → K (a.put o.dst v') w') : o.wp Tryz.prog a w K Q := by
 subst hm
 obtain ⟨i, z, hi0, hz0, hzs, hz2, hz3⟩ := qgP
 obtain ⟨v', w', hrun, h1, h2, _, h5⟩ := run_append_own_at (P := Tryz.prog) w base 53 o.type 104 i z 7 88 Tryz.underlying53 hi0 hz0 hz2 hz3 hzs (by omega) v ms.length (q0g q0S ms) hown ad ms'.length c (q0g q0S ms') (mdF.flat_len ms') (by
   intro j u hu
   have h0 : 0 < ms'.length := by
    have h1 := (List.getElem?_eq_some_iff.1 hu).1
    rw [mdF.flat_len] at h1
    omega
   obtain ⟨b, o', hA, _, _, hc⟩ := hr h0
   injection hA with hA
   subst hA
   rw [q0Q]
   exact hc j u hu) (mdF.flat_one ms') (by unfold maxLen; omega) (by omega) hbase
 have hK := h v' w' (by
   unfold OwnG
   rw [List.length_append, q0Z]
   exact h1) h2 h5
 unfold Oper.wp
 simp [execOp, ho, resolve, invoke, builtin, hs, hx, hrun, Result.andThen]
 exact hK
section
variable {w w' w0 w1 w2 : World} {o p : Nat} {ρ ρ' ρ0 ρ1 ρ2 : q0o} {L : LimT} {b b' : q08} {ps B : Nat} {P P' : Nat → TxP} {rv hv : Value} {F F' : Nat → Prop} {t t' : TxS} {x : MR} {n : Nat}
theorem q1r.below (h : q1r w0 o p ρ0 L b ps B P rv hv w ρ x n) (hb : Below w.heap.size w w') : q1r w0 o p ρ0 L b ps B P rv hv w' ρ x n :=
 ⟨h.raw.below hb, h.ok.keep fun g hg hl => ⟨hb.block g hl, hg⟩, q01 h.box hb (q00 h.box), h.free, h.reach.trans (Reach.below hb), h.new⟩
theorem q1r.stored {st' : PS} (h : q1r w0 o p ρ0 L b ps B P rv hv w ρ x n) (hm : Mut (stoR ρ) w w') (hs : StD w' ps F' L.s st') (hF : ∀ k, F' k → stoR ρ k ∨ w.heap.size ≤ k) :
  q1r w0 o p ρ0 L ⟨st', b.live, b.recs, b.hist, b.last, b.event⟩ ps B P rv hv w' (stoN ρ F') x n := by
 have hn := q00 h.box
 have hfr := h.free
 have hsn : ¬ stoR ρ n := fun q => by unfold stoR at q; omega
 refine ⟨h.raw.storeT hm hs hF, h.ok.keep ((q9k h.raw hm hF).dat (by omega)), (hm.block n hn hsn).trans h.box, ?_, h.reach.trans ⟨(Mut.refl (ownR ρ) w).trans hm (fun k hk => .inl (by unfold ownR; rw [show ρ k = 3 from hk]; omega)), qba hF⟩, h.new⟩
 rcases q3a ρ F' n with ⟨q, _⟩ | ⟨_, q, _⟩ | ⟨_, _, e⟩
 ·rcases hF n q with q2 | q2
  ·exact absurd q2 hsn
  ·omega
 ·omega
 ·rw [e]; exact hfr
theorem q1r.event (h : q1r w0 o p ρ0 L b ps B P rv hv w ρ x n) : q1r w0 o p ρ0 L ⟨b.st, b.live, b.recs, b.hist, b.last, b.event + 1⟩ ps B P rv hv (w.setCell ⟨p, 10, none⟩ (.int .i64 ((b.event + 1 : Nat)))) ρ x n := by
 have hp : ρ p ≠ 0 := by rw [h.raw.rp]; omega
 have hnp : n ≠ p := fun e => hp (by rw [← e]; exact h.free)
 exact ⟨h.raw.newEvent, h.ok.keep ((q4O h.raw.rp 10 _).dat (by omega)), (q0b hnp _ _).trans h.box, h.free, h.reach.trans (Reach.set hp 10 _), h.new⟩
theorem q1r.sets {f l u bg : Nat} {rd wr : List Sp} {A C : Option Addr} {c d : Nat} {f0 l0 u0 : Nat} (h : q1r w0 o p ρ0 L b ps B P rv hv w ρ ⟨⟨f0, l0, bg, u0, rd, wr⟩, A, c, C, d⟩ n) (hf : f < 18446744073709551616) (hl : l < 18446744073709551616) (hu : u < 18446744073709551616) :
  q1r w0 o p ρ0 L b ps B P rv hv (((w.setCell ⟨n, 0, none⟩ (.int .u64 (f : Nat))).setCell ⟨n, 1, none⟩ (.int .u64 (l : Nat))).setCell ⟨n, 3, none⟩ (.int .u64 (u : Nat))) ρ ⟨⟨f, l, bg, u, rd, wr⟩, A, c, C, d⟩ n := by
 have hfar : ∀ k, k ≠ n → (((w.setCell ⟨n, 0, none⟩ (.int .u64 (f : Nat))).setCell ⟨n, 1, none⟩ (.int .u64 (l : Nat))).setCell ⟨n, 3, none⟩ (.int .u64 (u : Nat))).heap[k]? = w.heap[k]? := fun k hk => (q0b hk _ _).trans ((q0b hk _ _).trans (q0b hk _ _))
 have hsz : (((w.setCell ⟨n, 0, none⟩ (.int .u64 (f : Nat))).setCell ⟨n, 1, none⟩ (.int .u64 (l : Nat))).setCell ⟨n, 3, none⟩ (.int .u64 (u : Nat))).heap.size = w.heap.size := by simp [World.setCell]
 have hg : ∀ k, k = n → ownR ρ0 k ∨ w0.heap.size ≤ k := fun k e => .inr (by rw [e]; exact h.new)
 have hown : ∀ k, ρ k ≠ 0 → k ≠ n := fun k hk e => hk (by rw [e]; exact h.free)
 refine ⟨h.raw.keep (fun k hk => hfar k (hown k hk)) (by rw [hsz]; exact Nat.le_refl _), ?_, ?_, h.free, ⟨((h.reach.1.trans (q1U (F := fun k => k = n) w rfl 0 _) hg).trans (q1U (F := fun k => k = n) _ rfl 1 _) hg).trans (q1U (F := fun k => k = n) _ rfl 3 _) hg, h.reach.2⟩, h.new⟩
 ·have h2 := h.ok.keep (w' := (((w.setCell ⟨n, 0, none⟩ (.int .u64 (f : Nat))).setCell ⟨n, 1, none⟩ (.int .u64 (l : Nat))).setCell ⟨n, 3, none⟩ (.int .u64 (u : Nat)))) (T := datR ρ) fun g hg _ => ⟨hfar g (hown g (by rw [show ρ g = 6 from hg]; omega)), hg⟩
  exact ⟨⟨hf, hl, h2.1.2.2.1, hu⟩, h2.2⟩
 ·exact q1o (q1o (q1o h.box 0 _) 1 _) 3 _
theorem q1r.pushRec {w5 w6 : World} {v : Value} {ms : List MR} (h : q1r w0 o p ρ0 L b ps B P rv hv w ρ x n) (hb : Below w.heap.size w w5) (hms : ms.map MR.r = b.recs) (hok : ∀ y ∈ ms, OkRS w (datR ρ) y) (hrole : ∀ g, rv.ownBlock = some g → ρ g = 4)
  (ho : OwnG 86 6 q0d w6 0 v (ms ++ [x])) (hg : w5.grownBy w6 rv.ownBlock) (hat : v.ownBlock = rv.ownBlock ∨ v.ownBlock = some w5.heap.size) (hlt : ∀ g, rv.ownBlock = some g → g < w.heap.size) :
  ∃ ρ', q1r w0 o p ρ0 L ⟨b.st, b.live, b.recs ++ [x.r], b.hist, b.last, b.event⟩ ps B P v hv (w6.setCell ⟨p, 11, none⟩ v) ρ' x n := by
 have hvl := ho.lt
 have hrow : q3q ρ 4 rv v w w6 := ⟨Nat.le_trans hb.size hg.size, fun k h1 h2 => (hg.block k (Nat.lt_of_lt_of_le h1 hb.size) (fun e => h2 e.symm)).trans (hb.block k h1), fun k hk => ⟨by
  rcases hat with q | q
  ·exact .inl (by rw [← q]; exact hk)
  ·rw [q] at hk
   injection hk with hk
   exact .inr (by rw [← hk]; exact hb.size), (hvl k hk).2⟩, hrole⟩
 have s := hrow.step (by omega)
 have hrec : q5O w6 (rowR ρ v 4) v (b.recs ++ [x.r]) := ⟨ms ++ [x], by rw [List.map_append, hms]; rfl, ho, fun y hy => by
  rcases List.mem_append.1 hy with hy | hy
  ·exact (hok y hy).keep (s.dat (by omega))
  ·rw [List.mem_singleton] at hy
   subst hy
   exact h.ok.keep (s.dat (by omega)), fun g hg => qak hg⟩
 have hraw := h.raw.newRecs s hrec (q3q.sto (v := rv) (by omega)) (hrow.lo (by omega) h.raw.o_le h.raw.lo)
 have hn := q00 h.box
 have hp : (rowR ρ v 4) p ≠ 0 := by rw [hraw.rp]; omega
 have hnp : n ≠ p := fun e => by have h1 := h.free; have h2 := h.raw.rp; rw [e] at h1; omega
 have hnv : v.ownBlock ≠ some n := fun e => by
  rcases (hrow.row n e).1 with q | q
  ·have := hrole n q; have := h.free; omega
  ·omega
 have hnr : rv.ownBlock ≠ some n := fun e => by have := hrole n e; have := h.free; omega
 refine ⟨rowR ρ v 4, hraw, ?_, ?_, (q3m hnv).trans h.free, ?_, h.new⟩
 ·exact (h.ok.keep (s.dat (by omega))).keep ((q4O (w := w6) (ρ := rowR ρ v 4) hraw.rp 11 v).dat (by omega))
 ·exact (q0b hnp _ _).trans ((hrow.same n hn hnr).trans h.box)
 ·exact h.reach.trans ((hrow.reach (by omega) (hg.tape.trans hb.tape) (hg.os.trans hb.os) (hg.output.trans hb.output)).trans (Reach.set hp 11 v))
theorem q1r.pushHist {w5 w6 : World} {v : Value} {ms : List MD} {y : MD} (h : q1r w0 o p ρ0 L b ps B P rv hv w ρ x n) (hb : Below w.heap.size w w5) (hms : ms.map MD.d = b.hist) (hok : ∀ y ∈ ms, OkDS w (datR ρ) y) (hy : OkDS w (datR ρ) y) (hrole : ∀ g, hv.ownBlock = some g → ρ g = 5)
  (ho : OwnG 104 7 q0S w6 0 v (ms ++ [y])) (hg : w5.grownBy w6 hv.ownBlock) (hat : v.ownBlock = hv.ownBlock ∨ v.ownBlock = some w5.heap.size) :
  q6U w0 o p ρ0 L ⟨b.st, b.live, b.recs, b.hist ++ [y.d], b.last, b.event⟩ ps B P (w6.setCell ⟨p, 12, none⟩ v) := by
 have hvl := ho.lt
 have hrow : q3q ρ 5 hv v w w6 := ⟨Nat.le_trans hb.size hg.size, fun k h1 h2 => (hg.block k (Nat.lt_of_lt_of_le h1 hb.size) (fun e => h2 e.symm)).trans (hb.block k h1), fun k hk => ⟨by
  rcases hat with q | q
  ·exact .inl (by rw [← q]; exact hk)
  ·rw [q] at hk
   injection hk with hk
   exact .inr (by rw [← hk]; exact hb.size), (hvl k hk).2⟩, hrole⟩
 have s := hrow.step (by omega)
 have hrec : qbm w6 (rowR ρ v 5) v (b.hist ++ [y.d]) := ⟨ms ++ [y], by rw [List.map_append, hms]; rfl, ho, fun z hz => by
  rcases List.mem_append.1 hz with hz | hz
  ·exact ⟨(hok z hz).1.keep (s.dat (by omega)), (hok z hz).2.keep (s.dat (by omega))⟩
  ·rw [List.mem_singleton] at hz
   subst hz
   exact ⟨hy.1.keep (s.dat (by omega)), hy.2.keep (s.dat (by omega))⟩, fun g hg => qak hg⟩
 have hraw := h.raw.newHist s hrec (q3q.sto (v := hv) (by omega)) (hrow.lo (by omega) h.raw.o_le h.raw.lo)
 have hp : (rowR ρ v 5) p ≠ 0 := by rw [hraw.rp]; omega
 exact ⟨_, _, _, _, hraw, h.reach.trans ((hrow.reach (by omega) (hg.tape.trans hb.tape) (hg.os.trans hb.os) (hg.output.trans hb.output)).trans (Reach.set hp 12 v)), fun _ => rfl⟩
theorem q58 (h : q0L b) : okRs b.recs := by
 have h1 := h.1
 unfold WgtT at h1
 exact ⟨by omega, by omega⟩
theorem q1r.judge {W : World} {bg cr c5 : Nat} {rd wr : List Sp} {Ar A5 : Option Addr} (h : q1r w0 o p ρ0 L b ps B P rv hv w ρ ⟨⟨0, 0, bg, 0, rd, wr⟩, Ar, cr, A5, c5⟩ n) (hrs : okRs b.recs) (h1 : rd.length ≤ 1000) (h2 : wr.length ≤ 1000) (hb : Below w.heap.size w W) :
  Calls Tryz.prog 135 #[rv, .agg #[.int .u64 0, .int .u64 0, .int .u64 (bg : Nat), .int .u64 0, .slice Ar rd.length cr, .slice A5 wr.length c5]] W fun r w' => r = .returned (q3U (q1M b.recs ⟨0, 0, bg, 0, rd, wr⟩)) ∧ Below w.heap.size w w' := by
 obtain ⟨RA, rc, rfl, hch⟩ := h.raw.recs.ch
 have q := ssiC.judge b.recs RA rc ⟨⟨0, 0, bg, 0, rd, wr⟩, Ar, cr, A5, c5⟩ W hrs ⟨h1, h2⟩ (hch.below hb (Nat.le_refl _) hb.size) (h.below hb).ok.ok
 exact q.mono fun _ _ ⟨e, h1⟩ => ⟨e, hb.trans (h1.mono hb.size)⟩
theorem q1r.reads {W : World} {f l u bg cr c5 : Nat} {rd wr : List Sp} {Ar A5 : Option Addr} (h : q1r w0 o p ρ0 L b ps B P rv hv w ρ ⟨⟨f, l, bg, u, rd, wr⟩, Ar, cr, A5, c5⟩ n) (hb : Below w.heap.size w W) :
  W.cell? ⟨p, 11, none⟩ = some rv ∧ W.cell? ⟨n, 0, none⟩ = some (.int .u64 (f : Nat)) ∧ W.cell? ⟨n, 1, none⟩ = some (.int .u64 (l : Nat)) ∧ W.cell? ⟨n, 2, none⟩ = some (.int .u64 (bg : Nat)) ∧ W.cell? ⟨n, 3, none⟩ = some (.int .u64 (u : Nat)) ∧ W.cell? ⟨n, 4, none⟩ = some (.slice Ar rd.length cr) ∧ W.cell? ⟨n, 5, none⟩ = some (.slice A5 wr.length c5) := by
 have h1 := h.below hb
 refine ⟨h1.raw.recs_, ?_, ?_, ?_, ?_, ?_, ?_⟩ <;> rw [cell_of_row W n _ _ _ _ h1.box] <;> rfl
theorem q5O.firsts {v : Value} {l : List RecS} (h : q5O w ρ v l) : ∀ r ∈ l, r.first < 18446744073709551616 := fun r hr => by
 obtain ⟨msr, rfl, _, hk, _⟩ := h
 obtain ⟨y, hy, rfl⟩ := List.mem_map.1 hr
 exact (hk y hy).1.1
theorem qaa {W : World} {ms3 : List MW} {A3 : Option Addr} {c3 lo hi : Nat} {l : List Wr} (hset : ms3.map MW.w = l) (hk : ms3.length ≤ c3 ∧ c3 ≤ maxLen ∧ (A3 = none → c3 = 0) ∧ RowG q0l W lo hi A3 ms3) (hhi : hi ≤ W.heap.size)
  (hrow : ∀ k, lo ≤ k → k < hi → ρ k ≠ 3) (hd : ∀ x ∈ ms3, ByS W (datR ρ) x.A x.c x.w.dat ∧ q2q x.w) (hlo : ∀ k, ρ k ≠ 0 → k < W.heap.size) : q87 W (stoR ρ) W.heap.size A3 c3 l := fun w' hm => by
 refine ⟨by rw [← hset, List.length_map]; exact hk.1, hk.2.1, hk.2.2.1, ms3, hset, ?_, fun x hx => ?_⟩
 ·intro hn
  obtain ⟨b', o', e, g1, g2, hc⟩ := hk.2.2.2 hn
  exact ⟨b', o', e, Nat.zero_le _, by omega, fun j u hu => (World.cell?_of_block (a := ⟨b', o' + j, none⟩) (hm.block b' (by omega) (fun q => hrow b' g1 g2 q))).trans (hc j u hu)⟩
 ·obtain ⟨h1, h2⟩ := hd x hx
  exact ⟨by unfold maxLen; have := h2.1; omega, (h1.keep (w' := w') (T := datR ρ) fun g hg hl => ⟨hm.block g hl (fun q => by unfold stoR at q; unfold datR at hg; omega), hg⟩).slAt fun g hg => hlo g (by rw [show ρ g = 6 from hg]; omega)⟩
theorem q1r.commits {W : World} {ms3 : List MW} {A3 : Option Addr} {c3 lo hi low : Nat} {l : List Wr} (h : q1r w0 o p ρ0 L b ps B P rv hv w ρ x n) (hset : ms3.map MW.w = l) (hl : ms3.length ≤ 330) (hb : Below w.heap.size w W) (hk : ms3.length ≤ c3 ∧ c3 ≤ maxLen ∧ (A3 = none → c3 = 0) ∧ RowG q0l w lo hi A3 ms3) (hhi : hi ≤ w.heap.size)
  (hrow : ∀ k, lo ≤ k → k < hi → ρ k ≠ 3) (hd : ∀ x ∈ ms3, ByS w (datR ρ) x.A x.c x.w.dat ∧ q2q x.w) :
  Calls Tryz.prog 136 #[ptrS ps, .slice A3 ms3.length c3, .int .u64 (low : Nat)] W fun r w' => r = .returned (.tuple #[.int .u64 ((q09 L.s b.st l low).2.1 : Nat), .int .i64 (q09 L.s b.st l low).2.2]) ∧
   ∃ ρ', q1r w0 o p ρ0 L ⟨(q09 L.s b.st l low).1, b.live, b.recs, b.hist, b.last, b.event⟩ ps B P rv hv w' ρ' x n := by
 have hW := h.below hb
 have hlen : l.length = ms3.length := by rw [← hset, List.length_map]
 have q := q5n ps (stoR ρ) L.s b.st l W.heap.size A3 c3 low W hW.raw.store ⟨by omega, fun y hy => by
  rw [← hset] at hy
  obtain ⟨z, hz, rfl⟩ := List.mem_map.1 hy
  have := (hd z hz).2
  exact ⟨by have := this.1; omega, by have := this.2; omega⟩⟩
  (qaa hset ⟨hk.1, hk.2.1, hk.2.2.1, hk.2.2.2.below hb hhi⟩ (Nat.le_trans hhi hb.size) hrow (fun y hy => ⟨(hd y hy).1.keep fun g hg hl => ⟨hb.block g hl, hg⟩, (hd y hy).2⟩) fun k hk => (hW.raw.lo k hk).2) (Nat.le_refl _)
 rw [hlen] at q
 exact q.mono fun r w' ⟨e, F', h1, h2, h3⟩ => ⟨e, _, hW.stored h2 h1 h3⟩
theorem q9F {L : LimS} {st : PS} {l : List Wr} {low : Nat} (h : (q09 L st l low).2.2 = 0) : (q09 L st l low).2.1 = (q09 L st l low).1.time := by
 rcases q0H L st l low with ⟨e, hc⟩ | ⟨e, _⟩ | ⟨e, _⟩ | ⟨e, _⟩ | ⟨e, _⟩ <;> rw [e] at h ⊢
 ·exact absurd h hc
 ·cases h
 ·cases h
theorem q1r.grows {wy w6 : World} {v : Value} {r : Nat} (h : q1r w0 o p ρ0 L b ps B P rv hv w ρ x n) (hb : Below w.heap.size w wy) (hr : r ≠ 0) (hr1 : r ≠ 1) (hrole : ∀ g, v.ownBlock = some g → ρ g = r) (hg : wy.grownBy w6 v.ownBlock) :
  w6.heap[n]? = w.heap[n]? ∧ w6.heap[p]? = w.heap[p]? ∧ n ≠ p := by
 have hn := q00 h.box
 have hp := q00 h.raw.box
 refine ⟨(hg.block n (Nat.lt_of_lt_of_le hn hb.size) fun e => ?_).trans (hb.block n hn), (hg.block p (Nat.lt_of_lt_of_le hp hb.size) fun e => ?_).trans (hb.block p hp), fun e => ?_⟩
 ·have := hrole n e.symm; have := h.free; omega
 ·have := hrole p e.symm; have := h.raw.rp; omega
 ·have h1 := h.free; have h2 := h.raw.rp; rw [e] at h1; omega
theorem q1r.growsK {wy w6 : World} {v : Value} {r : Nat} (hb : Below w.heap.size w wy) (hrole : ∀ g, v.ownBlock = some g → ρ g = r) (hg : wy.grownBy w6 v.ownBlock) : ∀ k, k < w.heap.size → ρ k ≠ r → w6.heap[k]? = w.heap[k]? := fun k hk hr =>
 (hg.block k (Nat.lt_of_lt_of_le hk hb.size) fun e => hr (hrole k e.symm)).trans (hb.block k hk)
theorem qf4 (l : List q47) : l.length ≤ (l.map q6L).sum := by
 induction l with
 | nil => simp
 | cons x l ih =>
  rw [List.map_cons, List.sum_cons, List.length_cons]
  have : 1 ≤ q6L x := by unfold q6L; omega
  omega
end
end Go.Proofs.YtdpbllacfljmoaaGreat
