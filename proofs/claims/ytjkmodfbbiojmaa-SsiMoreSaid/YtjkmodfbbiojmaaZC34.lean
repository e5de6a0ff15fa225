import Derived.Test.YtjkmodfbbiojmaaZC32
import Derived.Test.YtjkmodfbbiojmaaZC33
import Derived.Deep.AppendLies
import Derived.Lib.SliceRun
import Derived.RegionTactic
/-
  Records, package ssi as it landed: rows of records of a call's own, slices.Clone, own.
-/
namespace Go.Proofs.Ytjkmodfbbiojmaa
open Go.RowKit

/-- A record whose rows lie in blocks from lo on. -/
structure FrMR (w : World) (lo hi : Nat) (x : MR) : Prop where
  ok : OkMR w hi x
  reads : RowG spCells w lo hi x.A x.r.reads
  writes : RowG spCells w lo hi x.B x.r.writes
/-- A call told one record, whose rows it made. -/
def RetFr (m : RecS) (w : World) (r : Ending) (w' : World) : Prop := ∃ x : MR, x.r = m ∧ r = .returned (recVal x) ∧ FrMR w' w.heap.size w'.heap.size x ∧ Below w.heap.size w w'
/-- A record in memory, apart from the block of v. -/
structure ApMR (w : World) (v : Value) (x : MR) : Prop where
  ok : OkMR w w.heap.size x
  farA : ∀ g o, x.A = some ⟨g, o, none⟩ → 0 < x.r.reads.length → v.ownBlock ≠ some g
  farB : ∀ g o, x.B = some ⟨g, o, none⟩ → 0 < x.r.writes.length → v.ownBlock ≠ some g
section
variable {w w' : World} {lo hi B g : Nat} {v v' : Value} {x : MR} {A : Option Addr} {c : Nat} {l : List Sp}
theorem ChI.grownM (h : ChI w w.heap.size A c l) (hg : w.grownBy w' v.ownBlock) (hf : ∀ g o, A = some ⟨g, o, none⟩ → 0 < l.length → v.ownBlock ≠ some g) : ChI w' w'.heap.size A c l := by
  refine ⟨h.1, h.2.1, h.2.2.1, fun hn => ?_⟩
  obtain ⟨b, o, e, h1, h2, hc⟩ := h.2.2.2 hn
  refine ⟨b, o, e, h1, Nat.lt_of_lt_of_le h2 hg.size, fun j u hu => ?_⟩
  rw [World.cell?_of_block (hg.block b h2 (fun q => hf b o e hn q.symm))]
  exact hc j u hu
theorem ApMR.below (h : ApMR w v x) (hb : Below w.heap.size w w') : ApMR w' v x := ⟨h.ok.below hb (Nat.le_refl _) hb.size, h.farA, h.farB⟩
theorem row_lt {A : Option Addr} {l : List Sp} (h : RowG spCells w lo hi A l) {g o : Nat} (e : A = some ⟨g, o, none⟩) (hn : 0 < l.length) : lo ≤ g ∧ g < hi := by
  obtain ⟨b, o', e', h1, h2, _⟩ := h hn
  rw [e] at e'
  injection e' with e'
  injection e' with e1
  subst e1
  exact ⟨h1, h2⟩
theorem ApMR.grown (h : ApMR w v x) (hg : w.grownBy w' v.ownBlock) (hv : v'.ownBlock = v.ownBlock ∨ v'.ownBlock = some w.heap.size) : ApMR w' v' x := by
  refine ⟨⟨h.ok.first, h.ok.last, h.ok.began, h.ok.out, h.ok.reads.grownM hg h.farA, h.ok.writes.grownM hg h.farB⟩, fun g o e hn => ?_, fun g o e hn => ?_⟩
  · rcases hv with hv | hv
    · rw [hv]; exact h.farA g o e hn
    · rw [hv]
      have := (row_lt h.ok.reads.2.2.2 e hn).2
      intro q
      injection q with q
      omega
  · rcases hv with hv | hv
    · rw [hv]; exact h.farB g o e hn
    · rw [hv]
      have := (row_lt h.ok.writes.2.2.2 e hn).2
      intro q
      injection q with q
      omega
theorem FrMR.apart (h : FrMR w lo w.heap.size x) (hv : ∀ g, v.ownBlock = some g → g < lo) : ApMR w v x :=
  ⟨h.ok, fun g o e hn q => by have := (row_lt h.reads e hn).1; have := hv g q; omega, fun g o e hn q => by have := (row_lt h.writes e hn).1; have := hv g q; omega⟩
theorem FrMR.below (h : FrMR w lo hi x) (hb : Below B w w') (hB : hi ≤ B) {lo' hi' : Nat} (hl : lo' ≤ lo) (hh : hi ≤ hi') : FrMR w' lo' hi' x := ⟨h.ok.below hb hB hh, (h.reads.below hb hB).wide hl hh, (h.writes.below hb hB).wide hl hh⟩
theorem FrMR.wide (h : FrMR w lo hi x) {lo' : Nat} (hl : lo' ≤ lo) : FrMR w lo' hi x := ⟨h.ok, h.reads.wide hl (Nat.le_refl _), h.writes.wide hl (Nat.le_refl _)⟩
/-- Nothing is changed in the blocks in which its rows may lie. -/
theorem FrMR.far (h : FrMR w lo hi x) (hk : ∀ g, lo ≤ g → w'.heap[g]? = w.heap[g]?) : FrMR w' lo hi x := by
  have hr : RowG spCells w' lo hi x.A x.r.reads := h.reads.keep fun p h1 _ => World.cell?_of_block (hk _ h1)
  have hw : RowG spCells w' lo hi x.B x.r.writes := h.writes.keep fun p h1 _ => World.cell?_of_block (hk _ h1)
  exact ⟨⟨h.ok.first, h.ok.last, h.ok.began, h.ok.out, ⟨h.ok.reads.1, h.ok.reads.2.1, h.ok.reads.2.2.1, hr.wide (Nat.zero_le _) (Nat.le_refl _)⟩, ⟨h.ok.writes.1, h.ok.writes.2.1, h.ok.writes.2.2.1, hw.wide (Nat.zero_le _) (Nat.le_refl _)⟩⟩, hr, hw⟩
theorem FrMR.retOne {m : RecS} {r : Ending} (h : RetFr m w r w') : RetOne m w r w' := by
  obtain ⟨x, e, hr, hf, hb⟩ := h
  exact ⟨x, e, hr, hf.ok, hb⟩
end

/-- An append of one record to a row of the call's own. -/
theorem append_one6 (w : World) {ops : Array Oper} {rest : List Oper} {o : Oper} {a : Act} {Q : Exit → Act → World → Prop} (hgd : o.guard = none) (s x : Operand)
    (ho : o.op = .call { callee := .builtin .append, args := #[s, x], argTypes := #[22, 22] })
    (base : Nat) (v : Value) (ms : List MR) (hs : a.eval s = v) (hown : OwnG 29 6 mrCells w base v ms) (y : MR) (g0 : Nat) (hx : a.eval x = .slice (some ⟨g0, 0, none⟩) 1 1)
    (hg : w.heap[g0]? = some (.cells (mrCells y).toArray 29 (0, 0))) (hlen : ms.length + 1 ≤ 1000000) (hbase : base ≤ w.heap.size)
    (h : ∀ v' w', OwnG 29 6 mrCells w' base v' (ms ++ [y]) → w.grownBy w' v.ownBlock → (v'.ownBlock = v.ownBlock ∨ v'.ownBlock = some w.heap.size) → wpList Try.prog ops Q rest (a.put o.dst v') w') : wpList Try.prog ops Q (o :: rest) a w := by
  obtain ⟨i, z, hi0, hz0, hzs, hz2, hz3⟩ := mrInfo
  refine wpList_append_lies w hgd s x 22 ho base 29 i z 6 80 Try.underlying22 hi0 hz0 hz2 hz3 hzs (by omega) v ms.length (flatG mrCells ms) hs hown ⟨g0, 0, none⟩ 1 1 (flatG mrCells [y]) hx
    (by rw [mrF.flat_len]; rfl) ?_ (mrF.flat_one [y]) (by omega) (by unfold maxLen; omega) (by omega) hbase w.heap.size rfl ?_
  · intro j u hu
    rw [addr_add]
    obtain ⟨b, o', e, _, _, hc⟩ := (RowG.one hg) (by simp : 0 < [y].length)
    injection e with e
    injection e with e1 e2
    subst e1 e2
    exact hc j u hu
  · intro g cap w' h1 h2 h3 h4
    refine h _ w' ?_ h2 ?_
    · unfold OwnG
      rw [List.length_append, flatG_append]
      exact h1
    · rcases h3 with h3 | h3
      · exact .inl h3.symm
      · exact .inr (by rw [h3]; rfl)

/-! ### slices.Clone of stretches -/
set_option maxRecDepth 100000 in
set_option maxHeartbeats 4000000 in
theorem dCloneI_any (l : List Sp) (A : Option Addr) (c : Nat) (w : World) (hl : l.length ≤ 1000000) (h : ChI w w.heap.size A c l) :
    Calls Try.prog 51 #[.slice A l.length c] w fun r w' => ∃ A' c', r = .returned (.slice A' l.length c') ∧ ChI w' w'.heap.size A' c' l ∧ RowG spCells w' w.heap.size w'.heap.size A' l ∧ Below w.heap.size w w' := by
  have q22 : ∀ (w : World) (a : Option Addr) (n c n' c' : Nat), (binOp .eql 27 (.slice a n c) (.slice none n' c')).run Try.prog w = .ok (.bool a.isNone) w := fun w a n c n' c' => Lib.run_eql_slice_nil w _ _ a n c n' c' Try.underlying27
  cases A with
  | none =>
    obtain rfl := h.2.2.1 rfl
    have h0 : l = [] := List.eq_nil_of_length_eq_zero (by have := h.1; omega)
    subst h0
    clear h hl
    go_enter Try.func51, Try.ntmps51
    go_wp2
    go_ret
    exact ⟨none, 0, rfl, ChI.none_ _ _, RowG.nil_, Below.refl _ _⟩
  | some ad =>
    have HC := Lib.hid (h.below ((Below.refl _ w).alloc (Nat.le_refl _) (.cells #[] 58)) (Nat.le_refl _) (Nat.le_refl _))
    have HB0 := Lib.hid ((Below.refl w.heap.size w).alloc (Nat.le_refl _) (.cells #[] 58))
    have HL := Lib.hid hl
    clear h hl
    go_enter Try.func51, Try.ntmps51
    go_wp2_with (at_builtin; refine append_row _ rfl _ _ 27 58 32 spF spInfo Try.underlying27 rfl w.heap.size _ [] rfl (OwnG.made w 58 2 spCells) 0 _ (some ad) l.length c l rfl rfl HC.out.2.2.1 HC.out.2.2.2 (by have := HL.out; simp [maxLen]; omega) (by have := HL.out; simp; omega) (by simp) ?_; intro v1 w1 ho1 hg1; have HO1 := Lib.hid ho1; have HB1 := Lib.hid (HB0.out.grown hg1 (by simp) (fun k hk => ((OwnG.made w 58 2 spCells).lt k hk).1)); clear ho1 hg1)
    obtain ⟨A', c', rfl, k1, k2, k3, k4⟩ := HO1.out.form
    go_wp2
    go_ret
    rw [List.nil_append] at k1 k4
    exact ⟨A', c', by rw [List.nil_append]; rfl, ⟨k1, k2, k3, k4.wide (Nat.zero_le _) (Nat.le_refl _)⟩, k4, HB1.out⟩

/-! ### own -/
set_option maxRecDepth 100000 in
set_option maxHeartbeats 16000000 in
theorem dOwnM_any (x : MR) (w : World) (ho : okR x.r) (hx : OkMR w w.heap.size x) :
    Calls Try.prog 32 #[recVal x] w (RetFr x.r w) := by
  obtain ⟨⟨xf, xl, xb, xo, xr, xw⟩, xA, xc, xB, xd⟩ := x
  unfold recVal
  have HX := Lib.hid hx
  have HO := Lib.hid ho
  clear hx ho
  simp only at HX HO
  have HNum := Lib.hid (And.intro HX.out.first (And.intro HX.out.last (And.intro HX.out.began HX.out.out)))
  go_enter Try.func32, Try.ntmps32
  go_upto_region 1 with fail
  obtain ⟨w1, hw1⟩ : ∃ y, (w.alloc (.cells #[.int .u64 xf, .int .u64 xl, .int .u64 xb, .int .u64 xo, .slice xA xr.length xc, .slice xB xw.length xd] 29)).alloc (.cells #[.int .u64 0, .int .u64 0, .int .u64 0, .int .u64 0, .slice none 0 0, .slice none 0 0] 29) = y := ⟨_, rfl⟩
  rw [hw1]
  have hb1 : Below w.heap.size w w1 := by rw [← hw1]; exact ((Below.refl _ w).alloc (Nat.le_refl _) _).alloc (by simp) _
  have hs1 : w1.heap.size = w.heap.size + 2 := by rw [← hw1]; simp
  have hx1 : w1.heap[w.heap.size]? = some (.cells #[.int .u64 xf, .int .u64 xl, .int .u64 xb, .int .u64 xo, .slice xA xr.length xc, .slice xB xw.length xd] 29 (0, 0)) := by rw [← hw1]; exact heap_allocs (heap_alloc_new w _) _
  have hz1 : w1.heap[w.heap.size + 1]? = some (.cells #[.int .u64 0, .int .u64 0, .int .u64 0, .int .u64 0, .slice none 0 0, .slice none 0 0] 29 (0, 0)) := by rw [← hw1]; exact heap_new2 w _ _
  clear hw1
  have HB1 := Lib.hid hb1
  have HS1 := Lib.hid hs1
  have HX1 := Lib.hid (fun (W : World) (h : Below w1.heap.size w1 W) => heap_below hx1 h (lt_of_heap hx1))
  have HZ1 := Lib.hid (fun (W : World) (h : Below w1.heap.size w1 W) => heap_below hz1 h (lt_of_heap hz1))
  have HCl := Lib.hid (fun (W : World) (h : Below w1.heap.size w1 W) => six_of (HX1.out W h))
  have HFr := Lib.hid (fun (W : World) (h : Below w1.heap.size w1 W) => And.intro (frozen_of (HX1.out W h) 4) (frozen_of (HX1.out W h) 5))
  have C1 : Hid (∀ (W : World), Below w1.heap.size w1 W → Calls Try.prog 51 #[.slice xA xr.length xc] W fun r w' => ∃ A' c', r = .returned (.slice A' xr.length c') ∧ ChI w' w'.heap.size A' c' xr ∧ RowG spCells w' w1.heap.size w'.heap.size A' xr ∧ Below w1.heap.size w1 w') :=
    Lib.hid fun W h => (dCloneI_any xr xA xc W (by have := HO.out.1; simp only at this; omega) ((HX.out.reads.below hb1 (Nat.le_refl _) hb1.size).below h (Nat.le_refl _) h.size)).mono fun _ _ ⟨A', c', e, h1, h2, q⟩ => ⟨A', c', e, h1, h2.wide h.size (Nat.le_refl _), h.trans (q.mono h.size)⟩
  have C2 : Hid (∀ (A' : Option Addr) (c' : Nat) (W : World), ChI W W.heap.size A' c' xr → RowG spCells W w1.heap.size W.heap.size A' xr → Below w1.heap.size w1 W → Calls Try.prog 51 #[.slice xB xw.length xd] W fun r w' => ∃ B' d', r = .returned (.slice B' xw.length d') ∧ FrMR w' w1.heap.size w'.heap.size ⟨⟨xf, xl, xb, xo, xr, xw⟩, A', c', B', d'⟩ ∧ Below w1.heap.size w1 w') :=
    Lib.hid fun A' c' W h1 h2 h => (dCloneI_any xw xB xd W (by have := HO.out.2; simp only at this; omega) ((HX.out.writes.below hb1 (Nat.le_refl _) hb1.size).below h (Nat.le_refl _) h.size)).mono fun _ _ ⟨B', d', e, h3, h4, q⟩ => ⟨B', d', e, ⟨⟨HNum.out.1, HNum.out.2.1, HNum.out.2.2.1, HNum.out.2.2.2, h1.below q (Nat.le_refl _) q.size, h3⟩, (h2.below q (Nat.le_refl _)).wide (Nat.le_refl _) q.size, h4.wide h.size (Nat.le_refl _)⟩, h.trans (q.mono h.size)⟩
  obtain ⟨z0, z1, z2, z3, z4, z5⟩ := HCl.out _ (Below.refl _ _)
  clear hb1 hs1 hx1 hz1
  go_region_with ((first
    | (go_at_call 51; with_reducible refine (C2.out _ _ _ h2 h2r hb2).mono ?_; rintro r w3 ⟨B', d', rfl, h3, hb3⟩; obtain ⟨f4, f5⟩ := HFr.out _ hb3; obtain ⟨u0, u1, u2, u3, u4, u5⟩ := HCl.out _ hb3; clear h2 h2r hb2)
    | (go_at_call 51; with_reducible refine (C1.out _ (Below.refl _ _).drew).mono ?_; rintro r w2 ⟨A', c', rfl, h2, h2r, hb2⟩; obtain ⟨y0, y1, y2, y3, y4, y5⟩ := HCl.out _ hb2; clear z0 z1 z2 z3 z4 z5)))
  all_goals
    have hx3 := HX1.out _ hb3
    have hx5 : ((w3.setCell ⟨w.heap.size, 4, none⟩ (.slice A' xr.length c')).setCell ⟨w.heap.size, 5, none⟩ (.slice B' xw.length d')).heap[w.heap.size]? = some (.cells #[.int .u64 xf, .int .u64 xl, .int .u64 xb, .int .u64 xo, .slice A' xr.length c', .slice B' xw.length d'] 29 (0, 0)) := by
      rw [set_at (set_at hx3 4 (.slice A' xr.length c')) 5 (.slice B' xw.length d')]
      rfl
    have hz5 : ((w3.setCell ⟨w.heap.size, 4, none⟩ (.slice A' xr.length c')).setCell ⟨w.heap.size, 5, none⟩ (.slice B' xw.length d')).heap[w.heap.size + 1]? = some (.cells #[.int .u64 0, .int .u64 0, .int .u64 0, .int .u64 0, .slice none 0 0, .slice none 0 0] 29 (0, 0)) := by
      rw [set_far (by omega), set_far (by omega)]
      exact HZ1.out _ hb3
    have hb5 : Below w.heap.size w ((w3.setCell ⟨w.heap.size, 4, none⟩ (.slice A' xr.length c')).setCell ⟨w.heap.size, 5, none⟩ (.slice B' xw.length d')) := ((HB1.out.trans (hb3.mono HB1.out.size)).setCell (Nat.le_refl _) _).setCell (Nat.le_refl _) _
    have hfr : FrMR ((w3.setCell ⟨w.heap.size, 4, none⟩ (.slice A' xr.length c')).setCell ⟨w.heap.size, 5, none⟩ (.slice B' xw.length d')) w1.heap.size w3.heap.size ⟨⟨xf, xl, xb, xo, xr, xw⟩, A', c', B', d'⟩ := h3.far (fun g hg => by rw [set_far (by have := HS1.out; omega), set_far (by have := HS1.out; omega)])
    have hs5 : ((w3.setCell ⟨w.heap.size, 4, none⟩ (.slice A' xr.length c')).setCell ⟨w.heap.size, 5, none⟩ (.slice B' xw.length d')).heap.size = w3.heap.size := by simp [World.setCell]
    generalize (w3.setCell ⟨w.heap.size, 4, none⟩ (.slice A' xr.length c')).setCell ⟨w.heap.size, 5, none⟩ (.slice B' xw.length d') = w5 at *
    have HZ5 := Lib.hid hz5
    have HX5 := Lib.hid (six_of hx5)
    have HB5 := Lib.hid hb5
    have HF5 := Lib.hid hfr
    have HS5 := Lib.hid hs5
    clear hx3 hx5 hz5 hb5 hfr hs5 h3 hb3 f4 f5 u0 u1 u2 u3 u4 u5
    obtain ⟨z0, z1, z2, z3, z4, z5⟩ := HX5.out
    obtain ⟨a0, a1, a2, a3, a4, a5, q0, q1, q2, q3, q4, q5, g0, g1, g2, g3, g4, g5⟩ := (Box6.of HZ5.out).cells
    go_wp2_with fail
    refine bodyPost_ret (results6 (k := 2) (h := w.heap.size + 1) rfl rfl (by rfl) (Box6.set (Box6.of HZ5.out))) (by rfl) ?_
    refine ⟨⟨⟨xf, xl, xb, xo, xr, xw⟩, A', c', B', d'⟩, rfl, rfl, ?_, Below.set6 HB5.out (by omega)⟩
    rw [show (World.setCell _ _ _).heap.size = w5.heap.size from set6_size, HS5.out]
    exact (HF5.out.far (fun g hg => set6_far (by have := HS1.out; omega))).wide (by have := HS1.out; omega)
end Go.Proofs.Ytjkmodfbbiojmaa
