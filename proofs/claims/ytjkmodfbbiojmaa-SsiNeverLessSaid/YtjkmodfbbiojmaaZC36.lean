import Derived.Test.YtjkmodfbbiojmaaZC34
import Derived.Deep.LoopGhost
import Derived.Deep.DeepCutAuto
/-
  Records, package ssi as it landed: rows of records changed in place, slices.Clone of records, owned.
-/
namespace Go.Proofs.Ytjkmodfbbiojmaa
open Go.RowKit

/-- Block g, from lo on, has room for cap records, and the first ones are ms. -/
def BlkM (w : World) (lo g cap : Nat) (l : List MR) : Prop :=
  ∃ cur, lo ≤ g ∧ w.heap[g]? = some (.cells cur 29 (0, 0)) ∧ l.length ≤ cap ∧ cap ≤ maxLen ∧ cur.size = cap * 6 ∧ cur.toList.take (l.length * 6) = flatG mrCells l
section
variable {w w' : World} {lo g cap : Nat} {l : List MR}
theorem BlkM.own (h : BlkM w lo g cap l) : OwnG 29 6 mrCells w lo (.slice (some ⟨g, 0, none⟩) l.length cap) l := by
  obtain ⟨cur, h1, h2, h3, h4, h5, h6⟩ := h
  exact ⟨mrF.flat_len l, .inr ⟨g, cap, cur, rfl, h1, h2, h3, h4, h5, h6⟩⟩
theorem OwnG.blkM {v : Value} (h : OwnG 29 6 mrCells w lo v l) : (v = .slice none 0 0 ∧ l = []) ∨ ∃ g cap, v = .slice (some ⟨g, 0, none⟩) l.length cap ∧ BlkM w lo g cap l := by
  rcases h.2 with ⟨h1, h2⟩ | ⟨g, cap, cur, hv, h1, h2, h3, h4, h5, h6⟩
  · exact .inl ⟨h1, List.eq_nil_of_length_eq_zero h2⟩
  · exact .inr ⟨g, cap, hv, cur, h1, h2, h3, h4, h5, h6⟩
theorem BlkM.lt (h : BlkM w lo g cap l) : lo ≤ g ∧ g < w.heap.size := by
  obtain ⟨_, h1, h2, _⟩ := h
  exact ⟨h1, lt_of_heap h2⟩
theorem BlkM.keep (h : BlkM w lo g cap l) (hk : w'.heap[g]? = w.heap[g]?) : BlkM w' lo g cap l := by
  obtain ⟨cur, h1, h2, h3⟩ := h
  exact ⟨cur, h1, hk.trans h2, h3⟩
theorem BlkM.below (h : BlkM w lo g cap l) (hb : Below w.heap.size w w') : BlkM w' lo g cap l := h.keep (hb.block g h.lt.2)
theorem BlkM.frozen (h : BlkM w lo g cap l) (o : Nat) : w.frozen? ⟨g, o, none⟩ = false := by
  obtain ⟨cur, _, h2, _⟩ := h
  exact frozen_of h2 o
theorem BlkM.cells (h : BlkM w lo g cap l) {j : Nat} (hj : j < l.length) : w.cell? ⟨g, j * 6, none⟩ = some (.int .u64 (l[j]'hj).r.first) ∧ w.cell? ⟨g, j * 6 + 1, none⟩ = some (.int .u64 (l[j]'hj).r.last) ∧ w.cell? ⟨g, j * 6 + 2, none⟩ = some (.int .u64 (l[j]'hj).r.began) ∧
    w.cell? ⟨g, j * 6 + 3, none⟩ = some (.int .u64 (l[j]'hj).r.out) ∧ w.cell? ⟨g, j * 6 + 4, none⟩ = some (.slice (l[j]'hj).A (l[j]'hj).r.reads.length (l[j]'hj).c) ∧ w.cell? ⟨g, j * 6 + 5, none⟩ = some (.slice (l[j]'hj).B (l[j]'hj).r.writes.length (l[j]'hj).d) := by
  obtain ⟨cur, _, h2, _, _, h5, h6⟩ := h
  have hc : ∀ i u, i < 6 → (mrCells (l[j]'hj))[i]? = some u → w.cell? ⟨g, j * 6 + i, none⟩ = some u := fun i u hi hu => by
    have e := mrF.flat_at l j hj i hi
    rw [hu, ← h6, List.getElem?_take] at e
    rw [cell_of_row w g _ _ _ _ h2]
    split at e
    · rw [← e, Array.getElem?_toList]
    · cases e
  exact ⟨hc 0 _ (by omega) rfl, hc 1 _ (by omega) rfl, hc 2 _ (by omega) rfl, hc 3 _ (by omega) rfl, hc 4 _ (by omega) rfl, hc 5 _ (by omega) rfl⟩
theorem flat_set6 : ∀ (l : List MR) (j : Nat) (x : MR), j < l.length → flatG mrCells (l.set j x) = ((((((flatG mrCells l).set (j * 6) (.int .u64 x.r.first)).set (j * 6 + 1) (.int .u64 x.r.last)).set (j * 6 + 2) (.int .u64 x.r.began)).set (j * 6 + 3) (.int .u64 x.r.out)).set (j * 6 + 4) (.slice x.A x.r.reads.length x.c)).set (j * 6 + 5) (.slice x.B x.r.writes.length x.d)
  | [], _, _, h => absurd h (by simp)
  | y :: l, 0, x, _ => by simp [flatG_cons, mrCells]
  | y :: l, j + 1, x, h => by
    have ih := flat_set6 l j x (by simpa using h)
    rw [List.set_cons_succ, flatG_cons, flatG_cons, ih]
    rw [show (j + 1) * 6 = (j * 6) + 6 by omega]
    simp [mrCells]
/-- A record is stored at place j. -/
theorem BlkM.store (h : BlkM w lo g cap l) (j : Nat) (x : MR) (hj : j < l.length) : BlkM ((((((w.setCell ⟨g, j * 6, none⟩ (.int .u64 x.r.first)).setCell ⟨g, j * 6 + 1, none⟩ (.int .u64 x.r.last)).setCell ⟨g, j * 6 + 2, none⟩ (.int .u64 x.r.began)).setCell ⟨g, j * 6 + 3, none⟩ (.int .u64 x.r.out)).setCell ⟨g, j * 6 + 4, none⟩ (.slice x.A x.r.reads.length x.c)).setCell ⟨g, j * 6 + 5, none⟩ (.slice x.B x.r.writes.length x.d)) lo g cap (l.set j x) := by
  obtain ⟨cur, h1, h2, h3, h4, h5, h6⟩ := h
  refine ⟨_, h1, set_at (set_at (set_at (set_at (set_at (set_at h2 _ _) _ _) _ _) _ _) _ _) _ _, by rw [List.length_set]; exact h3, h4, by simp [h5], ?_⟩
  rw [List.length_set, flat_set6 l j x hj, ← h6]
  simp only [Array.toList_setIfInBounds, List.take_set]
/-- Other blocks are as they were behind a store. -/
theorem store_far {b : Nat} {v0 v1 v2 v3 v4 v5 : Value} {j : Nat} (hb : b ≠ g) : ((((((w.setCell ⟨g, j * 6, none⟩ v0).setCell ⟨g, j * 6 + 1, none⟩ v1).setCell ⟨g, j * 6 + 2, none⟩ v2).setCell ⟨g, j * 6 + 3, none⟩ v3).setCell ⟨g, j * 6 + 4, none⟩ v4).setCell ⟨g, j * 6 + 5, none⟩ v5).heap[b]? = w.heap[b]? := by
  rw [set_far hb, set_far hb, set_far hb, set_far hb, set_far hb, set_far hb]
end
set_option maxRecDepth 100000 in
set_option maxHeartbeats 4000000 in
theorem dCloneR_any (ms : List MR) (A : Option Addr) (c : Nat) (w : World) (hl : ms.length ≤ 1000000) (hlc : ms.length ≤ c) (hnil : A = none → c = 0) (hr : RowG mrCells w 0 w.heap.size A ms) :
    Calls Try.prog 52 #[.slice A ms.length c] w fun r w' => ∃ v', r = .returned v' ∧ OwnG 29 6 mrCells w' w.heap.size v' ms ∧ Below w.heap.size w w' := by
  have q22 : ∀ (w : World) (a : Option Addr) (n c n' c' : Nat), (binOp .eql 22 (.slice a n c) (.slice none n' c')).run Try.prog w = .ok (.bool a.isNone) w := fun w a n c n' c' => Lib.run_eql_slice_nil w _ _ a n c n' c' Try.underlying22
  cases A with
  | none =>
    obtain rfl := hnil rfl
    have h0 : ms = [] := List.eq_nil_of_length_eq_zero (by omega)
    subst h0
    clear hr hl
    go_enter Try.func52, Try.ntmps52
    go_wp2
    go_ret
    exact ⟨_, rfl, OwnG.none_ _ _ _ _ _, Below.refl _ _⟩
  | some ad =>
    have HC := Lib.hid (hr.below ((Below.refl _ w).alloc (Nat.le_refl _) (.cells #[] 29)) (Nat.le_refl _))
    have HB0 := Lib.hid ((Below.refl w.heap.size w).alloc (Nat.le_refl _) (.cells #[] 29))
    have HL := Lib.hid hl
    clear hr hl hlc hnil
    go_enter Try.func52, Try.ntmps52
    go_wp2_with (at_builtin; refine append_row _ rfl _ _ 22 29 80 mrF mrInfo Try.underlying22 rfl w.heap.size _ [] rfl (OwnG.made w 29 6 mrCells) 0 _ (some ad) ms.length c ms rfl rfl (fun e => by cases e) HC.out (by have := HL.out; simp [maxLen]; omega) (by have := HL.out; simp; omega) (by simp) ?_; intro v1 w1 ho1 hg1; have HO1 := Lib.hid ho1; have HB1 := Lib.hid (HB0.out.grown hg1 (by simp) (fun k hk => ((OwnG.made w 29 6 mrCells).lt k hk).1)); clear ho1 hg1)
    go_ret
    have h := HO1.out
    rw [List.nil_append] at h
    exact ⟨v1, rfl, h, HB1.out⟩

/-! ### owned -/
theorem split_at (news rest : List MR) (x : MR) (hj : news.length < (news ++ x :: rest).length) : (news ++ x :: rest)[news.length]'hj = x := by simp
set_option maxRecDepth 100000 in
set_option maxHeartbeats 8000000 in
theorem dOwned_any (ms : List MR) (A : Option Addr) (c : Nat) (w : World) (hl : ms.length ≤ 1000) (hlc : ms.length ≤ c) (hnil : A = none → c = 0) (hr : RowG mrCells w 0 w.heap.size A ms) (hok : ∀ x ∈ ms, okR x.r ∧ OkMR w w.heap.size x) :
    Calls Try.prog 33 #[.slice A ms.length c] w fun r w' => ∃ ms' v', r = .returned v' ∧ ms'.map MR.r = ms.map MR.r ∧ OwnG 29 6 mrCells w' w.heap.size v' ms' ∧ (∀ x ∈ ms', FrMR w' w.heap.size w'.heap.size x) ∧ Below w.heap.size w w' := by
  have HC := Lib.hid (dCloneR_any ms A c w (by omega) hlc hnil hr)
  have HOk := Lib.hid hok
  have HL := Lib.hid hl
  clear hok hr hlc hnil
  go_enter Try.func33, Try.ntmps33
  go_wp2_with fail
  refine HC.out.mono ?_
  rintro r w1 ⟨v1, rfl, ho1, hb1⟩
  clear HC
  rcases ho1.blkM with ⟨rfl, rfl⟩ | ⟨g, cap, rfl, hblk⟩
  · have HB1 := Lib.hid hb1
    clear hb1 ho1
    go_wp2_with fail
    go_loopg [9] 0 (fun q i wr => i = .int .i64 0 ∧ wr = w1)
    case atStart => exact ⟨rfl, rfl⟩
    case round =>
      obtain ⟨rfl, rfl⟩ := hrel
      go_wp2_with fail
      go_ret
      exact ⟨[], _, rfl, rfl, OwnG.none_ _ _ _ _ _, by simp, HB1.out⟩
  · have HB1 := Lib.hid hb1
    have HBk := Lib.hid hblk
    have hlt1 := hblk.lt
    have HLt := Lib.hid hlt1
    have hcap : ms.length ≤ cap ∧ cap ≤ maxLen := by
      obtain ⟨_, _, _, h3, h4, _⟩ := hblk
      exact ⟨h3, h4⟩
    clear hb1 ho1 hblk hlt1
    go_wp2_with fail
    go_loopg [3, 9] ms.length (fun q _ i wr => ∃ (j : Nat) (news : List MR), j + q = ms.length ∧ i = .int .i64 j ∧ news.length = j ∧ news.map MR.r = (ms.take j).map MR.r ∧ BlkM wr w.heap.size g cap (news ++ ms.drop j) ∧ (∀ x ∈ news, FrMR wr w1.heap.size wr.heap.size x) ∧ w1.heap.size ≤ wr.heap.size ∧ Below w.heap.size w wr)
    case atStart => exact ⟨0, [], by omega, rfl, rfl, rfl, HBk.out, by simp, Nat.le_refl _, HB1.out⟩
    case round =>
      obtain ⟨j, news, hk, rfl, hn, hm, hblk, hfr, hsz, hb⟩ := hrel
      obtain ⟨wo, hwo⟩ : ∃ y, y = wr := ⟨_, rfl⟩
      subst hwo
      have HK := Lib.hid hk
      have HN := Lib.hid hn
      have HM := Lib.hid hm
      have HBl := Lib.hid hblk
      have HFr := Lib.hid hfr
      have HSz := Lib.hid hsz
      have HB := Lib.hid hb
      clear hk hn hm hblk hfr hsz hb
      by_cases hj : j < ms.length
      · have hlt : decide ((j : Int) < (ms.length : Int)) = true := by simpa using hj
        have hlt3 : decide (j < ms.length) = true := by simpa using hj
        have hd : ms.drop j = ms[j] :: ms.drop (j + 1) := List.drop_eq_getElem_cons hj
        have hlj : (news ++ ms.drop j).length = ms.length := by rw [List.length_append, List.length_drop, HN.out]; omega
        have hj2 : j < (news ++ ms.drop j).length := by rw [hlj]; exact hj
        have hat : (news ++ ms.drop j)[j]'hj2 = ms[j] := by
          rw [List.getElem_append_right (by rw [HN.out]; exact Nat.le_refl _)]
          simp [HN.out]
        obtain ⟨c0, c1, c2, c3, c4, c5⟩ := HBl.out.cells hj2
        rw [hat] at c0 c1 c2 c3 c4 c5
        obtain ⟨hox, hokx⟩ := HOk.out _ (List.getElem_mem hj)
        have HStep := Lib.hid (fun (x' : MR) (e : x'.r = ms[j].r) => And.intro (show (news ++ [x']).map MR.r = (ms.take (j + 1)).map MR.r by rw [List.map_append, HM.out, List.take_succ_eq_append_getElem hj, List.map_append, List.map_cons, List.map_nil, List.map_cons, List.map_nil, e]) (show (news ++ ms.drop j).set j x' = (news ++ [x']) ++ ms.drop (j + 1) by
          rw [hd, List.set_append_right _ _ (by rw [HN.out]; exact Nat.le_refl _), HN.out, Nat.sub_self, List.set_cons_zero, List.append_assoc]
          rfl))
        have HLj := Lib.hid hlj
        have HJ2 := Lib.hid hj2
        clear hat hd hj2 hlj
        have hokw : OkMR wo wo.heap.size ms[j] := hokx.below HB.out (Nat.le_refl _) HB.out.size
        clear hokx
        generalize ms[j] = x at *
        obtain ⟨⟨xf, xl, xb, xo, xr, xw⟩, xA, xc, xB, xd⟩ := x
        simp only at c0 c1 c2 c3 c4 c5 hox hokw
        obtain ⟨wt, hwt⟩ : ∃ y, wo.alloc (.cells #[.int .u64 xf, .int .u64 xl, .int .u64 xb, .int .u64 xo, .slice xA xr.length xc, .slice xB xw.length xd] 29) = y := ⟨_, rfl⟩
        have hbt : Below wo.heap.size wo wt := by rw [← hwt]; exact (Below.refl _ wo).alloc (Nat.le_refl _) _
        have hxt : wt.heap[wo.heap.size]? = some (.cells #[.int .u64 xf, .int .u64 xl, .int .u64 xb, .int .u64 xo, .slice xA xr.length xc, .slice xB xw.length xd] 29 (0, 0)) := by rw [← hwt]; exact heap_alloc_new wo _
        have hOwn := dOwnM_any ⟨⟨xf, xl, xb, xo, xr, xw⟩, xA, xc, xB, xd⟩ wt hox (hokw.below hbt (Nat.le_refl _) hbt.size)
        unfold recVal at hOwn
        simp only at hOwn
        have HOwn := Lib.hid hOwn
        have HWt := Lib.hid hwt
        have HBt := Lib.hid hbt
        have HCl := Lib.hid (six_of hxt)
        clear hOwn hwt hbt hxt hox hokw
        go_upto_region 5 with fail
        rw [HWt.out]
        clear HWt c0 c1 c2 c3 c4 c5
        obtain ⟨z0, z1, z2, z3, z4, z5⟩ := HCl.out
        go_wp2_with fail
        refine HOwn.out.mono ?_
        rintro r w2 ⟨x', hx', rfl, hf2, hb2⟩
        have HB2 := Lib.hid (HBt.out.trans (hb2.mono HBt.out.size))
        have HF2 := Lib.hid (hf2.wide (Nat.le_trans HSz.out HBt.out.size))
        have HX' := Lib.hid hx'
        have HBl2 := Lib.hid (HBl.out.below HB2.out)
        clear hf2 hb2 hx' z0 z1 z2 z3 z4 z5 HOwn HCl
        obtain ⟨c0, c1, c2, c3, c4, c5⟩ := HBl2.out.cells HJ2.out
        have f0 := HBl2.out.frozen (j * 6)
        have f1 := HBl2.out.frozen (j * 6 + 1)
        have f2 := HBl2.out.frozen (j * 6 + 2)
        have f3 := HBl2.out.frozen (j * 6 + 3)
        have f4 := HBl2.out.frozen (j * 6 + 4)
        have f5 := HBl2.out.frozen (j * 6 + 5)
        have HSt := Lib.hid (HBl2.out.store j x' HJ2.out)
        have HFar := Lib.hid (fun (b : Nat) (hb : b ≠ g) => store_far (w := w2) (g := g) (b := b) (v0 := .int .u64 x'.r.first) (v1 := .int .u64 x'.r.last) (v2 := .int .u64 x'.r.began) (v3 := .int .u64 x'.r.out) (v4 := .slice x'.A x'.r.reads.length x'.c) (v5 := .slice x'.B x'.r.writes.length x'.d) (j := j) hb)
        unfold recVal
        go_wp2_with fail
        go_roundg (gk - 1)
        case measure => have := HK.out; omega
        case rel =>
          obtain ⟨e1, e2⟩ := HStep.out x' HX'.out
          have hlt2 := HLt.out
          refine ⟨j + 1, news ++ [x'], by have := HK.out; omega, by go_num, by simp [HN.out], e1, ?_, ?_, ?_, ?_⟩
          · rw [← e2]; exact HSt.out
          · intro y hy
            have hsz2 : (World.setCell (World.setCell (World.setCell (World.setCell (World.setCell (World.setCell w2 ⟨g, j * 6, none⟩ (.int .u64 x'.r.first)) ⟨g, j * 6 + 1, none⟩ (.int .u64 x'.r.last)) ⟨g, j * 6 + 2, none⟩ (.int .u64 x'.r.began)) ⟨g, j * 6 + 3, none⟩ (.int .u64 x'.r.out)) ⟨g, j * 6 + 4, none⟩ (.slice x'.A x'.r.reads.length x'.c)) ⟨g, j * 6 + 5, none⟩ (.slice x'.B x'.r.writes.length x'.d)).heap.size = w2.heap.size := by simp [World.setCell]
            rw [hsz2]
            refine FrMR.far (w := w2) ?_ (fun b hb => HFar.out b (by omega))
            rcases List.mem_append.1 hy with hy | hy
            · exact (HFr.out y hy).below HB2.out (Nat.le_refl _) (Nat.le_refl _) HB2.out.size
            · rw [List.mem_singleton] at hy
              subst hy
              exact HF2.out
          · have := HSz.out
            have := HB2.out.size
            simp [World.setCell]
            omega
          · exact (((((((HB.out.trans (HB2.out.mono HB.out.size)).setCell hlt2.1 _).setCell hlt2.1 _).setCell hlt2.1 _).setCell hlt2.1 _).setCell hlt2.1 _).setCell hlt2.1 _)
      · have hj' : j = ms.length := by have := HK.out; omega
        have hlt : decide ((j : Int) < (ms.length : Int)) = false := by simpa using hj
        have hlt2 : decide (j < ms.length) = false := by simpa using hj
        have HFin := Lib.hid (show news ++ ms.drop j = news from by rw [hj', List.drop_length, List.append_nil])
        have HMt := Lib.hid (show news.map MR.r = ms.map MR.r from by have h := HM.out; rwa [hj', List.take_length] at h)
        have HLn := Lib.hid (show news.length = ms.length from HN.out.trans hj')
        clear hj'
        go_wp2_with fail
        go_ret
        refine ⟨news, _, rfl, HMt.out, ?_, fun x hx => (HFr.out x hx).wide (Nat.le_trans HB1.out.size (Nat.le_refl _)), HB.out⟩
        have h := HBl.out.own
        rw [HFin.out, HLn.out] at h
        exact h
end Go.Proofs.Ytjkmodfbbiojmaa
