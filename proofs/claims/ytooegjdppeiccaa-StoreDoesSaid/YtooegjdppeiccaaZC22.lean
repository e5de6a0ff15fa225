import Derived.Test.YtooegjdppeiccaaZC21
import Derived.Test.YtooegjdppeiccaaZC13
import Derived.Deep.RegionHeld
import Derived.Deep.RegionWith
/-
  Stores, plainly: collecting key by key; a put, with where the elements lie.
-/
namespace Go.Proofs.Ytooegjdppeiccaa
open Go.RowKit

theorem putM_k (os : List MOne) (x : MOne) : (putM os x).map MOne.k = putS (os.map MOne.k) x.key (x.ms.map MV.v) := by
  unfold putM putS midM
  rw [List.map_append, List.map_append, List.filter_map, List.filter_map]
  congr 2
  by_cases h : x.ms.length = 0
  · have e : x.ms = [] := List.length_eq_zero_iff.1 h
    rw [if_pos h, e]
    rfl
  · have e : (x.ms.map MV.v).isEmpty = false := by
      cases hx : x.ms with
      | nil => exact absurd (by rw [hx]; rfl) h
      | cons => rfl
    rw [if_neg h, e]
    rfl
theorem putM_mem {os : List MOne} {x y : MOne} (h : y ∈ putM os x) : y ∈ os ∨ y = x := by
  unfold putM midM at h
  rw [List.mem_append, List.mem_append] at h
  rcases h with (h | h) | h
  · exact .inl (List.mem_filter.1 h).1
  · by_cases e : x.ms.length = 0
    · rw [if_pos e] at h; cases h
    · rw [if_neg e] at h
      exact .inr (List.mem_singleton.1 h)
  · exact .inl (List.mem_filter.1 h).1
theorem putM_len (os : List MOne) (x : MOne) : (putM os x).length ≤ 2 * os.length + 1 := by
  unfold putM midM
  have h1 := List.length_filter_le (fun y : MOne => blt y.key x.key) os
  have h2 := List.length_filter_le (fun y : MOne => blt x.key y.key) os
  rw [List.length_append, List.length_append]
  split
  · simp only [List.length_nil]; omega
  · simp only [List.length_singleton]; omega
def trimPut (low : Nat) (acc : KsS) (x : KeyS × List Ver) : KsS := putS acc x.1 (trimH x.2 low)
theorem fold_one (low : Nat) : ∀ (l acc : KsS), SortS l → FullS l → SortS acc → FullS acc →
    SortS (l.foldl (trimPut low) acc) ∧ FullS (l.foldl (trimPut low) acc) ∧ ∀ k, chainS (l.foldl (trimPut low) acc) k = if chainS l k = [] then chainS acc k else trimH (chainS l k) low
  | [], acc, _, _, h1, h2 => ⟨h1, h2, fun k => by rw [chainS_nil, if_pos rfl]; rfl⟩
  | x :: l, acc, hs, hf, h1, h2 => by
    have hs' := List.pairwise_cons.1 hs
    have hx : x.2 ≠ [] := hf x (List.mem_cons_self ..)
    obtain ⟨a, b, c⟩ := fold_one low l (trimPut low acc x) hs'.2 (fun y hy => hf y (List.mem_cons_of_mem _ hy)) (sort_put h1 _ _) (full_put h2 _ _)
    refine ⟨a, b, fun k => ?_⟩
    rw [List.foldl_cons, c k, chainS_cons]
    by_cases e : x.1 = k
    · subst e
      have hn : chainS l x.1 = [] := chainS_no fun y hy e2 => by
        have := hs'.1 y hy
        rw [e2, blt_self] at this
        cases this
      rw [if_pos hn, if_pos rfl, if_neg hx]
      unfold trimPut
      rw [chain_put h1 h2, if_pos rfl]
    · rw [if_neg e]
      by_cases e2 : chainS l k = []
      · rw [if_pos e2, if_pos e2]
        unfold trimPut
        rw [chain_put h1 h2, if_neg (fun h => e h.symm)]
      · rw [if_neg e2, if_neg e2]
theorem fold_trim {K : KsS} (h : SortS K) (hf : FullS K) (low : Nat) : K.foldl (trimPut low) K = collectS K low := by
  obtain ⟨a, b, c⟩ := fold_one low K K h hf h hf
  refine store_ext a (sort_collect h low) b (full_collect K low) fun k => ?_
  rw [c k, chain_collect h low k]
  by_cases e : chainS K k = []
  · rw [if_pos e, e]
    rfl
  · rw [if_neg e]
end Go.Proofs.Ytooegjdppeiccaa

/-
  Stores, the document's own answers: a store's rows exchanged; Collect.
-/
namespace Go.Proofs.Ytooegjdppeiccaa
open Go.RowKit

theorem putS_len (K : KsS) (k : KeyS) (c : List Ver) : (putS K k c).length ≤ K.length + 1 := by
  have h : (K.filter (fun x => blt x.1 k)).length + (K.filter (fun x => blt k x.1)).length ≤ K.length := by
    induction K with
    | nil => exact Nat.le_refl _
    | cons x K ih =>
      rw [List.filter_cons, List.filter_cons, List.length_cons]
      cases h1 : blt x.1 k with
      | true =>
        rw [blt_asymm h1]
        simp only [if_true, List.length_cons, Bool.false_eq_true, if_false]
        omega
      | false =>
        cases h2 : blt k x.1 <;> simp only [if_true, List.length_cons, Bool.false_eq_true, if_false] <;> omega
  unfold putS
  rw [List.length_append, List.length_append]
  split
  · simp only [List.length_nil]; omega
  · simp only [List.length_singleton]; omega
theorem foldTrim_len (low : Nat) : ∀ (l acc : KsS), (l.foldl (trimPut low) acc).length ≤ acc.length + l.length
  | [], acc => by simp
  | x :: l, acc => by
    have h := foldTrim_len low l (trimPut low acc x)
    have h2 : (trimPut low acc x).length ≤ acc.length + 1 := putS_len _ _ _
    rw [List.foldl_cons, List.length_cons]
    omega
section
variable {w w' w1 w2 : World} {p : Nat} {S T : Nat → Prop} {L : LimS} {m r v : Int} {time : Nat} {A A9 : Option Addr} {c c9 : Nat} {os : List MOne}
/-- The store's row exchanged for another one. -/
theorem RefM.store {ns : List MOne} (h : RefM w p S L m r v time A c os) (hb : Below w.heap.size w w') (hp : ¬ S p) (hl : ns.length ≤ c9) (hc : c9 ≤ maxLen) (hn : A9 = none → c9 = 0)
    (hr : RowS oneCells w' S A9 ns) (he : ∀ x ∈ ns, OneIn w' S x) :
    RefM (w'.setCell ⟨p, 8, none⟩ (.slice A9 ns.length c9)) p S L m r v time A9 c9 ns ∧ Mut (fun k => k = p) w (w'.setCell ⟨p, 8, none⟩ (.slice A9 ns.length c9)) := by
  have hbx := heap_below h.box hb h.lt
  have hk : ∀ g, S g → g < w'.heap.size → (w'.setCell ⟨p, 8, none⟩ (.slice A9 ns.length c9)).heap[g]? = w'.heap[g]? ∧ S g := fun g hg _ => ⟨Below.heap_setCell _ _ _ g (fun e => hp (by have e2 : g = p := e; rw [← e2]; exact hg)), hg⟩
  refine ⟨⟨?_, hl, hc, hn, hr.keep oneF hk, fun x hx => (he x hx).keep hk⟩, ((Below.mut hb fun k => k = p).trans (mut_cell w' ⟨p, 8, none⟩ _) (fun k hk => .inl hk))⟩
  simp [World.setCell, Array.getElem?_modify, hbx]
theorem RefM.put {x : MOne} (h : RefM w p S L m r v time A c os) (hb1 : Below w.heap.size w w1) (hx : OneIn w1 S x) (hb2 : Below w1.heap.size w1 w2) (hS : ∀ b, w.heap.size ≤ b → S b) (hp : ¬ S p)
    (hl : (putM os x).length ≤ c9) (hc : c9 ≤ maxLen) (hn : A9 = none → c9 = 0) (hr : RowG oneCells w2 w1.heap.size w2.heap.size A9 (putM os x)) :
    RefM (w2.setCell ⟨p, 8, none⟩ (.slice A9 (putM os x).length c9)) p S L m r v time A9 c9 (putM os x) ∧ Mut (fun k => k = p) w (w2.setCell ⟨p, 8, none⟩ (.slice A9 (putM os x).length c9)) := by
  have hb : Below w.heap.size w w2 := hb1.trans (hb2.mono hb1.size)
  refine h.store hb hp hl hc hn (RowS.of_new hr fun g hg => hS g (Nat.le_trans hb1.size hg)) fun y hy => ?_
  rcases putM_mem hy with hy | hy
  · exact (h.each y hy).keep fun g hg hlt => ⟨hb.block g hlt, hg⟩
  · subst hy
    exact hx.keep fun g hg hlt => ⟨hb2.block g hlt, hg⟩
theorem OneIn.of_new {ns : List MV} {key : KeyS} (hl : ns.length ≤ c9) (hc : c9 ≤ maxLen) (hn : A9 = none → c9 = 0) {lo hi : Nat} (hr : RowG mvCells w' lo hi A9 ns) (hS : ∀ b, lo ≤ b → S b) (he : ∀ y ∈ ns, VerIn w' S y) :
    OneIn w' S ⟨key, A9, c9, ns⟩ := ⟨hl, hc, hn, RowS.of_new hr hS, he⟩
end
end Go.Proofs.Ytooegjdppeiccaa

/-
  Stores, the document's own answers: Collect.
-/
namespace Go.Proofs.Ytooegjdppeiccaa
open Go.RowKit

/-- A store of the document's in memory, by what it holds. -/
def RefS (w : World) (p : Nat) (S : Nat → Prop) (L : LimS) (st : PS) : Prop := ∃ m r v A c os, RefM w p S L m r v st.time A c os ∧ os.map MOne.k = st.K
set_option maxRecDepth 100000 in
theorem sizes_fieldR (x y z : Int) (w : World) : (Instr.field 49 (.agg #[.int .i64 x, .int .i64 y, .int .i64 z]) 1).run Try.prog w = .ok (.int .i64 y) w := by
  first
  | rfl
  | simp [Instr.field, run_underlying Try.underlying49, part, asAgg, go_sem]
theorem versS_mem : ∀ {K : KsS} {x : KeyS × List Ver}, x ∈ K → x.2.length ≤ versS K
  | [], _, h => by cases h
  | y :: K, x, h => by
    have e : versS (y :: K) = y.2.length + versS K := by unfold versS; rw [List.map_cons, List.sum_cons]
    rw [e]
    rcases List.mem_cons.1 h with h | h
    · rw [h]; omega
    · have := versS_mem h; omega
set_option maxRecDepth 100000 in
set_option maxHeartbeats 8000000 in
theorem refCollect_any (p : Nat) (S : Nat → Prop) (L : LimS) (m r v : Int) (time : Nat) (A : Option Addr) (c : Nat) (os : List MOne) (K : KsS) (low : Nat) (w : World) (h : RefM w p S L m r v time A c os) (hK : os.map MOne.k = K) (hp : ¬ S p) (hS : ∀ b, w.heap.size ≤ b → S b)
    (hso : SortS K) (hfu : FullS K) (hn : K.length ≤ 1048576) (hV : versS K ≤ 1048576) (hB : bytsS K ≤ 1048576) (hV2 : versS (collectS K low) ≤ versS K) (hB2 : bytsS (collectS K low) ≤ 1048576) :
    Calls Try.prog 66 #[ptrS p, .int .u64 low] w fun e w' => e = .returned (.int .i64 ((versS K - versS (collectS K low) : Nat) : Int)) ∧ (∃ A' c' os', RefM w' p S L m r v time A' c' os' ∧ os'.map MOne.k = collectS K low) ∧ Mut (fun k => k = p) w w' := by
  have hlo : os.length = K.length := by rw [← hK, List.length_map]
  have hfold := fold_trim hso hfu low
  have HCount : Hid (∀ W A' c' os', RefM W p S L m r v time A' c' os' → versS (os'.map MOne.k) ≤ 1048576 → bytsS (os'.map MOne.k) ≤ 1048576 → Calls Try.prog 20 #[.pointer (some ⟨p, 0, none⟩)] W fun e w' => e = .returned (.agg #[.int .i64 ((os'.map MOne.k).length : Nat), .int .i64 (versS (os'.map MOne.k) : Nat), .int .i64 (bytsS (os'.map MOne.k) : Nat)]) ∧ Below W.heap.size W w') := Lib.hid fun W A' c' os' h1 h2 h3 =>
    refCount_any p S L m r v time A' c' os' W h1 (Nat.le_trans h2 (by omega)) (Nat.le_trans h3 (by omega))
  have HH := Lib.hid h
  have HKK := Lib.hid hK
  have HP := Lib.hid hp
  have HS := Lib.hid hS
  have HFold := Lib.hid hfold
  have HVs := Lib.hid (And.intro hV (And.intro hB (And.intro hV2 hB2)))
  have HOk := Lib.hid (And.intro hn hlo)
  have HEach : Hid (∀ x ∈ os, x.ms.length ≤ 4294967296) := Lib.hid fun x hx => by
    have h1 : x.k.2.length ≤ versS K := versS_mem (by rw [← hK]; exact List.mem_map_of_mem hx)
    have h2 : x.k.2.length = x.ms.length := by unfold MOne.k; rw [List.length_map]
    omega
  clear h hK hp hS hfold hV hB hV2 hB2 hn hlo hso hfu
  unfold ptrS
  go_enter Try.func66, Try.ntmps66
  go_wp2_with fail
  refine (HCount.out w A c os HH.out (by rw [HKK.out]; exact HVs.out.1) (by rw [HKK.out]; exact HVs.out.2.1)).mono ?_
  rintro e w1 ⟨rfl, hb1⟩
  have HB1 := Lib.hid hb1
  have c8 := cell_of_row w1 p 8 _ _ _ (heap_below HH.out.box hb1 HH.out.lt)
  rw [HKK.out]
  have HOL := Lib.hid (show os.length ≤ 9223372036854775807 by have := HOk.out.1; have := HOk.out.2; omega)
  have hol := HOL.out
  have hfld := sizes_fieldR
  go_wp2_with fail
  go_loopg [16] os.length (fun q i wr => ∃ j : Nat, j + q = os.length ∧ i = .int .i64 j ∧ (∃ A' c' os', RefM wr p S L m r v time A' c' os' ∧ os'.map MOne.k = (K.take j).foldl (trimPut low) K) ∧ Mut (fun k => k = p) w wr)
  case atStart => exact ⟨0, by omega, rfl, ⟨A, c, os, HH.out.below HB1.out, HKK.out⟩, Below.mut HB1.out _⟩
  case round =>
    obtain ⟨j, hk, rfl, ⟨A1, c1, os1, hm1, hk1⟩, hmut⟩ := hrel
    have HK := Lib.hid hk
    have HM1 := Lib.hid hm1
    have HK1 := Lib.hid hk1
    have HMut := Lib.hid hmut
    clear hk hm1 hk1 hmut c8
    by_cases hj : j < os.length
    · have hlt : decide ((j : Int) < (os.length : Int)) = true := by simpa using hj
      have hlt2 : decide (j < os.length) = true := by simpa using hj
      have hkeep : ∀ g, S g → g < w.heap.size → wr.heap[g]? = w.heap[g]? ∧ S g := fun g hg hlt => ⟨HMut.out.block g hlt (fun e => HP.out (by have e2 : g = p := e; rw [← e2]; exact hg)), hg⟩
      obtain ⟨b, o, rfl, _, hbh, hcell⟩ := ((HH.out.row.keep oneF hkeep).rowG oneF).at_ oneF hj
      have d0 := hcell 0 _ rfl
      have d1 := hcell 1 _ rfl
      simp only [Nat.add_zero] at d0
      have HX := Lib.hid ((HH.out.each _ (List.getElem_mem hj)).keep hkeep)
      have HXL := Lib.hid (HEach.out _ (List.getElem_mem hj))
      have HStep := Lib.hid (show (K.take (j + 1)).foldl (trimPut low) K = trimPut low ((K.take j).foldl (trimPut low) K) (os[j]'hj).k by
        have hjK : j < K.length := by have := HOk.out.2; omega
        rw [List.take_succ_eq_append_getElem hjK, List.foldl_append]
        have e : K[j]'hjK = (os[j]'hj).k := by
          have := HKK.out
          subst this
          rw [List.getElem_map]
        rw [e]
        rfl)
      clear hcell hbh hkeep
      generalize os[j] = x at *
      obtain ⟨xk, xA, xc, xm⟩ := x
      simp only at d0 d1 HXL
      obtain ⟨wx, hwx⟩ : ∃ y, wr.alloc (.cells #[.string (bs xk), .slice xA xm.length xc] 98) = y := ⟨_, rfl⟩
      have hxx : wx.heap[wr.heap.size]? = some (.cells #[.string (bs xk), .slice xA xm.length xc] 98 (0, 0)) := by rw [← hwx]; exact heap_alloc_new wr _
      have hbx : Below wr.heap.size wr wx := by rw [← hwx]; exact (Below.refl _ wr).alloc (Nat.le_refl _) _
      have HM2 := Lib.hid (HM1.out.below hbx)
      have HXX := Lib.hid hxx
      have HBX := Lib.hid hbx
      have HX2 := Lib.hid (HX.out.keep (w' := wx) (T := S) fun g hg hlt => ⟨hbx.block g hlt, hg⟩)
      have HS2 : Hid (∀ b, wx.heap.size ≤ b → S b) := Lib.hid fun b hb => HS.out b (Nat.le_trans (Nat.le_trans HMut.out.size hbx.size) hb)
      have HTr : Hid (Calls Try.prog 95 #[.slice xA xm.length xc, .int .u64 low] wx.drew fun e w' => ∃ A2 c2 ns, e = .returned (.slice A2 ns.length c2) ∧ OneIn w' S ⟨xk, A2, c2, ns⟩ ∧ ns.map MV.v = trimH (xm.map MV.v) low ∧ Below wx.heap.size wx w' ∧ w'.heap[wr.heap.size]? = wx.heap[wr.heap.size]? ∧ w'.cell? ⟨p, 8, none⟩ = some (.slice A1 os1.length c1)) := Lib.hid (by
        have h1 := HX2.out
        have h2 := refTrimM xm (xm.map MV.v) rfl xA xc low wx.drew (by rw [List.length_map]; exact HXL.out) (h1.rowM)
        rw [List.length_map] at h2
        refine h2.mono ?_
        rintro e w' ⟨A2, c2, ns, rfl, hns, k1, k2, k3, k4, k5, k6⟩
        have hb : Below wx.heap.size wx w' := (Below.refl _ wx).drew.trans k6
        refine ⟨A2, c2, ns, by rw [← hns, List.length_map], OneIn.of_new k1 k2 k3 k4 (fun g hg => HS2.out g hg) (fun y hy => (h1.2.2.2.2 y (k5 y hy)).keep fun g hg hlt => ⟨hb.block g hlt, hg⟩), hns, hb, hb.block _ (lt_of_heap HXX.out), cell_of_row w' p 8 _ _ _ (heap_below HM2.out.box hb HM2.out.lt)⟩)
      have HPu : Hid (∀ W (y : MOne), Below wx.heap.size wx W → OneIn W S y → Calls Try.prog 94 #[.slice A1 os1.length c1, .agg #[.string (bs y.key), .slice y.A y.ms.length y.c]] W fun e w' => ∃ A9 c9, e = .returned (.slice A9 (putM os1 y).length c9) ∧ RefM (w'.setCell ⟨p, 8, none⟩ (.slice A9 (putM os1 y).length c9)) p S L m r v time A9 c9 (putM os1 y) ∧ Mut (fun k => k = p) w (w'.setCell ⟨p, 8, none⟩ (.slice A9 (putM os1 y).length c9)) ∧
          w'.heap[wr.heap.size]? = wx.heap[wr.heap.size]? ∧ (w'.setCell ⟨p, 8, none⟩ (.slice A9 (putM os1 y).length c9)).heap[wr.heap.size]? = wx.heap[wr.heap.size]? ∧ w'.cell? ⟨p, 8, none⟩ = some (.slice A1 os1.length c1) ∧ w'.frozen? ⟨p, 8, none⟩ = false) := Lib.hid fun W y hb hy => by
        have hl1 : os1.length ≤ 2097152 := by
          have h1 := foldTrim_len low (K.take j) K
          rw [← HK1.out, List.length_map, List.length_take] at h1
          have := HOk.out.1
          omega
        refine (refPutOne_any os1 A1 c1 W.heap.size y W hl1 ((HM2.out.below hb).row.rowG oneF) (Nat.le_refl _)).mono ?_
        rintro e w' ⟨A9, c9, rfl, k1, k2, k3, k4, k5⟩
        obtain ⟨g1, g2⟩ := HM2.out.put hb hy k5 HS2.out HP.out k1 k2 k3 k4
        have hb2 : Below wx.heap.size wx w' := hb.trans (k5.mono hb.size)
        have hbox := heap_below HM2.out.box hb2 HM2.out.lt
        have hne : wr.heap.size ≠ p := by have := HM1.out.lt; omega
        refine ⟨A9, c9, rfl, g1, (HMut.out.trans (Below.mut HBX.out _) (fun k hk => .inl hk)).trans g2 (fun k hk => .inl hk), hb2.block _ (lt_of_heap HXX.out), (Below.heap_setCell _ _ _ _ hne).trans (hb2.block _ (lt_of_heap HXX.out)), cell_of_row w' p 8 _ _ _ hbox, frozen_of hbox 8⟩
      have KEEP : Hid (∀ W : World, W.heap[wr.heap.size]? = wx.heap[wr.heap.size]? → W.cell? ⟨wr.heap.size, 0, none⟩ = some (.string (bs xk)) ∧ W.cell? ⟨wr.heap.size, 1, none⟩ = some (.slice xA xm.length xc)) := Lib.hid fun W hw => ⟨cell_of_row W _ 0 _ _ _ (hw.trans HXX.out), cell_of_row W _ 1 _ _ _ (hw.trans HXX.out)⟩
      obtain ⟨y0, y1⟩ := KEEP.out _ rfl
      have y8 := cell_of_row wx p 8 _ _ _ HM2.out.box
      clear hxx hbx
      go_wp2_with fail
      (try rw [hwx])
      clear hwx
      go_region_with ((first
        | (go_at_call 95; with_reducible refine HTr.out.mono ?_; rintro e w6 ⟨A2, c2, ns, rfl, ho2, hns, hb6, kq1, z8⟩; obtain ⟨x0, x1⟩ := KEEP.out _ kq1)
        | (go_at_call 94; with_reducible refine (HPu.out _ ⟨xk, A2, c2, ns⟩ hb6 ho2).mono ?_; rintro e w7 ⟨A9, c9, rfl, hm9, hmu9, kq2, kq3, u8, v8⟩)))
      all_goals
        have HZ := Lib.hid (And.intro hm9 hmu9)
        clear hm9 hmu9 kq1 kq2 kq3 hb6 ho2 u8 v8 y0 y1 y8 x0 x1 z8
        go_wp2
        go_roundg (gk - 1)
        case measure => have := HK.out; omega
        case rel => exact ⟨j + 1, by have := HK.out; omega, by go_num, ⟨A9, c9, _, HZ.out.1, by
          rw [putM_k, HK1.out, HStep.out]
          unfold trimPut MOne.k
          rw [← hns]⟩, HZ.out.2⟩
    · have hj' : j = os.length := by have := HK.out; omega
      have hlt : decide ((j : Int) < (os.length : Int)) = false := by simpa using hj
      have hlt2 : decide (j < os.length) = false := by simpa using hj
      have hKc : os1.map MOne.k = collectS K low := by
        rw [HK1.out, ← HFold.out, List.take_of_length_le (by have := HOk.out.2; omega)]
      have HC2 := Lib.hid (HCount.out wr A1 c1 os1 HM1.out (by rw [hKc]; have := HVs.out; omega) (by rw [hKc]; exact HVs.out.2.2.2))
      rw [hKc] at HC2
      have HKc := Lib.hid hKc
      have hle := HVs.out.2.2.1
      have hle2 := HVs.out.1
      clear hKc hj'
      have hwr : IntKind.i64.wrap ((versS K : Int) - (versS (collectS K low) : Int)) = ((versS K - versS (collectS K low) : Nat) : Int) := by
        rw [Int.ofNat_sub hle]
        exact IntWalk.i64_in _ ⟨by omega, by omega⟩
      clear hle hle2
      go_wp2_with fail
      refine HC2.out.mono ?_
      rintro e w9 ⟨rfl, hb9⟩
      have HZ9 := Lib.hid hb9
      clear hb9
      go_wp2_with fail
      go_ret
      exact ⟨rfl, ⟨A1, c1, os1, HM1.out.below HZ9.out, HKc.out⟩, HMut.out.trans (Below.mut HZ9.out _) (fun k hk => .inl hk)⟩
end Go.Proofs.Ytooegjdppeiccaa
