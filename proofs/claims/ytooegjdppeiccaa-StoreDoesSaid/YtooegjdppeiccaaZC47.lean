import Derived.Test.YtooegjdppeiccaaZC46
import Derived.Test.YtooegjdppeiccaaZC14
import Derived.Lib.SmallJoins
import Derived.Deep.Slices
import Derived.Deep.Fields
import Derived.ChangeSame
import Derived.OpenShut
import Derived.ChangeOld
/-
  Package store answers as it has to: the contracts.
-/
namespace Go.Proofs.Ytooegjdppeiccaa
open Go.RowKit

theorem scanR_list (g : KeyS → List Ver) (lo hi : KeyS) (t : Nat) : ∀ (l : KsS), (∀ x ∈ l, g x.1 = x.2) → ((l.map Prod.fst).filter (inS lo hi)).filterMap (pairOf g t) = l.filterMap (scanOne lo hi t)
  | [], _ => rfl
  | x :: l, h => by
    have ih := scanR_list g lo hi t l fun y hy => h y (List.mem_cons_of_mem _ hy)
    have hx := h x (List.mem_cons_self ..)
    rw [List.map_cons, List.filter_cons, List.filterMap_cons]
    have e : scanOne lo hi t x = if inS lo hi x.1 = true then pairOf g t x.1 else none := by unfold scanOne pairOf; rw [hx]
    rw [e]
    by_cases hi' : inS lo hi x.1 = true
    · rw [if_pos hi', if_pos hi', List.filterMap_cons, ih]
    · rw [if_neg hi', if_neg hi', ih]
theorem scanR_eq {K : KsS} (h : SortS K) (lo hi : KeyS) (t : Nat) : scanR (chainS K) (K.map Prod.fst) lo hi t = scanS K lo hi t :=
  scanR_list (chainS K) lo hi t K fun _ hx => chainS_mem h hx
theorem storeC : StoreC StD where
  keep := fun h hk => by
    obtain ⟨D, B, kv, cv, m, r, v, h1, h2⟩ := h
    exact ⟨D, B, kv, cv, m, r, v, h1.keep hk, h2⟩
  upto := fun h k hk => by
    obtain ⟨D, B, kv, cv, m, r, v, h1, h2⟩ := h
    exact h1.lt k hk
  okay := fun h => by
    obtain ⟨D, B, kv, cv, m, r, v, h1, h2, h3, h4, h5, h6, h7⟩ := h
    exact ⟨h2, h3, h4, h5, h6⟩
  check := fun l lo hi A c w hl hr hhi => dCheck8_any l lo hi A c w (by have := hl.1; omega) hr.2.2.2 hhi
  new := fun L m r v w _ _ _ hlast => (dNew_any L m r v w).mono fun e w' ⟨hb, h⟩ => by
    refine ⟨hb, ?_⟩
    by_cases hm : MayS L = true
    · rw [if_pos hm] at h ⊢
      obtain ⟨p, F, D, B, rfl, hraw, hF⟩ := h
      exact ⟨p, F, rfl, ⟨D, B, _, _, m, r, v, hraw, ok_none, in_none hm, hm, (fun _ hx => by cases hx), hlast, alt_none⟩, hF⟩
    · rw [if_neg hm] at h ⊢
      exact h
  now := fun p F L st w h => by
    obtain ⟨D, B, kv, cv, m, r, v, h1, _⟩ := h
    exact (dNow_any h1).mono fun e w' ⟨he, hw⟩ => ⟨he, by rw [hw]; exact Below.refl _ _⟩
  count := fun p F L st w h => by
    obtain ⟨D, B, kv, cv, m, r, v, h1, _⟩ := h
    exact dCount_any h1
  latest := fun p F L st k w h hk => by
    obtain ⟨D, B, kv, cv, m, r, v, h1, h2, h3, h4, _⟩ := h
    exact (dLatest_any h1 k (by have := ((small_of h4 h3).ok k).1; omega)).mono fun e w' ⟨he, hw⟩ => ⟨he, by rw [hw]; exact Below.refl _ _⟩
  read := fun p F L st k t w h hk ht => by
    obtain ⟨D, B, kv, cv, m, r, v, h1, h2, h3, h4, _⟩ := h
    exact (dRead_any h1 k t ((small_of h4 h3).ok k) (h2.rightC k)).mono fun e w' h => h
  scan := fun p F L st lo hi t w h hlo hhi ht => by
    obtain ⟨D, B, kv, cv, m, r, v, h1, h2, h3, h4, _⟩ := h
    have hs := small_of h4 h3
    have hd := dScan_any h1 lo hi t (by rw [List.length_map]; exact hs.len) (sort_rise h2.sort) (fun k => ⟨hs.ok k, h2.rightC k⟩)
    rw [scanR_eq h2.sort] at hd
    exact hd
  chain := fun p F L st k w h hk => by
    obtain ⟨D, B, kv, cv, m, r, v, h1, h2, h3, h4, _⟩ := h
    refine (dChain_any h1 k ((small_of h4 h3).ok k) (h2.rightC k)).mono fun e w' h => ?_
    obtain ⟨A, c, he, hc, hb⟩ := h.ch
    exact ⟨A, c, he, hc.1, hc.2.1, hc.2.2.1, hc.2.2.2, hb⟩
  keys := fun p F L st w h => by
    obtain ⟨D, B, kv, cv, m, r, v, h1, h2, h3, h4, _⟩ := h
    refine (dKeys_any h1 (by rw [List.length_map]; exact (small_of h4 h3).len)).mono fun e w' h => ?_
    obtain ⟨v', rfl, ho, hb⟩ := h
    obtain ⟨A, c, rfl, k1, k2, k3, k4⟩ := OwnG.form ho
    rw [List.length_map] at k1
    exact ⟨A, c, by rw [List.length_map], k1, k2, k3, k4, hb⟩
  commit := fun p F L st l lo hi A c low w h hl hr hhi hsep hlow => dCommit_any p F L st l lo hi A c low w h hl hr hhi hsep
  collect := fun p F L st low w h hlow => by
    obtain ⟨D, B, kv, cv, m, r, v, h1, h2, h3, h4, h5, h6, h7⟩ := h
    refine (dCollect_any st low h1 h2 (small_of h4 h3) h7 h5).mono fun e w' ⟨he, F', D', kv', cv', hr, hm, hf⟩ => ?_
    exact ⟨he, F', ⟨D', B, kv', cv', m, r, v, hr, okS_collect h2 low, ⟨fits_collect h2.sort h2.full low h3.1, h3.2⟩, h4, keys_collect h5 low, h6, alt_collect h2 h7 low⟩, hm, hf⟩
end Go.Proofs.Ytooegjdppeiccaa

/-
  Arguments of the statements on stores, opened: slices of operations, limits, texts, times.
-/
namespace Go.Proofs.Ytooegjdppeiccaa
open Go.Joins Go.ChangeShapes Go.WideShapes Go.ChangeAt Go.RowKit Go.Deep

theorem laidOutJ : laidOutB Try.prog = true := by kernel_rfl
theorem cellsWriteJ : Try.prog.cellsOf 84 = 3 := by kernel_rfl
theorem cellsOpJ : Try.prog.cellsOf 39 = 6 := by kernel_rfl
theorem cellsLimJ : Try.prog.cellsOf 24 = 7 := by kernel_rfl
theorem cellsU64J : Try.prog.cellsOf 22 = 1 := by kernel_rfl
theorem cellsIntJ : Try.prog.cellsOf 3 = 1 := by kernel_rfl
theorem cellsBoolJ : Try.prog.cellsOf 4 = 1 := by kernel_rfl
theorem cellsStrJ : Try.prog.cellsOf 9 = 1 := by kernel_rfl
theorem cellsBytesJ : Try.prog.cellsOf 41 = 1 := by kernel_rfl
theorem cellsWritesJ : Try.prog.cellsOf 37 = 1 := by kernel_rfl
theorem u64_natJ {z : Int} (h : (Lit.int .u64 z).wf = true) : ∃ n : Nat, z = (n : Int) ∧ n < 18446744073709551616 := by
  simp [Lit.wf, IntKind.min, IntKind.max, IntKind.bits, IntKind.signed] at h
  exact ⟨z.toNat, by omega, by omega⟩
theorem i64_inJ {a : Int} (h : (Lit.int .i64 a).wf = true) : I64 a := by
  simp [Lit.wf, IntKind.min, IntKind.max, IntKind.bits, IntKind.signed] at h
  exact ⟨by omega, by omega⟩
theorem bs_len {s : ByteArray} (h : s.size ≤ maxLen) : s.data.toList.length ≤ maxLen := h
section
variable {H : Type} {enc : TypeId × Value → H} {W : World}
theorem bytes_cellJ {fuel : Nat} {cs : List Value} {y : DataW H × List MemPlace} (h : DataW.trod enc Try.prog W 0 (fun _ => true) true fuel 41 cs = some y) : ∃ A c, ∃ l : List UInt8, cs = [.slice A l.length c] ∧ SlI W 0 W.heap.size A c l := by
  rcases open_ints Try.underlying41 Try.underlying5 (by kernel_rfl) h with ⟨hcs, _⟩ | ⟨x, n, c, zs, hcs, _, hl, hm, hz, _, hcell, hwz⟩
  · exact ⟨none, 0, [], hcs, SlI.none_ _ _ _⟩
  · obtain ⟨l, rfl, h1, h2, h3, h4⟩ := bytes_in (w := W) (a := some x) (len := n) (cap := c) (zs := zs) (.inr ⟨_, rfl, hl, hm, by simpa using hz, hcell, hwz⟩)
    exact ⟨some x, c, l, hcs, h1, h2, h3, h4⟩
theorem write_cells {fuel : Nat} {cs : List Value} {y : DataW H × List MemPlace} (hlen0 : cs.length = 3) (h : DataW.trod enc Try.prog W 0 (fun _ => true) true fuel 84 cs = some y) : ∃ x : MW, cs = mwCells x ∧ OkMW W 0 W.heap.size x := by
  match cs, hlen0 with
  | [c0, c1, c2], _ =>
    obtain ⟨xs, n, _, hx, _, hlen, hg⟩ := DataW.trod_struct Try.underlying84 h
    have g0 := hg 0 _ rfl
    have g1 := hg 1 _ rfl
    have g2 := hg 2 _ rfl
    match xs, hlen with
    | [y0, y1, y2], _ =>
      simp [cellsStrJ, cellsBoolJ, cellsBytesJ] at g0 g1 g2
      obtain ⟨s, e0, _, hs⟩ := DataW.trod_string Try.underlying9 g0
      obtain ⟨b, e1, _⟩ := DataW.trod_bool Try.underlying4 g1
      obtain ⟨A, c, l, e2, hl⟩ := bytes_cellJ g2
      simp at e0 e1 e2
      exact ⟨⟨⟨s.data.toList, b, l⟩, A, c⟩, by rw [e0, e1, e2]; simp only [mwCells]; rw [← bs_of], bs_len hs, hl⟩
theorem writes_cell {fuel : Nat} {v : Value} {y : DataW H × List MemPlace} (h : DataW.trod enc Try.prog W 0 (fun _ => true) true fuel 37 [v] = some y) :
    ∃ (A : Option Addr) (c : Nat) (l : List Wr), v = .slice A l.length c ∧ ChW W 0 W.heap.size A c l := by
  obtain ⟨A, c, ms, e, _, h2, h3, h4, h5, h6⟩ := rowsG_in mwF Try.underlying37 cellsWriteJ (p := fun x => OkMW W 0 W.heap.size x) (fun _ _ _ hl ht => write_cells hl ht) h
  exact ⟨A, c, ms.map MW.w, by rw [List.length_map]; exact e, by rw [List.length_map]; exact h3, h4, h5, ms, rfl, h6, h2⟩
theorem op_cells {fuel : Nat} {cs : List Value} {y : DataW H × List MemPlace} (hlen0 : cs.length = 6) (h : DataW.trod enc Try.prog W 0 (fun _ => true) true fuel 39 cs = some y) : ∃ x : MO, cs = moCells x ∧ OkMO W W.heap.size x := by
  match cs, hlen0 with
  | [c0, c1, c2, c3, c4, c5], _ =>
    obtain ⟨xs, n, _, hx, _, hlen, hg⟩ := DataW.trod_struct Try.underlying39 h
    have g0 := hg 0 _ rfl
    have g1 := hg 1 _ rfl
    have g2 := hg 2 _ rfl
    have g3 := hg 3 _ rfl
    have g4 := hg 4 _ rfl
    have g5 := hg 5 _ rfl
    match xs, hlen with
    | [y0, y1, y2, y3, y4, y5], _ =>
      simp [cellsStrJ, cellsIntJ, cellsU64J, cellsWritesJ] at g0 g1 g2 g3 g4 g5
      obtain ⟨k, e0, _, hk⟩ := DataW.trod_int Try.underlying3 g0
      obtain ⟨A, c, l, e1, hl⟩ := writes_cell g1
      obtain ⟨n2, e2, _, h2⟩ := DataW.trod_int Try.underlying22 g2
      obtain ⟨n3, e3, _, h3⟩ := DataW.trod_int Try.underlying22 g3
      obtain ⟨s4, e4, _, h4⟩ := DataW.trod_string Try.underlying9 g4
      obtain ⟨s5, e5, _, h5⟩ := DataW.trod_string Try.underlying9 g5
      obtain ⟨low, rfl, hlow⟩ := u64_natJ h2
      obtain ⟨tm, rfl, htm⟩ := u64_natJ h3
      simp at e0 e2 e3 e4 e5
      exact ⟨⟨⟨k, l, low, tm, s4.data.toList, s5.data.toList⟩, A, c⟩, by rw [e0, e1, e2, e3, e4, e5]; simp only [moCells]; rw [← bs_of, ← bs_of], i64_inJ hk, hlow, htm, bs_len h4, bs_len h5, hl⟩
theorem ops_in {fuel : Nat} {v : Value} {y : DataW H × List MemPlace} (h : DataW.trod enc Try.prog W 0 (fun _ => true) true fuel 25 [v] = some y) :
    ∃ (A : Option Addr) (c : Nat) (l : List OpS), v = .slice A l.length c ∧ ChO W W.heap.size A c l := by
  obtain ⟨A, c, ms, e, _, h2, h3, h4, h5, h6⟩ := rowsG_in moF Try.underlying25 cellsOpJ (p := fun x => OkMO W W.heap.size x) (fun _ _ _ hl ht => op_cells hl ht) h
  exact ⟨A, c, ms.map MO.o, by rw [List.length_map]; exact e, by rw [List.length_map]; exact h3, h4, h5, ms, rfl, h6, h2⟩
set_option maxRecDepth 100000 in
theorem lim_in {r : Reach} {b0 : Nat} {v : Value} {d : DataW H} {p : List MemPlace} (hv : Value.okWide Try.prog W r b0 24 v) (h : DataW.Trod enc Try.prog W 0 (fun _ => true) true 24 v d p) :
    ∃ (L : LimS) (m r v' : Int), v = limVal L m r v' ∧ I64 L.keys ∧ I64 L.vers ∧ I64 L.byts ∧ L.last < 18446744073709551616 := by
  obtain ⟨cs, rfl, hsz⟩ := okWide_struct Try.underlying24 hv
  obtain ⟨l⟩ := cs
  match l, hsz.trans cellsLimJ with
  | [c0, c1, c2, c3, c4, c5, c6], _ =>
    obtain ⟨fuel, hf⟩ := h
    have hf : DataW.trod enc Try.prog W 0 (fun _ => true) true fuel 24 [c0, c1, c2, c3, c4, c5, c6] = some (d, p) := by simpa [Value.cells] using hf
    obtain ⟨xs, n, _, hx, _, hlen, hg⟩ := DataW.trod_struct Try.underlying24 hf
    have g0 := hg 0 _ rfl
    have g1 := hg 1 _ rfl
    have g2 := hg 2 _ rfl
    have g3 := hg 3 _ rfl
    have g4 := hg 4 _ rfl
    have g5 := hg 5 _ rfl
    have g6 := hg 6 _ rfl
    match xs, hlen with
    | [y0, y1, y2, y3, y4, y5, y6], _ =>
      simp [cellsIntJ, cellsU64J] at g0 g1 g2 g3 g4 g5 g6
      obtain ⟨k0, e0, _, h0⟩ := DataW.trod_int Try.underlying3 g0
      obtain ⟨k1, e1, _, h1⟩ := DataW.trod_int Try.underlying3 g1
      obtain ⟨k2, e2, _, h2⟩ := DataW.trod_int Try.underlying3 g2
      obtain ⟨k3, e3, _, _⟩ := DataW.trod_int Try.underlying3 g3
      obtain ⟨k4, e4, _, _⟩ := DataW.trod_int Try.underlying3 g4
      obtain ⟨k5, e5, _, _⟩ := DataW.trod_int Try.underlying3 g5
      obtain ⟨k6, e6, _, h6⟩ := DataW.trod_int Try.underlying22 g6
      obtain ⟨last, rfl, hlast⟩ := u64_natJ h6
      simp at e0 e1 e2 e3 e4 e5 e6
      exact ⟨⟨k0, k1, k2, last⟩, k3, k4, k5, by rw [e0, e1, e2, e3, e4, e5, e6]; rfl, i64_inJ h0, i64_inJ h1, i64_inJ h2, hlast⟩
end
end Go.Proofs.Ytooegjdppeiccaa
