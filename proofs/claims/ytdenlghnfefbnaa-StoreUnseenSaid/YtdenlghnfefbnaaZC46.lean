import Derived.Test.YtdenlghnfefbnaaZC14
import Derived.Deep.LoopGhost
import Derived.Deep.DeepCutAuto
import Derived.Lib.MinMax
import Derived.Deep.RegionHeld3
/-
  The walk of StoreUnseen.
-/
namespace Go.Proofs.Ytdenlghnfefbnaa
open Go.RowKit

/-- What two stores tell that nobody can tell apart. -/
theorem like_does {L : LimS} {low : Nat} {s x : PS} (h : LikeS low s x) (o : OpS) (hl : o.low = low) (ht : low ≤ o.tm) :
    (o.what = 1 → LikeS low (doesS L s o).1 x) ∧ (o.what ≠ 1 → LikeS low (doesS L s o).1 (doesS L x o).1 ∧ (o.what ≠ 2 → (doesS L s o).2 = (doesS L x o).2) ∧
      (o.what = 2 → (doesS L s o).2.e = (doesS L x o).2.e ∧ (doesS L s o).2.b = (doesS L x o).2.b ∧ (doesS L s o).2.is = (doesS L x o).2.is ∧ (doesS L s o).2.scan = (doesS L x o).2.scan)) := by
  subst hl
  unfold doesS
  refine ⟨fun h1 => ?_, fun h1 => ?_⟩
  · rw [if_neg (by omega), if_pos h1]
    exact h.collect
  · by_cases h0 : o.what = 0
    · rw [if_pos h0, if_pos h0]
      obtain ⟨e1, e2⟩ := h.commit (L := L) o.l
      refine ⟨e2, fun _ => by rw [e1], fun h2 => by omega⟩
    · rw [if_neg h0, if_neg h0, if_neg h1, if_neg h1]
      by_cases h2 : o.what = 2
      · rw [if_pos h2, if_pos h2]
        exact ⟨h, fun h3 => absurd h2 h3, fun _ => ⟨rfl, by rw [h.read ht], by rw [h.read ht], rfl⟩⟩
      · rw [if_neg h2, if_neg h2]
        by_cases h3 : o.what = 3
        · rw [if_pos h3, if_pos h3]
          exact ⟨h, fun _ => by rw [h.scan ht], fun h4 => absurd h4 h2⟩
        · rw [if_neg h3, if_neg h3]
          exact ⟨h, fun _ => rfl, fun h4 => absurd h4 h2⟩
/-- Two stores that share nothing, which nobody can tell apart from low on. -/
def TwoS (St : InStore) (w W : World) (p : Nat) (F : Nat → Prop) (q : Nat) (G : Nat → Prop) (L : LimS) (s x : PS) (low : Nat) : Prop :=
  NewS St w W p F L s ∧ NewS St w W q G L x ∧ (∀ k, G k → ¬ F k) ∧ LikeS low s x
theorem NewS.other {St : InStore} (K : StoreC St) {w W W' : World} {q : Nat} {F G : Nat → Prop} {L : LimS} {x : PS} (h : NewS St w W q G L x) (hm : Mut F W W') (hF : ∀ k, F k → w.heap.size ≤ k) (hd : ∀ k, G k → ¬ F k) : NewS St w W' q G L x :=
  ⟨h.below.trans (hm.below h.below.size hF), K.keep h.st fun k hk => hm.block k (K.upto h.st k hk) (hd k hk), h.new⟩
namespace storeUnseen
set_option maxRecDepth 100000 in
set_option maxHeartbeats 16000000 in
theorem walk {St : InStore} (K : StoreC St) (L : LimS) (m r v : Int) (a : List OpS) (A : Option Addr) (c : Nat) (w : World) (ha : ChO w w.heap.size A c a) (h1 : I64 L.keys) (h2 : I64 L.vers) (h3 : I64 L.byts) (h4 : L.last < 18446744073709551616) :
    Calls Try.prog 7 #[limVal L m r v, .slice A a.length c] w fun r w' => r = .returned (.bool true) ∧ Below w.heap.size w w' := by
  obtain ⟨keys, vers, byts, last⟩ := L
  simp only at h1 h2 h3 h4
  obtain ⟨w0, hw0⟩ : ∃ y, w.alloc (.cells #[.int .i64 keys, .int .i64 vers, .int .i64 byts, .int .i64 m, .int .i64 r, .int .i64 v, .int .u64 last] 24) = y := ⟨_, rfl⟩
  have b0 : Below w.heap.size w w0 := by rw [← hw0]; exact (Below.refl _ w).alloc (Nat.le_refl _) _
  have s0 : w0.heap.size = w.heap.size + 1 := by rw [← hw0]; simp
  have x0 : w0.heap[w.heap.size]? = some (.cells #[.int .i64 keys, .int .i64 vers, .int .i64 byts, .int .i64 m, .int .i64 r, .int .i64 v, .int .u64 last] 24 (0, 0)) := by rw [← hw0]; exact heap_alloc_new w _
  have HLim : Hid (∀ W, Below w0.heap.size w0 W → W.cell? ⟨w.heap.size, 0, none⟩ = some (.int .i64 keys) ∧ W.cell? ⟨w.heap.size, 1, none⟩ = some (.int .i64 vers) ∧ W.cell? ⟨w.heap.size, 2, none⟩ = some (.int .i64 byts) ∧ W.cell? ⟨w.heap.size, 3, none⟩ = some (.int .i64 m) ∧ W.cell? ⟨w.heap.size, 4, none⟩ = some (.int .i64 r) ∧ W.cell? ⟨w.heap.size, 5, none⟩ = some (.int .i64 v) ∧ W.cell? ⟨w.heap.size, 6, none⟩ = some (.int .u64 last)) := Lib.hid fun W h => by
    have hx := heap_below x0 h (by omega)
    exact ⟨cell_of_row W _ 0 _ _ _ hx, cell_of_row W _ 1 _ _ _ hx, cell_of_row W _ 2 _ _ _ hx, cell_of_row W _ 3 _ _ _ hx, cell_of_row W _ 4 _ _ _ hx, cell_of_row W _ 5 _ _ _ hx, cell_of_row W _ 6 _ _ _ hx⟩
  have HLimB : Hid (∀ W, Below w0.heap.size w0 W → W.cell? ⟨w.heap.size, 0, none⟩ = some (.int .i64 keys) ∧ W.cell? ⟨w.heap.size, 1, none⟩ = some (.int .i64 vers) ∧ W.cell? ⟨w.heap.size, 2, none⟩ = some (.int .i64 byts) ∧ W.cell? ⟨w.heap.size, 3, none⟩ = some (.int .i64 m) ∧ W.cell? ⟨w.heap.size, 4, none⟩ = some (.int .i64 r) ∧ W.cell? ⟨w.heap.size, 5, none⟩ = some (.int .i64 v) ∧ W.cell? ⟨w.heap.size, 6, none⟩ = some (.int .u64 last) ∧ Below w0.heap.size w0 W) := Lib.hid fun W h => by
    obtain ⟨z0, z1, z2, z3, z4, z5, z6⟩ := HLim.out W h
    exact ⟨z0, z1, z2, z3, z4, z5, z6, h⟩
  have ha0 : ChO w0 w.heap.size A c a := ha.below b0 (Nat.le_refl _) (Nat.le_refl _)
  have HL := Lib.hid (live_from K w0)
  have HFA := Lib.hid (few_from (ha.below b0 (Nat.le_refl _) b0.size))
  have hb6 := Below.refl w0.heap.size w0
  have HB0 := Lib.hid b0
  have HZ0 := Lib.hid b0.size
  have HW0 := Lib.hid hw0
  clear b0 s0 x0 hw0
  unfold limVal
  simp only
  by_cases fa : fewO a = true
  · rw [fa] at HFA
    obtain ⟨fwa, fla⟩ := fewO_yes fa
    have HRA := Lib.hid ha0.2.2.2
    have HWA := Lib.hid fwa
    have HK := Lib.hid K
    have hal : a.length ≤ 9223372036854775807 := by omega
    by_cases hm : MayS ⟨keys, vers, byts, last⟩ = true
    · have HMd : Hid (∀ wx, Below w0.heap.size w0 wx → Calls Try.prog 28 #[.agg #[.int .i64 keys, .int .i64 vers, .int .i64 byts, .int .i64 m, .int .i64 r, .int .i64 v, .int .u64 last]] wx fun r w' => ∃ p F, r = .returned (ptrS p) ∧ NewS St w0 w' p F ⟨keys, vers, byts, last⟩ ⟨0, []⟩ ∧ (∀ k, F k → wx.heap.size ≤ k) ∧ Below wx.heap.size wx w') := Lib.hid fun wx hb =>
        (made_any K ⟨keys, vers, byts, last⟩ m r v wx h1 h2 h3 h4).mono fun _ _ q => by
          rw [if_pos hm] at q
          obtain ⟨hb2, p, F, e, hst, hF⟩ := q
          exact ⟨p, F, e, ⟨hb.trans (hb2.mono hb.size), hst, fun k hk => Nat.le_trans hb.size (hF k hk)⟩, hF, hb2⟩
      clear ha ha0 fa fla fwa hm h1 h2 h3
      go_enter Try.func7, Try.ntmps7
      go_upto_region 1 with fail
      rw [HW0.out]
      clear HW0
      go_wp2_with (first
        | (go_at_call 10; (with_reducible refine (HL.out _ (by assumption)).mono ?_); rintro r w' ⟨rfl, hb6⟩)
        | (go_at_call 11; (with_reducible refine (HFA.out _ (by assumption)).mono ?_); rintro r w' ⟨rfl, hb6⟩; obtain ⟨z0, z1, z2, z3, z4, z5, z6⟩ := HLim.out _ hb6))
      have mk1 : True := trivial
      go_region_held3 (fun W => W.cell? ⟨w.heap.size, 0, none⟩ = some (.int .i64 keys) ∧ W.cell? ⟨w.heap.size, 1, none⟩ = some (.int .i64 vers) ∧ W.cell? ⟨w.heap.size, 2, none⟩ = some (.int .i64 byts) ∧ W.cell? ⟨w.heap.size, 3, none⟩ = some (.int .i64 m) ∧ W.cell? ⟨w.heap.size, 4, none⟩ = some (.int .i64 r) ∧ W.cell? ⟨w.heap.size, 5, none⟩ = some (.int .i64 v) ∧ W.cell? ⟨w.heap.size, 6, none⟩ = some (.int .u64 last) ∧ Below w0.heap.size w0 W)
        (first | with_reducible exact HLimB.out _ hb6 | with_reducible exact HLimB.out _ hb6.drew | with_reducible exact HLimB.out _ HN1.out.below | with_reducible exact HLimB.out _ hn2.below)
        ((first
          | (go_at_call 28; clear mk1; refine (HMd.out _ (by go_split_ands; assumption)).mono ?_; rintro r w5 ⟨p, F, rfl, hn1, hF1, hb5⟩; have HN1 := Lib.hid hn1; clear hn1)
          | (go_at_call 28; refine (HMd.out _ HN1.out.below).mono ?_; rintro r w6 ⟨px, G, rfl, hn2, hG2, hb6'⟩)))
      have hn := HN1.out.next K hb6'
      have hdis : ∀ k, G k → ¬ F k := fun k hg hf => by
        have h1 := hG2 k hg
        have h2 := K.upto HN1.out.st k hf
        omega
      have hnx : NewS St w0 w6 px G ⟨keys, vers, byts, last⟩ ⟨0, []⟩ ∧ ∀ k, G k → ¬ F k := ⟨hn2, hdis⟩
      clear hn2 hG2 hb6' hdis
      unfold ptrS
      go_wp2_with fail
      have HN5 := Lib.hid hn
      have HN6 := Lib.hid hnx
      clear hn hnx hb6
      go_loopg [7, 35] a.length (fun q vl i wr => ∃ (j low : Nat) (s x : PS) (F G : Nat → Prop), j + q = a.length ∧ i = .int .i64 j ∧ vl = .int .u64 low ∧ TwoS St w0 wr p F px G ⟨keys, vers, byts, last⟩ s x low)
      case atStart => exact ⟨0, 0, ⟨0, []⟩, ⟨0, []⟩, F, G, by omega, rfl, rfl, HN5.out, HN6.out.1, HN6.out.2, ok_none, ok_none, rfl, Nat.le_refl _, rfl⟩
      case round =>
        obtain ⟨j, low, s, x, F, G, hk, rfl, rfl, hn⟩ := hrel
        have HJ := Lib.hid hk
        have HN := Lib.hid hn
        have HUpA := Lib.hid (Nat.le_trans HZ0.out hn.1.below.size)
        clear hk hn
        by_cases hj : j < a.length
        · have hlt : decide ((j : Int) < (a.length : Int)) = true := by simpa using hj
          have hlt2 : decide (j < a.length) = true := by simpa using hj
          obtain ⟨b0, o0, A', c', rfl, hbl, c0, c1, c2, c3, c4, c5, hok⟩ := HRA.out.at_ hj
          have hcl : ∀ q : Nat, wr.cell? ⟨b0, q, none⟩ = w0.cell? ⟨b0, q, none⟩ := fun q => HN.out.1.below.cell (p := ⟨b0, q, none⟩) (Nat.lt_of_lt_of_le hbl HZ0.out)
          rw [← hcl] at c0 c1 c2 c3 c4 c5
          clear hcl hbl
          have hw := HWA.out _ (List.getElem_mem hj)
          generalize a[j] = x at *
          obtain ⟨what, ws, olow, otm, klo, khi⟩ := x
          simp only at c0 c1 c2 c3 c4 c5 hw
          have hba := (Below.refl _ wr).alloc (Nat.le_refl _) (.cells #[.int .i64 what, .slice A' ws.length c', .int .u64 olow, .int .u64 otm, .string (bs klo), .string (bs khi)] 39)
          obtain ⟨w1, hw1⟩ : ∃ y, wr.alloc (.cells #[.int .i64 what, .slice A' ws.length c', .int .u64 olow, .int .u64 otm, .string (bs klo), .string (bs khi)] 39) = y := ⟨_, rfl⟩
          have HW1 := Lib.hid hw1
          have hx1 := heap_alloc_new wr (.cells #[.int .i64 what, .slice A' ws.length c', .int .u64 olow, .int .u64 otm, .string (bs klo), .string (bs khi)] 39)
          rw [hw1] at hba hx1
          have HX1 := Lib.hid hx1
          have HB1 := Lib.hid hba
          have HUpS := Lib.hid (HK.out.upto HN.out.1.st)
          have HUpX := Lib.hid (HK.out.upto HN.out.2.1.st)
          obtain ⟨t, ht⟩ : ∃ t, s.time = t := ⟨_, rfl⟩
          have ht64 : t < 18446744073709551616 := by
            have h1 := (HK.out.okay HN.out.1.st).2.1.2
            have h2 := (HK.out.okay HN.out.1.st).2.2.2.2
            omega
          have HNow : Hid (∀ W, Below w1.heap.size w1 W → Calls Try.prog 17 #[.pointer (some ⟨p, 0, none⟩)] W fun r w' => r = .returned (.int .u64 t) ∧ Below w1.heap.size w1 w') := Lib.hid fun W hb => (HK.out.now p F _ s W ((HN.out.1.next HK.out hba).next HK.out hb).st).mono fun _ _ q => ⟨by rw [← ht]; exact q.1, hb.trans (q.2.mono hb.size)⟩
          have KEEP : Hid (∀ W, Below w1.heap.size w1 W → W.cell? ⟨wr.heap.size, 2, none⟩ = some (.int .u64 olow) ∧ Below w1.heap.size w1 W) := Lib.hid fun W hb => ⟨cell_of_row W _ 2 _ _ _ (heap_below hx1 hb (lt_of_heap hx1)), hb⟩
          obtain ⟨mn, hmn⟩ : ∃ n, min olow t = n := ⟨_, rfl⟩
          obtain ⟨low2, hl2⟩ : ∃ n, max low mn = n := ⟨_, rfl⟩
          obtain ⟨tm2, ht2⟩ : ∃ n, max low2 otm = n := ⟨_, rfl⟩
          have hm1 : min (olow : Int) (t : Int) = (mn : Int) := by omega
          have hm2 : max (low : Int) (mn : Int) = (low2 : Int) := by omega
          have hm3 : max (low2 : Int) (otm : Int) = (tm2 : Int) := by omega
          have hlow64 : low2 < 18446744073709551616 := by have := hok.2.1; have := HN.out.2.2.2.upto; omega
          have htm64 : tm2 < 18446744073709551616 := by have := hok.2.2.1; simp only at this; omega
          have HLike := Lib.hid (HN.out.2.2.2.up (low' := low2) (by omega) (by have := HN.out.2.2.2.upto; omega))
          have hge : low2 ≤ tm2 := by omega
          have HGe := Lib.hid hge
          have hok2 : OkMO w0 w.heap.size ⟨⟨what, ws, low2, tm2, klo, khi⟩, A', c'⟩ := ⟨hok.1, hlow64, htm64, hok.2.2.2.1, hok.2.2.2.2.1, hok.2.2.2.2.2⟩
          have HDo : Hid (∀ (q : Nat) (F' : Nat → Prop) (st : PS) (W : World), NewS St w0 W q F' ⟨keys, vers, byts, last⟩ st → Calls Try.prog 15 #[.pointer (some ⟨q, 0, none⟩), .agg #[.int .i64 what, .slice A' ws.length c', .int .u64 low2, .int .u64 tm2, .string (bs klo), .string (bs khi)]] W (DidQ St w0 W q F' ⟨keys, vers, byts, last⟩ st ⟨what, ws, low2, tm2, klo, khi⟩)) := Lib.hid fun q F' st W hn => does_from HK.out hn ⟨what, ws, low2, tm2, klo, khi⟩ A' c' hw.1 hw.2.1 hw.2.2 (hok2.below hn.below HZ0.out HZ0.out)
          have HLd := Lib.hid (like_does (L := ⟨keys, vers, byts, last⟩) HLike.out ⟨what, ws, low2, tm2, klo, khi⟩ rfl hge)
          clear ht hba hx1 hw1 hok hok2 hw hmn hl2 ht2 hge hlow64 htm64
          go_upto_region 10 with fail
          rw [HW1.out]
          clear HW1 c0 c1 c2 c3 c4 c5
          obtain ⟨y2, _⟩ := KEEP.out w1 (Below.refl _ _)
          go_region_held3 (fun W => W.cell? ⟨wr.heap.size, 2, none⟩ = some (.int .u64 olow) ∧ Below w1.heap.size w1 W)
            (first | with_reducible exact KEEP.out _ hb2 | with_reducible exact KEEP.out _ (Below.refl _ _).drew)
            ((go_at_call 17; refine (HNow.out _ (by go_split_ands; assumption)).mono ?_; rintro r w2 ⟨rfl, hb2⟩))
          have HB2 := Lib.hid hb2
          have hx2 := heap_below HX1.out hb2 (lt_of_heap HX1.out)
          have f2 := frozen_of hx2 2
          have f3 := frozen_of hx2 3
          have v2 := cell_of_row w2 _ 2 _ _ _ hx2
          have v3 := cell_of_row w2 _ 3 _ _ _ hx2
          obtain ⟨w3, hw3⟩ : ∃ y, (w2.setCell ⟨wr.heap.size, 2, none⟩ (.int .u64 low2)).setCell ⟨wr.heap.size, 3, none⟩ (.int .u64 tm2) = y := ⟨_, rfl⟩
          have hx3 : w3.heap[wr.heap.size]? = some (.cells #[.int .i64 what, .slice A' ws.length c', .int .u64 low2, .int .u64 tm2, .string (bs klo), .string (bs khi)] 39 (0, 0)) := by rw [← hw3]; simp [World.setCell, Array.getElem?_modify, hx2]
          have hm3' : Mut (fun k => k = wr.heap.size) w2 w3 := by rw [← hw3]; exact (mut_cell w2 ⟨wr.heap.size, 2, none⟩ _).trans (mut_cell _ ⟨wr.heap.size, 3, none⟩ _) (fun _ h => .inl h)
          have HW3 := Lib.hid hw3
          have HX3 := Lib.hid hx3
          have hw0s : w0.heap.size ≤ wr.heap.size := HN.out.1.below.size
          have HNs3 := Lib.hid (((HN.out.1.next HK.out HB1.out).next HK.out hb2).other HK.out hm3' (fun k hk => by subst hk; exact hw0s) (fun k hk e => by have := HUpS.out k hk; omega))
          have HNx3 := Lib.hid (((HN.out.2.1.next HK.out HB1.out).next HK.out hb2).other HK.out hm3' (fun k hk => by subst hk; exact hw0s) (fun k hk e => by have := HUpX.out k hk; omega))
          have HB3 : Hid (Below wr.heap.size wr w3) := Lib.hid ((HB1.out.trans (hb2.mono HB1.out.size)).trans (hm3'.below (Nat.le_trans HB1.out.size hb2.size) (fun k hk => by subst hk; exact Nat.le_refl _)))
          clear hb2 hx2 hx3 hm3' hw3 y2
          go_upto_region 12 with fail
          rw [HW3.out]
          clear HW3 f2 f3 v2 v3
          have y0 := cell_of_row w3 _ 0 _ _ _ HX3.out
          have y1 := cell_of_row w3 _ 1 _ _ _ HX3.out
          have y2 := cell_of_row w3 _ 2 _ _ _ HX3.out
          have y3 := cell_of_row w3 _ 3 _ _ _ HX3.out
          have y4 := cell_of_row w3 _ 4 _ _ _ HX3.out
          have y5 := cell_of_row w3 _ 5 _ _ _ HX3.out
          go_wp2_with fail
          refine (HDo.out p F s w3 HNs3.out).mono ?_
          rintro r w4 ⟨A4, B4, c4, d4, lo4, hi4, F4, rfl, ht4, hl4, hh4, ho4, hn4, hm4, hf4⟩
          generalize hsd : doesS ⟨keys, vers, byts, last⟩ s ⟨what, ws, low2, tm2, klo, khi⟩ = ds at *
          obtain ⟨s', ta⟩ := ds
          simp only at ht4 hn4 HLd
          have HN4 := Lib.hid hn4
          have HNx4 := Lib.hid (HNx3.out.other HK.out hm4 HNs3.out.new HN.out.2.2.1)
          have hdis4 : ∀ k, G k → ¬ F4 k := fun k hg hf => by
            rcases hf4 k hf with h | h
            · exact HN.out.2.2.1 k hg h
            · have := HUpX.out k hg; have := HB3.out.size; omega
          have hx4 : w4.heap[wr.heap.size]? = _ := (hm4.block _ (lt_of_heap HX3.out) (fun hk => by have := HUpS.out _ hk; omega)).trans HX3.out
          have hba5 := (Below.refl _ w4).alloc (Nat.le_refl _) (.cells #[.int .u64 ta.n, .int .i64 ta.e, .slice A4 ta.b.length c4, .bool ta.is, .slice B4 ta.scan.length d4] 44)
          obtain ⟨w5, hw5⟩ : ∃ y, w4.alloc (.cells #[.int .u64 ta.n, .int .i64 ta.e, .slice A4 ta.b.length c4, .bool ta.is, .slice B4 ta.scan.length d4] 44) = y := ⟨_, rfl⟩
          have hx5 := heap_alloc_new w4 (.cells #[.int .u64 ta.n, .int .i64 ta.e, .slice A4 ta.b.length c4, .bool ta.is, .slice B4 ta.scan.length d4] 44)
          rw [hw5] at hba5 hx5
          have HZ4 : Hid (wr.heap.size < w4.heap.size) := Lib.hid (Nat.lt_of_lt_of_le (lt_of_heap HX3.out) hm4.size)
          have HT4 := Lib.hid (And.intro ht4 (And.intro (Nat.le_trans HB3.out.size hl4) hh4))
          have HDis := Lib.hid hdis4
          have HX4 := Lib.hid ((hba5.block _ (lt_of_heap hx4)).trans hx4)
          have HX5 := Lib.hid hx5
          have HB5 := Lib.hid hba5
          have HNs5 := Lib.hid (HN4.out.next HK.out hba5)
          have HNx5 := Lib.hid (HNx4.out.next HK.out hba5)
          have HW5 := Lib.hid hw5
          clear ht4 hl4 hh4 ho4 hn4 hm4 hf4 hdis4 hx4 hba5 hx5 hw5 hsd y0 y1 y2 y3 y4 y5
          unfold toldVal
          go_upto_region 13 with fail
          rw [HW5.out]
          clear HW5
          have y0 := cell_of_row w5 _ 0 _ _ _ HX4.out
          by_cases k1 : what = 1
          · have e1 : (what == 1) = true := by rw [k1]; rfl
            have HLk := Lib.hid (HLd.out.1 k1)
            clear k1
            go_wp2_with fail
            go_roundg (gk - 1)
            case measure => have := HJ.out; omega
            case rel => exact ⟨j + 1, low2, s', x, F4, G, by have := HJ.out; omega, by go_num, rfl, HNs5.out, HNx5.out, HDis.out, HLk.out⟩
          · have e1 : (what == 1) = false := by rw [beq_eq_false_iff_ne]; exact k1
            have HNot := Lib.hid k1
            have y1 := cell_of_row w5 _ 1 _ _ _ HX4.out
            have y2 := cell_of_row w5 _ 2 _ _ _ HX4.out
            have y3 := cell_of_row w5 _ 3 _ _ _ HX4.out
            have y4 := cell_of_row w5 _ 4 _ _ _ HX4.out
            have y5 := cell_of_row w5 _ 5 _ _ _ HX4.out
            clear k1
            go_wp2_with fail
            refine (HDo.out px G x w5 HNx5.out).mono ?_
            rintro r w6 ⟨A6, B6, c6, d6, lo6, hi6, G6, rfl, ht6, hl6, hh6, ho6, hn6, hm6, hf6⟩
            generalize hxd : doesS ⟨keys, vers, byts, last⟩ x ⟨what, ws, low2, tm2, klo, khi⟩ = dx at *
            obtain ⟨x', tb⟩ := dx
            simp only at ht6 hn6 HLd
            have HN6b := Lib.hid hn6
            have l4 : wr.heap.size < w4.heap.size := by
              have h1 := lt_of_heap HX4.out
              have h2 := lt_of_heap HX5.out
              have h3 := HB5.out.size
              have h4 := HT4.out.2.1
              have := HZ4.out
              omega
            have l5 : w4.heap.size < w5.heap.size := lt_of_heap HX5.out
            have l6 : w5.heap.size ≤ w6.heap.size := hm6.size
            have gup : ∀ k, G k → k < wr.heap.size := HUpX.out
            have fup : ∀ k, F4 k → k < w4.heap.size := HK.out.upto HN4.out.st
            have HNs6 := Lib.hid (HNs5.out.other HK.out hm6 HNx5.out.new (fun k hf hg => HDis.out k hg hf))
            have HDis6 : Hid (∀ k, G6 k → ¬ F4 k) := Lib.hid fun k hg hf => by
              rcases hf6 k hg with h | h
              · exact HDis.out k h hf
              · have := fup k hf; omega
            have hx6o : w6.heap[wr.heap.size]? = _ := (hm6.block _ (lt_of_heap HX4.out) (fun hk => by have := gup _ hk; omega)).trans HX4.out
            have hx6a : w6.heap[w4.heap.size]? = _ := (hm6.block _ l5 (fun hk => by have := gup _ hk; omega)).trans HX5.out
            have ht4 : ToldIn w6 lo4 hi4 ta A4 c4 B4 d4 := HT4.out.1.keep fun g h1 h2 => by
              have h3 : g < w4.heap.size := Nat.lt_of_lt_of_le h2 HT4.out.2.2
              exact (hm6.block g (by omega) (fun hk => by have := gup _ hk; have := HT4.out.2.1; omega)).trans (HB5.out.block g h3)
            have hba7 := (Below.refl _ w6).alloc (Nat.le_refl _) (.cells #[.int .u64 tb.n, .int .i64 tb.e, .slice A6 tb.b.length c6, .bool tb.is, .slice B6 tb.scan.length d6] 44)
            obtain ⟨w7, hw7⟩ : ∃ y, w6.alloc (.cells #[.int .u64 tb.n, .int .i64 tb.e, .slice A6 tb.b.length c6, .bool tb.is, .slice B6 tb.scan.length d6] 44) = y := ⟨_, rfl⟩
            have hx7b := heap_alloc_new w6 (.cells #[.int .u64 tb.n, .int .i64 tb.e, .slice A6 tb.b.length c6, .bool tb.is, .slice B6 tb.scan.length d6] 44)
            rw [hw7] at hba7 hx7b
            have hx7o := (hba7.block _ (lt_of_heap hx6o)).trans hx6o
            have hx7a := (hba7.block _ (lt_of_heap hx6a)).trans hx6a
            have ta7 := ht4.keep (w' := w7) fun g h1 h2 => hba7.block g (by have := HT4.out.2.2; omega)
            have tb7 := ht6.keep (w' := w7) fun g h1 h2 => hba7.block g (Nat.lt_of_lt_of_le h2 hh6)
            have HNs7 := Lib.hid (HNs6.out.next HK.out hba7)
            have HNx7 := Lib.hid (HN6b.out.next HK.out hba7)
            have HTT := Lib.hid (And.intro ta7 tb7)
            have l7 : w6.heap.size < w7.heap.size := lt_of_heap hx7b
            have HLE := Lib.hid (And.intro l4 (And.intro l5 (And.intro l6 (And.intro l7 (And.intro hl6 hh6)))))
            have HX7 := Lib.hid (And.intro hx7o (And.intro hx7a hx7b))
            have G6up : Hid (∀ k, G6 k → (k < wr.heap.size ∨ w5.heap.size ≤ k) ∧ k < w6.heap.size) := Lib.hid fun k hk => ⟨(hf6 k hk).imp (gup k) id, HK.out.upto HN6b.out.st k hk⟩
            have F4up := Lib.hid fup
            obtain ⟨τ, hti⟩ : ∃ τ, s'.time = τ := ⟨_, rfl⟩
            have hti2 : x'.time = τ := by rw [← (HLd.out.2 HNot.out).1.time]; exact hti
            have HW7 := Lib.hid hw7
            clear ht4 ht6 hl6 hh6 ho6 hn6 hm6 hf6 hx6o hx6a hba7 hx7b hx7o hx7a ta7 tb7 hw7 hxd y0 y1 y2 y3 y4 y5 l4 l5 l6 l7 gup fup
            unfold toldVal
            go_upto_region 15 with fail
            rw [HW7.out]
            clear HW7
            have y0 := cell_of_row w7 _ 0 _ _ _ HX7.out.1
            have u0 := cell_of_row w7 _ 0 _ _ _ HX7.out.2.1
            have u1 := cell_of_row w7 _ 1 _ _ _ HX7.out.2.1
            have u2 := cell_of_row w7 _ 2 _ _ _ HX7.out.2.1
            have u3 := cell_of_row w7 _ 3 _ _ _ HX7.out.2.1
            have u4 := cell_of_row w7 _ 4 _ _ _ HX7.out.2.1
            have v0 := cell_of_row w7 _ 0 _ _ _ HX7.out.2.2
            have v1 := cell_of_row w7 _ 1 _ _ _ HX7.out.2.2
            have v2 := cell_of_row w7 _ 2 _ _ _ HX7.out.2.2
            have v3 := cell_of_row w7 _ 3 _ _ _ HX7.out.2.2
            have v4 := cell_of_row w7 _ 4 _ _ _ HX7.out.2.2
            by_cases k2 : what = 2
            · have e2 : (what == 2) = true := by rw [k2]; rfl
              have HQ := Lib.hid ((HLd.out.2 HNot.out).2.2 k2)
              have fu := frozen_of HX7.out.2.1 0
              have fv := frozen_of HX7.out.2.2 0
              have hx8a : ((w7.setCell ⟨w4.heap.size, 0, none⟩ (.int .u64 0)).setCell ⟨w6.heap.size, 0, none⟩ (.int .u64 0)).heap[w4.heap.size]? = some (.cells #[.int .u64 0, .int .i64 ta.e, .slice A4 ta.b.length c4, .bool ta.is, .slice B4 ta.scan.length d4] 44 (0, 0)) := by
                rw [box_farJ (by have := HLE.out; omega)]
                simp [World.setCell, Array.getElem?_modify, HX7.out.2.1]
              have hx8b : ((w7.setCell ⟨w4.heap.size, 0, none⟩ (.int .u64 0)).setCell ⟨w6.heap.size, 0, none⟩ (.int .u64 0)).heap[w6.heap.size]? = some (.cells #[.int .u64 0, .int .i64 tb.e, .slice A6 tb.b.length c6, .bool tb.is, .slice B6 tb.scan.length d6] 44 (0, 0)) := by
                have h0 : (w7.setCell ⟨w4.heap.size, 0, none⟩ (.int .u64 0)).heap[w6.heap.size]? = _ := (box_farJ (by have := HLE.out; omega) 0 (.int .u64 0)).trans HX7.out.2.2
                simp [World.setCell, Array.getElem?_modify] at h0 ⊢
                simp [h0]
              have hg0 : (w7.setCell ⟨w4.heap.size, 0, none⟩ (.int .u64 0)).heap[w6.heap.size]? = some (.cells #[.int .u64 tb.n, .int .i64 tb.e, .slice A6 tb.b.length c6, .bool tb.is, .slice B6 tb.scan.length d6] 44 (0, 0)) := (box_farJ (by have := HLE.out; omega) 0 (.int .u64 0)).trans HX7.out.2.2
              have gc := cell_of_row _ _ 0 _ _ _ hg0
              have gf := frozen_of hg0 0
              clear hg0
              obtain ⟨w8, hw8⟩ : ∃ y, (w7.setCell ⟨w4.heap.size, 0, none⟩ (.int .u64 0)).setCell ⟨w6.heap.size, 0, none⟩ (.int .u64 0) = y := ⟨_, rfl⟩
              have hm8 : Mut (fun k => k = w4.heap.size ∨ k = w6.heap.size) w7 w8 := by rw [← hw8]; exact ((mut_cell w7 ⟨w4.heap.size, 0, none⟩ _).wide (fun _ h => .inl h)).trans (mut_cell _ ⟨w6.heap.size, 0, none⟩ _) (fun _ h => .inl (.inr h))
              rw [hw8] at hx8a hx8b
              have hbase : w0.heap.size ≤ wr.heap.size := HN.out.1.below.size
              have HNs8 := Lib.hid (HNs7.out.other HK.out hm8 (fun k hk => by have := HLE.out; omega) (fun k hf hk => by have := F4up.out k hf; have := HLE.out; omega))
              have HNx8 := Lib.hid (HNx7.out.other HK.out hm8 (fun k hk => by have := HLE.out; omega) (fun k hf hk => by have := G6up.out k hf; have := HLE.out; omega))
              have ta8 : ToldIn w8 lo4 hi4 ⟨0, ta.e, ta.b, ta.is, ta.scan⟩ A4 c4 B4 d4 := HTT.out.1.keep (w' := w8) fun g h1 h2 => hm8.block g (by have := HLE.out; have := HT4.out.2.2; omega) (by have := HLE.out; have := HT4.out.2.2; omega)
              have tb8 : ToldIn w8 lo6 hi6 ⟨0, tb.e, tb.b, tb.is, tb.scan⟩ A6 c6 B6 d6 := HTT.out.2.keep (w' := w8) fun g h1 h2 => hm8.block g (by have := HLE.out; omega) (by have := HLE.out; omega)
              have HSm := Lib.hid (sameT_any ⟨0, ta.e, ta.b, ta.is, ta.scan⟩ ⟨0, tb.e, tb.b, tb.is, tb.scan⟩ A4 B4 A6 B6 c4 d4 c6 d6 lo4 hi4 lo6 hi6 w8 ta8 tb8 (by have := hm8.size; have := HLE.out; have := HT4.out.2.2; omega) (by have := hm8.size; have := HLE.out; omega))
              rw [show sameT ⟨0, ta.e, ta.b, ta.is, ta.scan⟩ ⟨0, tb.e, tb.b, tb.is, tb.scan⟩ = true from (sameT_eq _ _).2 (by rw [HQ.out.1, HQ.out.2.1, HQ.out.2.2.1, HQ.out.2.2.2])] at HSm
              unfold toldVal at HSm
              simp only at HSm
              have HW8 := Lib.hid hw8
              have HX8 := Lib.hid (And.intro hx8a hx8b)
              clear ta8 tb8 hm8 hx8a hx8b hw8 k2
              go_upto_region 17 with fail
              rw [HW8.out]
              clear HW8 y0 u0 u1 u2 u3 u4 v0 v1 v2 v3 v4 fu fv gc gf
              have u0 := cell_of_row w8 _ 0 _ _ _ HX8.out.1
              have u1 := cell_of_row w8 _ 1 _ _ _ HX8.out.1
              have u2 := cell_of_row w8 _ 2 _ _ _ HX8.out.1
              have u3 := cell_of_row w8 _ 3 _ _ _ HX8.out.1
              have u4 := cell_of_row w8 _ 4 _ _ _ HX8.out.1
              have v0 := cell_of_row w8 _ 0 _ _ _ HX8.out.2
              have v1 := cell_of_row w8 _ 1 _ _ _ HX8.out.2
              have v2 := cell_of_row w8 _ 2 _ _ _ HX8.out.2
              have v3 := cell_of_row w8 _ 3 _ _ _ HX8.out.2
              have v4 := cell_of_row w8 _ 4 _ _ _ HX8.out.2
              go_wp2_with fail
              refine HSm.out.mono ?_
              rintro r w9 ⟨rfl, hb9⟩
              have HNs9 := Lib.hid (HNs8.out.next HK.out hb9)
              have HNx9 := Lib.hid (HNx8.out.next HK.out hb9)
              have HNo : Hid (Calls Try.prog 17 #[ptrS p] w9 fun r w' => r = .returned (.int .u64 τ) ∧ Below w9.heap.size w9 w') := Lib.hid ((HK.out.now p F4 _ s' w9 HNs9.out.st).mono fun _ _ q => ⟨by rw [← hti]; exact q.1, q.2⟩)
              unfold ptrS at HNo
              clear hb9 HSm
              go_wp2_with fail
              refine HNo.out.mono ?_
              rintro r w10 ⟨rfl, hb10⟩
              have HNs10 := Lib.hid (HNs9.out.next HK.out hb10)
              have HNx10 := Lib.hid (HNx9.out.next HK.out hb10)
              have HNo2 : Hid (Calls Try.prog 17 #[ptrS px] w10 fun r w' => r = .returned (.int .u64 τ) ∧ Below w10.heap.size w10 w') := Lib.hid ((HK.out.now px G6 _ x' w10 HNx10.out.st).mono fun _ _ q => ⟨by rw [← hti2]; exact q.1, q.2⟩)
              unfold ptrS at HNo2
              clear hb10 HNo
              go_wp2_with fail
              refine HNo2.out.mono ?_
              rintro r w11 ⟨rfl, hb11⟩
              have HNs11 := Lib.hid (HNs10.out.next HK.out hb11)
              have HNx11 := Lib.hid (HNx10.out.next HK.out hb11)
              clear hb11 HNo2
              go_wp2_with fail
              go_roundg (gk - 1)
              case measure => have := HJ.out; omega
              case rel => exact ⟨j + 1, low2, s', x', F4, G6, by have := HJ.out; omega, by go_num, rfl, HNs11.out, HNx11.out, HDis6.out, (HLd.out.2 HNot.out).1⟩
            · have e2 : (what == 2) = false := by rw [beq_eq_false_iff_ne]; exact k2
              have HQ := Lib.hid ((HLd.out.2 HNot.out).2.1 k2)
              have HSm := Lib.hid (sameT_any ⟨ta.n, ta.e, ta.b, ta.is, ta.scan⟩ ⟨tb.n, tb.e, tb.b, tb.is, tb.scan⟩ A4 B4 A6 B6 c4 d4 c6 d6 lo4 hi4 lo6 hi6 w7 HTT.out.1 HTT.out.2 (by have := HLE.out; have := HT4.out.2.2; omega) (by have := HLE.out; omega))
              rw [show sameT ⟨ta.n, ta.e, ta.b, ta.is, ta.scan⟩ ⟨tb.n, tb.e, tb.b, tb.is, tb.scan⟩ = true from (sameT_eq _ _).2 (by rw [HQ.out])] at HSm
              unfold toldVal at HSm
              simp only at HSm
              clear k2
              go_wp2_with fail
              refine HSm.out.mono ?_
              rintro r w9 ⟨rfl, hb9⟩
              have HNs9 := Lib.hid (HNs7.out.next HK.out hb9)
              have HNx9 := Lib.hid (HNx7.out.next HK.out hb9)
              have HNo : Hid (Calls Try.prog 17 #[ptrS p] w9 fun r w' => r = .returned (.int .u64 τ) ∧ Below w9.heap.size w9 w') := Lib.hid ((HK.out.now p F4 _ s' w9 HNs9.out.st).mono fun _ _ q => ⟨by rw [← hti]; exact q.1, q.2⟩)
              unfold ptrS at HNo
              clear hb9 HSm
              go_wp2_with fail
              refine HNo.out.mono ?_
              rintro r w10 ⟨rfl, hb10⟩
              have HNs10 := Lib.hid (HNs9.out.next HK.out hb10)
              have HNx10 := Lib.hid (HNx9.out.next HK.out hb10)
              have HNo2 : Hid (Calls Try.prog 17 #[ptrS px] w10 fun r w' => r = .returned (.int .u64 τ) ∧ Below w10.heap.size w10 w') := Lib.hid ((HK.out.now px G6 _ x' w10 HNx10.out.st).mono fun _ _ q => ⟨by rw [← hti2]; exact q.1, q.2⟩)
              unfold ptrS at HNo2
              clear hb10 HNo
              go_wp2_with fail
              refine HNo2.out.mono ?_
              rintro r w11 ⟨rfl, hb11⟩
              have HNs11 := Lib.hid (HNs10.out.next HK.out hb11)
              have HNx11 := Lib.hid (HNx10.out.next HK.out hb11)
              clear hb11 HNo2
              go_wp2_with fail
              go_roundg (gk - 1)
              case measure => have := HJ.out; omega
              case rel => exact ⟨j + 1, low2, s', x', F4, G6, by have := HJ.out; omega, by go_num, rfl, HNs11.out, HNx11.out, HDis6.out, (HLd.out.2 HNot.out).1⟩
        · have hlt : decide ((j : Int) < (a.length : Int)) = false := by simpa using hj
          obtain ⟨t, ht⟩ : ∃ t, s.time = t := ⟨_, rfl⟩
          have ht64 : t < 18446744073709551616 := by
            have h1 := (HK.out.okay HN.out.1.st).2.1.2
            have h2 := (HK.out.okay HN.out.1.st).2.2.2.2
            omega
          have hsc : scanS s.K [] [] t = scanS x.K [] [] t := HN.out.2.2.2.scan (by rw [← ht]; exact HN.out.2.2.2.upto) [] []
          have HNow : Hid (∀ W, NewS St w0 W p F ⟨keys, vers, byts, last⟩ s → NewS St w0 W px G ⟨keys, vers, byts, last⟩ x → Calls Try.prog 17 #[.pointer (some ⟨p, 0, none⟩)] W fun r w' => r = .returned (.int .u64 t) ∧ NewS St w0 w' p F ⟨keys, vers, byts, last⟩ s ∧ NewS St w0 w' px G ⟨keys, vers, byts, last⟩ x ∧ Below W.heap.size W w') := Lib.hid fun W h1 h2 => (HK.out.now p F _ s W h1.st).mono fun _ _ q => ⟨by rw [← ht]; exact q.1, h1.next HK.out q.2, h2.next HK.out q.2, q.2⟩
          have HScS : Hid (∀ W, NewS St w0 W p F ⟨keys, vers, byts, last⟩ s → NewS St w0 W px G ⟨keys, vers, byts, last⟩ x → Calls Try.prog 31 #[.pointer (some ⟨p, 0, none⟩), .string ⟨#[]⟩, .string ⟨#[]⟩, .int .u64 t] W fun r w' => ∃ A c, r = .returned (.slice A (scanS s.K [] [] t).length c) ∧ ChP w' W.heap.size w'.heap.size A c (scanS s.K [] [] t) ∧ NewS St w0 w' p F ⟨keys, vers, byts, last⟩ s ∧ NewS St w0 w' px G ⟨keys, vers, byts, last⟩ x ∧ Below W.heap.size W w') := Lib.hid fun W h1 h2 => (HK.out.scan p F _ s [] [] t W h1.st (by simp) (by simp) ht64).mono fun _ _ ⟨A, c, e, k1, k2⟩ => ⟨A, c, e, k1, h1.next HK.out k2, h2.next HK.out k2, k2⟩
          have HScX : Hid (∀ W, NewS St w0 W px G ⟨keys, vers, byts, last⟩ x → Calls Try.prog 31 #[.pointer (some ⟨px, 0, none⟩), .string ⟨#[]⟩, .string ⟨#[]⟩, .int .u64 t] W fun r w' => ∃ A c, r = .returned (.slice A (scanS s.K [] [] t).length c) ∧ ChP w' W.heap.size w'.heap.size A c (scanS s.K [] [] t) ∧ Below W.heap.size W w') := Lib.hid fun W h2 => by
            rw [hsc]
            exact HK.out.scan px G _ x [] [] t W h2.st (by simp) (by simp) ht64
          generalize scanS s.K [] [] t = sp at *
          clear ht ht64 hsc
          go_wp2_with fail
          refine (HNow.out wr HN.out.1 HN.out.2.1).mono ?_
          rintro r w2 ⟨rfl, hs2, hx2, _⟩
          have HS2 := Lib.hid (And.intro hs2 hx2)
          clear hs2 hx2
          go_wp2_with fail
          refine (HScS.out w2 HS2.out.1 HS2.out.2).mono ?_
          rintro r w3 ⟨A3, c3, rfl, hp3, hs3, hx3, _⟩
          have HS3 := Lib.hid (And.intro hs3 hx3)
          have HP3 := Lib.hid hp3
          clear hs3 hx3 hp3
          go_wp2_with fail
          refine (HNow.out w3 HS3.out.1 HS3.out.2).mono ?_
          rintro r w4 ⟨rfl, hs4, hx4, hb4⟩
          have HS4 := Lib.hid (And.intro hs4 hx4)
          have HB4 := Lib.hid hb4
          clear hs4 hx4 hb4
          go_wp2_with fail
          refine (HScX.out w4 HS4.out.2).mono ?_
          rintro r w5 ⟨A5, c5, rfl, hp5, hb5⟩
          have hspl : sp.length ≤ 9223372036854775807 := by have := hp5.1; have := hp5.2.1; unfold maxLen at *; omega
          have hk3 := HP3.out.keep (w' := w5) fun g _ h2 => (hb5.block g (Nat.lt_of_lt_of_le h2 HB4.out.size)).trans (HB4.out.block g h2)
          have HSm := Lib.hid (samePairs_any sp sp A3 A5 c3 c5 _ _ _ _ w5 hspl hspl hk3.2.2.2 hp5.2.2.2)
          rw [show sameP sp sp = true from by unfold sameP; simp] at HSm
          have HB5 := Lib.hid (HS4.out.1.below.trans (hb5.mono HS4.out.1.below.size))
          clear hk3 hp5 hb5
          go_wp2_with fail
          refine HSm.out.mono ?_
          rintro r w6 ⟨rfl, hb6⟩
          have HB6 := Lib.hid (HB0.out.trans ((HB5.out.trans (hb6.mono HB5.out.size)).mono HB0.out.size))
          clear hb6
          go_wp2_with fail
          go_ret
          exact ⟨rfl, HB6.out⟩
    · have HMd : Hid (∀ wx, Below w0.heap.size w0 wx → Calls Try.prog 28 #[.agg #[.int .i64 keys, .int .i64 vers, .int .i64 byts, .int .i64 m, .int .i64 r, .int .i64 v, .int .u64 last]] wx fun r w' => r = .returned (.pointer none) ∧ Below w0.heap.size w0 w') := Lib.hid fun wx hb =>
        (made_any K ⟨keys, vers, byts, last⟩ m r v wx h1 h2 h3 h4).mono fun _ _ q => by
          rw [if_neg hm] at q
          exact ⟨q.2, hb.trans (q.1.mono hb.size)⟩
      have HMay : Hid (∀ wx, Below w0.heap.size w0 wx → Calls Try.prog 13 #[.agg #[.int .i64 keys, .int .i64 vers, .int .i64 byts, .int .i64 m, .int .i64 r, .int .i64 v, .int .u64 last]] wx fun r w' => r = .returned (.bool false) ∧ Below w0.heap.size w0 w') := Lib.hid fun wx hb =>
        (may_any ⟨keys, vers, byts, last⟩ m r v wx).mono fun _ _ q => by
          rw [show MayS ⟨keys, vers, byts, last⟩ = false by simpa using hm] at q
          exact ⟨q.1, hb.trans (q.2.mono hb.size)⟩
      clear K ha ha0 fa fla fwa hm h1 h2 h3
      go_enter Try.func7, Try.ntmps7
      go_upto_region 1 with fail
      rw [HW0.out]
      clear HW0
      go_wp2_with (first
        | (go_at_call 10; (with_reducible refine (HL.out _ (by assumption)).mono ?_); rintro r w' ⟨rfl, hb6⟩)
        | (go_at_call 11; (with_reducible refine (HFA.out _ (by assumption)).mono ?_); rintro r w' ⟨rfl, hb6⟩; obtain ⟨z0, z1, z2, z3, z4, z5, z6⟩ := HLim.out _ hb6))
      have mk1 : True := trivial
      go_region_held3 (fun W => W.cell? ⟨w.heap.size, 0, none⟩ = some (.int .i64 keys) ∧ W.cell? ⟨w.heap.size, 1, none⟩ = some (.int .i64 vers) ∧ W.cell? ⟨w.heap.size, 2, none⟩ = some (.int .i64 byts) ∧ W.cell? ⟨w.heap.size, 3, none⟩ = some (.int .i64 m) ∧ W.cell? ⟨w.heap.size, 4, none⟩ = some (.int .i64 r) ∧ W.cell? ⟨w.heap.size, 5, none⟩ = some (.int .i64 v) ∧ W.cell? ⟨w.heap.size, 6, none⟩ = some (.int .u64 last) ∧ Below w0.heap.size w0 W)
        (first | with_reducible exact HLimB.out _ hb6 | with_reducible exact HLimB.out _ hb6.drew | with_reducible exact HLimB.out _ hb7 | with_reducible exact HLimB.out _ hb8)
        ((first
          | (go_at_call 28; clear mk1; refine (HMd.out _ (by go_split_ands; assumption)).mono ?_; rintro r w5 ⟨rfl, hb7⟩)
          | (go_at_call 28; refine (HMd.out _ hb7).mono ?_; rintro r w6 ⟨rfl, hb8⟩)))
      obtain ⟨z0, z1, z2, z3, z4, z5, z6⟩ := HLim.out _ hb8
      go_wp2_with fail
      refine (HMay.out _ hb8).mono ?_
      rintro r w7 ⟨rfl, hb9⟩
      go_wp2_with fail
      go_ret
      exact ⟨rfl, HB0.out.trans (hb9.mono HB0.out.size)⟩
  · rw [show fewO a = false by simpa using fa] at HFA
    clear K ha ha0 fa h1 h2 h3
    go_enter Try.func7, Try.ntmps7
    go_upto_region 1 with fail
    rw [HW0.out]
    clear HW0
    go_wp2_with (first
      | (go_at_call 10; (with_reducible refine (HL.out _ (by assumption)).mono ?_); rintro r w' ⟨rfl, hb6⟩)
      | (go_at_call 11; (with_reducible refine (HFA.out _ (by assumption)).mono ?_); rintro r w' ⟨rfl, hb6⟩))
    go_ret
    exact ⟨rfl, HB0.out.trans (hb6.mono HB0.out.size)⟩
end storeUnseen
end Go.Proofs.Ytdenlghnfefbnaa
