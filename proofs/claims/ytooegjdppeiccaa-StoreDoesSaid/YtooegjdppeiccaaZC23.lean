import Derived.Test.YtooegjdppeiccaaZC22
import Derived.Deep.RegionHeld3
/-
  Stores, the document's own answers: with.
-/
namespace Go.Proofs.Ytooegjdppeiccaa
open Go.RowKit

theorem put_add (l : List Ver) (v : Ver) : (putH l v).1 = addH l v := by
  unfold putH addH
  split
  · split <;> rfl
  · rfl
theorem with_len (st : PS) : ∀ (l : List Wr) (K : KsS), (l.foldl (withOne st) K).length ≤ K.length + l.length
  | [], K => by simp
  | x :: l, K => by
    have h := with_len st l (withOne st K x)
    have h2 : (withOne st K x).length ≤ K.length + 1 := by
      unfold withOne
      split
      · exact putS_len _ _ _
      · omega
    rw [List.foldl_cons, List.length_cons]
    omega
/-- A key's chain, as a slice. -/
theorem chain_in {w : World} {p : Nat} {S : Nat → Prop} {L : LimS} {m r v : Int} {time : Nat} {A : Option Addr} {c : Nat} {os : List MOne} (h : RefM w p S L m r v time A c os) (key : KeyS) :
    ∃ A0 c0 ms, chainVal (chainM os key) = .slice A0 ms.length c0 ∧ ms.map MV.v = chainS (os.map MOne.k) key ∧ OneIn w S ⟨key, A0, c0, ms⟩ := by
  rw [chainM_K]
  cases hc : chainM os key with
  | none => exact ⟨none, 0, [], rfl, rfl, Nat.le_refl _, Nat.zero_le _, fun _ => rfl, fun hn => absurd hn (by simp), fun y hy => by cases hy⟩
  | some x =>
    have h1 := h.each x (chainM_mem hc).1
    exact ⟨x.A, x.c, x.ms, rfl, rfl, h1⟩
set_option maxRecDepth 100000 in
set_option maxHeartbeats 8000000 in
theorem refWith_any (p : Nat) (S : Nat → Prop) (L : LimS) (m r v : Int) (st : PS) (A : Option Addr) (c : Nat) (os : List MOne) (l : List Wr) (hi : Nat) (AW : Option Addr) (cW : Nat) (w : World) (h : RefM w p S L m r v st.time A c os) (hK : os.map MOne.k = st.K) (hS : ∀ b, w.heap.size ≤ b → S b)
    (hn : st.K.length ≤ 1048576) (hV : versS st.K ≤ 1048576) (htm : st.time + 1 < 18446744073709551616) (hl : l.length ≤ 1048576) (hW : ChW w 0 hi AW cW l) (hhi : hi ≤ w.heap.size) (hSW : ∀ b, b < hi → S b) :
    Calls Try.prog 92 #[ptrS p, .slice AW l.length cW] w fun e w' => ∃ q, e = .returned (ptrS q) ∧ w.heap.size ≤ q ∧ (∃ A' c' os', RefM w' q (fun b => S b ∧ b ≠ q) L m r v (st.time + 1) A' c' os' ∧ os'.map MOne.k = withS st l) ∧ Below w.heap.size w w' := by
  obtain ⟨w1, hw1⟩ : ∃ y, (w.alloc (.cells #[.int .i64 L.keys, .int .i64 L.vers, .int .i64 L.byts, .int .i64 m, .int .i64 r, .int .i64 v, .int .u64 L.last, .int .u64 ((st.time : Int) + 1), .slice A os.length c] 36)).drew = y := ⟨_, rfl⟩
  have hb1 : Below w.heap.size w w1 := by rw [← hw1]; exact ((Below.refl _ w).alloc (Nat.le_refl _) _).drew
  have hbx1 : w1.heap[w.heap.size]? = some (.cells #[.int .i64 L.keys, .int .i64 L.vers, .int .i64 L.byts, .int .i64 m, .int .i64 r, .int .i64 v, .int .u64 L.last, .int .u64 ((st.time + 1 : Nat) : Int), .slice A os.length c] 36 (0, 0)) := by rw [← hw1]; exact heap_alloc_new w _
  have hs1 : w1.heap.size = w.heap.size + 1 := by rw [← hw1]; show (w.alloc _).heap.size = _; simp
  have hkp : ∀ g, S g → g < w.heap.size → w1.heap[g]? = w.heap[g]? ∧ (S g ∧ g ≠ w.heap.size) := fun g hg hlt => ⟨hb1.block g hlt, hg, by omega⟩
  have HQ1 : Hid (RefM w1 w.heap.size (fun b => S b ∧ b ≠ w.heap.size) L m r v (st.time + 1) A c os) := Lib.hid ⟨hbx1, h.len, h.cap, h.none_, h.row.keep oneF hkp, fun x hx => (h.each x hx).keep hkp⟩
  have HP1 : Hid (RefM w1 p (fun b => S b ∧ b ≠ w.heap.size) L m r v st.time A c os) := Lib.hid (h.keep (hb1.block p h.lt) hkp)
  have HS1 : Hid (∀ b, w1.heap.size ≤ b → S b ∧ b ≠ w.heap.size) := Lib.hid fun b hb => ⟨hS b (by omega), by omega⟩
  have HSW : Hid (∀ b, b < hi → S b ∧ b ≠ w.heap.size) := Lib.hid fun b hb => ⟨hSW b hb, by omega⟩
  have HB1 := Lib.hid hb1
  have HW := Lib.hid (hW.below hb1 hhi (Nat.le_refl _))
  have HHi0 := Lib.hid hhi
  have HPLt := Lib.hid h.lt
  have HHi := Lib.hid (show hi ≤ w1.heap.size by omega)
  have HK := Lib.hid hK
  have HW1 := Lib.hid hw1
  have HLt := Lib.hid (show w.heap.size < w1.heap.size by omega)
  have HN := Lib.hid (And.intro hn (And.intro hV hl))
  have HTm := Lib.hid htm
  have c0 := cell_of_row w p 0 _ _ _ h.box
  have c1 := cell_of_row w p 1 _ _ _ h.box
  have c2 := cell_of_row w p 2 _ _ _ h.box
  have c3 := cell_of_row w p 3 _ _ _ h.box
  have c4 := cell_of_row w p 4 _ _ _ h.box
  have c5 := cell_of_row w p 5 _ _ _ h.box
  have c6 := cell_of_row w p 6 _ _ _ h.box
  have c7 := cell_of_row w p 7 _ _ _ h.box
  have c8 := cell_of_row w p 8 _ _ _ h.box
  have htw : IntKind.u64.wrap ((st.time : Int) + 1) = (st.time : Int) + 1 := IntWalk.u64_in _ ⟨by omega, by omega⟩
  have hll : l.length ≤ 9223372036854775807 := by omega
  clear h hK hS hn hV hl hW hhi hSW hw1 hb1 hbx1 hs1 hkp htm
  unfold ptrS
  go_enter Try.func92, Try.ntmps92
  go_wp2_with fail
  go_region
  (try rw [HW1.out])
  clear c0 c1 c2 c3 c4 c5 c6 c7 c8
  go_wp2_with fail
  (try rw [HW1.out])
  clear HW1
  go_loopg [29] l.length (fun n i wr => ∃ j : Nat, j + n = l.length ∧ i = .int .i64 j ∧ (∃ A' c' os', RefM wr w.heap.size (fun b => S b ∧ b ≠ w.heap.size) L m r v (st.time + 1) A' c' os' ∧ os'.map MOne.k = (l.take j).foldl (withOne st) st.K) ∧ Mut (fun k => k = w.heap.size) w1 wr)
  case atStart => exact ⟨0, by omega, rfl, ⟨A, c, os, HQ1.out, HK.out⟩, Mut.refl _ _⟩
  case round =>
    obtain ⟨j, hk, rfl, ⟨A1, c1, os1, hm1, hk1⟩, hmut⟩ := hrel
    have HKj := Lib.hid hk
    have HM1 := Lib.hid hm1
    have HK1 := Lib.hid hk1
    have HMut := Lib.hid hmut
    clear hk hm1 hk1 hmut
    by_cases hj : j < l.length
    · have hlt : decide ((j : Int) < (l.length : Int)) = true := by simpa using hj
      have hlt2 : decide (j < l.length) = true := by simpa using hj
      obtain ⟨b, o, A', c', rfl, _, d0, d1, d2, hsl, hkl⟩ := (HW.out.keep (w' := wr) fun g _ h2 => HMut.out.block g (Nat.lt_of_lt_of_le h2 HHi.out) (fun e => by have := HHi0.out; omega)).2.2.2.at_ hj
      have HStep := Lib.hid (show (l.take (j + 1)).foldl (withOne st) st.K = withOne st ((l.take j).foldl (withOne st) st.K) (l[j]'hj) by
        rw [List.take_succ_eq_append_getElem hj, List.foldl_append]
        rfl)
      generalize l[j] = x at *
      obtain ⟨key, gone, dat⟩ := x
      simp only at d0 d1 d2 hsl
      have HDat : Hid (VerIn wr (fun b => S b ∧ b ≠ w.heap.size) ⟨verW st ⟨key, gone, dat⟩, A', c'⟩) := Lib.hid ⟨HTm.out, hsl.1, hsl.2.1, hsl.2.2.1, RdS.of_rd hsl.2.2.2 fun b _ h2 => HSW.out b h2⟩
      obtain ⟨wx, hwx⟩ : ∃ y, wr.alloc (.cells #[.string (bs key), .bool gone, .slice A' dat.length c'] 84) = y := ⟨_, rfl⟩
      have hxx : wx.heap[wr.heap.size]? = some (.cells #[.string (bs key), .bool gone, .slice A' dat.length c'] 84 (0, 0)) := by rw [← hwx]; exact heap_alloc_new wr _
      have hbx : Below wr.heap.size wr wx := by rw [← hwx]; exact (Below.refl _ wr).alloc (Nat.le_refl _) _
      have HXX := Lib.hid hxx
      have HBX := Lib.hid hbx
      have HM2 := Lib.hid (HM1.out.below hbx)
      have HP2 : Hid (RefM wx p (fun b => S b ∧ b ≠ w.heap.size) L m r v st.time A c os) := Lib.hid ((HP1.out.keep (w' := wr) (T := (fun b => S b ∧ b ≠ w.heap.size)) (HMut.out.block p HP1.out.lt (fun e => by have := HPLt.out; omega)) fun g hg hlt => ⟨HMut.out.block g hlt (fun e => hg.2 e), hg⟩).below hbx)
      have HDat2 := Lib.hid (HDat.out.keep (w' := wx) (T := (fun b => S b ∧ b ≠ w.heap.size)) fun g hg hlt => ⟨hbx.block g hlt, hg⟩)
      have HS2 : Hid (∀ b, wx.heap.size ≤ b → S b ∧ b ≠ w.heap.size) := Lib.hid fun b hb => HS1.out b (Nat.le_trans (Nat.le_trans HMut.out.size hbx.size) hb)
      obtain ⟨is, his⟩ : ∃ y, (readS st.K key st.time).isSome = y := ⟨_, rfl⟩
      have HRd : Hid (Calls Try.prog 67 #[.pointer (some ⟨p, 0, none⟩), .string (bs key), .int .u64 st.time] wx.drew fun e w' => ∃ B d n, e = .returned (.tuple #[.slice B n d, .bool is]) ∧ Below wx.heap.size wx w') := Lib.hid (by
        refine (refReadS_any p (fun b => S b ∧ b ≠ w.heap.size) L m r v st.time A c os key st.time wx.drew (HP2.out.keep rfl fun _ hg _ => ⟨rfl, hg⟩)).mono ?_
        rintro e w' ⟨B, d, rfl, _, h5⟩
        rw [HK.out, his]
        exact ⟨B, d, _, rfl, (Below.refl _ wx).drew.trans h5⟩)
      obtain ⟨A0, c0, ms0, hch, hms0, hone0⟩ := chain_in HP2.out key
      rw [HK.out] at hms0
      have HOne0 := Lib.hid hone0
      have HMs0 := Lib.hid hms0
      have HCh : Hid (∀ W, Below wx.heap.size wx W → Calls Try.prog 28 #[.pointer (some ⟨p, 0, none⟩), .string (bs key)] W fun e w' => e = .returned (.slice A0 ms0.length c0) ∧ Below wx.heap.size wx w') := Lib.hid fun W hb => by
        refine (refChain_any p (fun b => S b ∧ b ≠ w.heap.size) L m r v st.time A c os key W (HP2.out.below hb)).mono ?_
        rintro e w' ⟨rfl, h5⟩
        exact ⟨by rw [hch], hb.trans (h5.mono hb.size)⟩
      have HPt : Hid (∀ W, Below wx.heap.size wx W → Calls Try.prog 110 #[.slice A0 ms0.length c0, .agg #[.int .u64 ((st.time : Int) + 1), .bool gone, .slice A' dat.length c']] W fun e w' => ∃ A2 c2 ns k, e = .returned (.tuple #[.slice A2 ns.length c2, .int .i64 k]) ∧ OneIn w' (fun b => S b ∧ b ≠ w.heap.size) ⟨key, A2, c2, ns⟩ ∧ ns.map MV.v = addH (chainS st.K key) (verW st ⟨key, gone, dat⟩) ∧ Below wx.heap.size wx w') := Lib.hid fun W hb => by
        have h1 : OneIn W (fun b => S b ∧ b ≠ w.heap.size) ⟨key, A0, c0, ms0⟩ := HOne0.out.keep fun g hg hlt => ⟨hb.block g hlt, hg⟩
        have h2 : VerIn W (fun b => S b ∧ b ≠ w.heap.size) ⟨verW st ⟨key, gone, dat⟩, A', c'⟩ := HDat2.out.keep fun g hg hlt => ⟨hb.block g hlt, hg⟩
        have h3 := refPutM ms0 (ms0.map MV.v) rfl A0 c0 (verW st ⟨key, gone, dat⟩) A' c' W (by
          rw [HMs0.out]
          have := (chain_sizes st.K key).1
          have := HN.out.2.1
          omega) (by rw [List.length_map]; exact ⟨h1.1, h1.2.1, h1.2.2.1⟩) h1.rowM HTm.out h2.ok.2
        rw [List.length_map] at h3
        refine h3.mono ?_
        rintro e w' ⟨A2, c2, ns, rfl, hns, k1, k2, k3, k4, k5, k6⟩
        have hb6 : Below wx.heap.size wx w' := hb.trans (k6.mono hb.size)
        refine ⟨A2, c2, ns, _, by rw [← hns, List.length_map], OneIn.of_new k1 k2 k3 k4 (fun g hg => HS2.out g (Nat.le_trans hb.size hg)) (fun y hy => ?_), by rw [hns, put_add, HMs0.out], hb6⟩
        rcases k5 y hy with h7 | h7
        · exact (h1.2.2.2.2 y h7).keep fun g hg hlt => ⟨k6.block g hlt, hg⟩
        · rw [h7]; exact h2.keep fun g hg hlt => ⟨k6.block g hlt, hg⟩
      have HPu : Hid (∀ W (y : MOne), Below wx.heap.size wx W → OneIn W (fun b => S b ∧ b ≠ w.heap.size) y → Calls Try.prog 94 #[.slice A1 os1.length c1, .agg #[.string (bs y.key), .slice y.A y.ms.length y.c]] W fun e w' => ∃ A9 c9, e = .returned (.slice A9 (putM os1 y).length c9) ∧ RefM (w'.setCell ⟨w.heap.size, 8, none⟩ (.slice A9 (putM os1 y).length c9)) w.heap.size (fun b => S b ∧ b ≠ w.heap.size) L m r v (st.time + 1) A9 c9 (putM os1 y) ∧ Mut (fun k => k = w.heap.size) w1 (w'.setCell ⟨w.heap.size, 8, none⟩ (.slice A9 (putM os1 y).length c9)) ∧
          w'.heap[wr.heap.size]? = wx.heap[wr.heap.size]? ∧ (w'.setCell ⟨w.heap.size, 8, none⟩ (.slice A9 (putM os1 y).length c9)).heap[wr.heap.size]? = wx.heap[wr.heap.size]? ∧ w'.cell? ⟨w.heap.size, 8, none⟩ = some (.slice A1 os1.length c1) ∧ w'.frozen? ⟨w.heap.size, 8, none⟩ = false) := Lib.hid fun W y hb hy => by
        have hl1 : os1.length ≤ 2097152 := by
          have h1 := with_len st (l.take j) st.K
          rw [← HK1.out, List.length_map, List.length_take] at h1
          have := HN.out
          omega
        refine (refPutOne_any os1 A1 c1 W.heap.size y W hl1 ((HM2.out.below hb).row.rowG oneF) (Nat.le_refl _)).mono ?_
        rintro e w' ⟨A9, c9, rfl, k1, k2, k3, k4, k5⟩
        obtain ⟨g1, g2⟩ := HM2.out.put hb hy k5 HS2.out (fun h => h.2 rfl) k1 k2 k3 k4
        have hb2 : Below wx.heap.size wx w' := hb.trans (k5.mono hb.size)
        have hbox := heap_below HM2.out.box hb2 HM2.out.lt
        have hne : wr.heap.size ≠ w.heap.size := by have := HM1.out.lt; omega
        refine ⟨A9, c9, rfl, g1, (HMut.out.trans (Below.mut HBX.out _) (fun k hk => .inl hk)).trans g2 (fun k hk => .inl hk), hb2.block _ (lt_of_heap HXX.out), (Below.heap_setCell _ _ _ _ hne).trans (hb2.block _ (lt_of_heap HXX.out)), cell_of_row w' _ 8 _ _ _ hbox, frozen_of hbox 8⟩
      have HT7 : Hid (∀ W, Below wx.heap.size wx W → W.cell? ⟨p, 7, none⟩ = some (.int .u64 (st.time : Nat))) := Lib.hid fun W hb => cell_of_row W p 7 _ _ _ (HP2.out.below hb).box
      have H8 : Hid (∀ W, Below wx.heap.size wx W → W.cell? ⟨w.heap.size, 8, none⟩ = some (.slice A1 os1.length c1)) := Lib.hid fun W hb => cell_of_row W _ 8 _ _ _ (HM2.out.below hb).box
      have HCm := Lib.hid (show comesS st ⟨key, gone, dat⟩ = !(gone && !is) by
        unfold comesS
        rw [← his]
        simp)
      clear hxx hbx his hch hms0 hone0 hsl hkl
      cases gone
      · cases is
        · have KEEP : Hid (∀ W, Below wx.heap.size wx W → W.cell? ⟨wr.heap.size, 0, none⟩ = some (.string (bs key)) ∧ W.cell? ⟨wr.heap.size, 1, none⟩ = some (.bool false) ∧ W.cell? ⟨wr.heap.size, 2, none⟩ = some (.slice A' dat.length c') ∧ W.cell? ⟨p, 7, none⟩ = some (.int .u64 (st.time : Nat))) := Lib.hid fun W hb => ⟨cell_of_row W _ 0 _ _ _ (heap_below HXX.out hb (lt_of_heap HXX.out)), cell_of_row W _ 1 _ _ _ (heap_below HXX.out hb (lt_of_heap HXX.out)), cell_of_row W _ 2 _ _ _ (heap_below HXX.out hb (lt_of_heap HXX.out)), HT7.out W hb⟩
          obtain ⟨y0, y1, y2, y7⟩ := KEEP.out _ (Below.refl _ _)
          go_wp2_with fail
          (try rw [hwx])
          clear hwx
          go_region_held3 (fun W => W.cell? ⟨wr.heap.size, 0, none⟩ = some (.string (bs key)) ∧ W.cell? ⟨wr.heap.size, 1, none⟩ = some (.bool false) ∧ W.cell? ⟨wr.heap.size, 2, none⟩ = some (.slice A' dat.length c') ∧ W.cell? ⟨p, 7, none⟩ = some (.int .u64 (st.time : Nat)))
            (first
              | with_reducible exact KEEP.out _ hb5
              | with_reducible exact KEEP.out _ (Below.refl _ _).drew)
            ((first | (go_at_call 67; with_reducible refine HRd.out.mono ?_; rintro e w5 ⟨B5, d5, n5, rfl, hb5⟩)))
          clear y0 y1 y2 y7 d0 d1 d2
          obtain ⟨y0, y1, y2, y7⟩ := KEEP.out _ hb5
          go_wp2_with fail
          go_region_held3 (fun W => W.cell? ⟨wr.heap.size, 0, none⟩ = some (.string (bs key)) ∧ W.cell? ⟨wr.heap.size, 1, none⟩ = some (.bool false) ∧ W.cell? ⟨wr.heap.size, 2, none⟩ = some (.slice A' dat.length c') ∧ W.cell? ⟨p, 7, none⟩ = some (.int .u64 (st.time : Nat)))
            (first
              | with_reducible exact KEEP.out _ hb7
              | with_reducible exact KEEP.out _ hb6
              | with_reducible exact KEEP.out _ hb5.drew)
            ((first
              | (go_at_call 28; with_reducible refine (HCh.out _ hb5.drew).mono ?_; rintro e w6 ⟨rfl, hb6⟩)
              | (go_at_call 110; with_reducible refine (HPt.out _ hb6).mono ?_; rintro e w7 ⟨A2, c2, ns, k2, rfl, ho2, hns, hb7⟩)))
          clear y0 y1 y2 y7 hb6 hb5
          obtain ⟨y0, _, _, _⟩ := KEEP.out _ hb7
          have z8 := H8.out _ hb7
          have kq1 : w7.drew.heap[wr.heap.size]? = wx.heap[wr.heap.size]? := hb7.block _ (lt_of_heap HXX.out)
          have ho3 := ho2.keep (w' := w7.drew) fun g hg hlt => ⟨rfl, hg⟩
          have hb8 := hb7.drew
          have HNs := Lib.hid hns
          have KEEP8 : Hid (∀ W : World, W.heap[wr.heap.size]? = wx.heap[wr.heap.size]? → W.cell? ⟨wr.heap.size, 0, none⟩ = some (.string (bs key))) := Lib.hid fun W hw => cell_of_row W _ 0 _ _ _ (hw.trans HXX.out)
          clear hns ho2 hb7 kq1 KEEP8
          go_wp2_with fail
          go_region_with ((first
              | (go_at_call 94; with_reducible refine (HPu.out _ ⟨key, A2, c2, ns⟩ hb8 ho3).mono ?_; rintro e w9 ⟨A9, c9, rfl, hm9, hmu9, kq2, kq3, u8, v8⟩)))
          all_goals
            have HZ := Lib.hid (And.intro hm9 hmu9)
            clear hm9 hmu9 kq2 kq3 hb8 ho3 u8 v8 y0 z8
            go_wp2
            go_roundg (gk - 1)
            case measure => have := HKj.out; omega
            case rel => exact ⟨j + 1, by have := HKj.out; omega, by go_num, ⟨A9, c9, _, HZ.out.1, by
              rw [putM_k, HK1.out, HStep.out]
              unfold withOne
              rw [if_pos (by rw [HCm.out]; simp)]
              rw [← HNs.out]⟩, HZ.out.2⟩
        · have KEEP : Hid (∀ W, Below wx.heap.size wx W → W.cell? ⟨wr.heap.size, 0, none⟩ = some (.string (bs key)) ∧ W.cell? ⟨wr.heap.size, 1, none⟩ = some (.bool false) ∧ W.cell? ⟨wr.heap.size, 2, none⟩ = some (.slice A' dat.length c') ∧ W.cell? ⟨p, 7, none⟩ = some (.int .u64 (st.time : Nat))) := Lib.hid fun W hb => ⟨cell_of_row W _ 0 _ _ _ (heap_below HXX.out hb (lt_of_heap HXX.out)), cell_of_row W _ 1 _ _ _ (heap_below HXX.out hb (lt_of_heap HXX.out)), cell_of_row W _ 2 _ _ _ (heap_below HXX.out hb (lt_of_heap HXX.out)), HT7.out W hb⟩
          obtain ⟨y0, y1, y2, y7⟩ := KEEP.out _ (Below.refl _ _)
          go_wp2_with fail
          (try rw [hwx])
          clear hwx
          go_region_held3 (fun W => W.cell? ⟨wr.heap.size, 0, none⟩ = some (.string (bs key)) ∧ W.cell? ⟨wr.heap.size, 1, none⟩ = some (.bool false) ∧ W.cell? ⟨wr.heap.size, 2, none⟩ = some (.slice A' dat.length c') ∧ W.cell? ⟨p, 7, none⟩ = some (.int .u64 (st.time : Nat)))
            (first
              | with_reducible exact KEEP.out _ hb5
              | with_reducible exact KEEP.out _ (Below.refl _ _).drew)
            ((first | (go_at_call 67; with_reducible refine HRd.out.mono ?_; rintro e w5 ⟨B5, d5, n5, rfl, hb5⟩)))
          clear y0 y1 y2 y7 d0 d1 d2
          obtain ⟨y0, y1, y2, y7⟩ := KEEP.out _ hb5
          go_wp2_with fail
          go_region_held3 (fun W => W.cell? ⟨wr.heap.size, 0, none⟩ = some (.string (bs key)) ∧ W.cell? ⟨wr.heap.size, 1, none⟩ = some (.bool false) ∧ W.cell? ⟨wr.heap.size, 2, none⟩ = some (.slice A' dat.length c') ∧ W.cell? ⟨p, 7, none⟩ = some (.int .u64 (st.time : Nat)))
            (first
              | with_reducible exact KEEP.out _ hb7
              | with_reducible exact KEEP.out _ hb6
              | with_reducible exact KEEP.out _ hb5.drew)
            ((first
              | (go_at_call 28; with_reducible refine (HCh.out _ hb5.drew).mono ?_; rintro e w6 ⟨rfl, hb6⟩)
              | (go_at_call 110; with_reducible refine (HPt.out _ hb6).mono ?_; rintro e w7 ⟨A2, c2, ns, k2, rfl, ho2, hns, hb7⟩)))
          clear y0 y1 y2 y7 hb6 hb5
          obtain ⟨y0, _, _, _⟩ := KEEP.out _ hb7
          have z8 := H8.out _ hb7
          have kq1 : w7.drew.heap[wr.heap.size]? = wx.heap[wr.heap.size]? := hb7.block _ (lt_of_heap HXX.out)
          have ho3 := ho2.keep (w' := w7.drew) fun g hg hlt => ⟨rfl, hg⟩
          have hb8 := hb7.drew
          have HNs := Lib.hid hns
          have KEEP8 : Hid (∀ W : World, W.heap[wr.heap.size]? = wx.heap[wr.heap.size]? → W.cell? ⟨wr.heap.size, 0, none⟩ = some (.string (bs key))) := Lib.hid fun W hw => cell_of_row W _ 0 _ _ _ (hw.trans HXX.out)
          clear hns ho2 hb7 kq1 KEEP8
          go_wp2_with fail
          go_region_with ((first
              | (go_at_call 94; with_reducible refine (HPu.out _ ⟨key, A2, c2, ns⟩ hb8 ho3).mono ?_; rintro e w9 ⟨A9, c9, rfl, hm9, hmu9, kq2, kq3, u8, v8⟩)))
          all_goals
            have HZ := Lib.hid (And.intro hm9 hmu9)
            clear hm9 hmu9 kq2 kq3 hb8 ho3 u8 v8 y0 z8
            go_wp2
            go_roundg (gk - 1)
            case measure => have := HKj.out; omega
            case rel => exact ⟨j + 1, by have := HKj.out; omega, by go_num, ⟨A9, c9, _, HZ.out.1, by
              rw [putM_k, HK1.out, HStep.out]
              unfold withOne
              rw [if_pos (by rw [HCm.out]; simp)]
              rw [← HNs.out]⟩, HZ.out.2⟩
      · cases is
        · have KEEP : Hid (∀ W, Below wx.heap.size wx W → W.cell? ⟨wr.heap.size, 0, none⟩ = some (.string (bs key)) ∧ W.cell? ⟨wr.heap.size, 1, none⟩ = some (.bool true) ∧ W.cell? ⟨wr.heap.size, 2, none⟩ = some (.slice A' dat.length c') ∧ W.cell? ⟨p, 7, none⟩ = some (.int .u64 (st.time : Nat))) := Lib.hid fun W hb => ⟨cell_of_row W _ 0 _ _ _ (heap_below HXX.out hb (lt_of_heap HXX.out)), cell_of_row W _ 1 _ _ _ (heap_below HXX.out hb (lt_of_heap HXX.out)), cell_of_row W _ 2 _ _ _ (heap_below HXX.out hb (lt_of_heap HXX.out)), HT7.out W hb⟩
          obtain ⟨y0, y1, y2, y7⟩ := KEEP.out _ (Below.refl _ _)
          go_wp2_with fail
          (try rw [hwx])
          clear hwx
          go_region_held3 (fun W => W.cell? ⟨wr.heap.size, 0, none⟩ = some (.string (bs key)) ∧ W.cell? ⟨wr.heap.size, 1, none⟩ = some (.bool true) ∧ W.cell? ⟨wr.heap.size, 2, none⟩ = some (.slice A' dat.length c') ∧ W.cell? ⟨p, 7, none⟩ = some (.int .u64 (st.time : Nat)))
            (first
              | with_reducible exact KEEP.out _ hb5
              | with_reducible exact KEEP.out _ (Below.refl _ _).drew)
            ((first | (go_at_call 67; with_reducible refine HRd.out.mono ?_; rintro e w5 ⟨B5, d5, n5, rfl, hb5⟩)))
          clear y0 y1 y2 y7 d0 d1 d2
          obtain ⟨y0, y1, y2, y7⟩ := KEEP.out _ hb5
          have HB5 := Lib.hid hb5
          clear hb5
          go_wp2_with fail
          go_roundg (gk - 1)
          case measure => have := HKj.out; omega
          case rel => exact ⟨j + 1, by have := HKj.out; omega, by go_num, ⟨A1, c1, os1, HM2.out.below HB5.out, by
            rw [HStep.out, HK1.out]
            unfold withOne
            rw [if_neg (by rw [HCm.out]; simp)]⟩, (HMut.out.trans (Below.mut HBX.out _) (fun k hk => .inl hk)).trans (Below.mut HB5.out _) (fun k hk => .inl hk)⟩
        · have KEEP : Hid (∀ W, Below wx.heap.size wx W → W.cell? ⟨wr.heap.size, 0, none⟩ = some (.string (bs key)) ∧ W.cell? ⟨wr.heap.size, 1, none⟩ = some (.bool true) ∧ W.cell? ⟨wr.heap.size, 2, none⟩ = some (.slice A' dat.length c') ∧ W.cell? ⟨p, 7, none⟩ = some (.int .u64 (st.time : Nat))) := Lib.hid fun W hb => ⟨cell_of_row W _ 0 _ _ _ (heap_below HXX.out hb (lt_of_heap HXX.out)), cell_of_row W _ 1 _ _ _ (heap_below HXX.out hb (lt_of_heap HXX.out)), cell_of_row W _ 2 _ _ _ (heap_below HXX.out hb (lt_of_heap HXX.out)), HT7.out W hb⟩
          obtain ⟨y0, y1, y2, y7⟩ := KEEP.out _ (Below.refl _ _)
          go_wp2_with fail
          (try rw [hwx])
          clear hwx
          go_region_held3 (fun W => W.cell? ⟨wr.heap.size, 0, none⟩ = some (.string (bs key)) ∧ W.cell? ⟨wr.heap.size, 1, none⟩ = some (.bool true) ∧ W.cell? ⟨wr.heap.size, 2, none⟩ = some (.slice A' dat.length c') ∧ W.cell? ⟨p, 7, none⟩ = some (.int .u64 (st.time : Nat)))
            (first
              | with_reducible exact KEEP.out _ hb5
              | with_reducible exact KEEP.out _ (Below.refl _ _).drew)
            ((first | (go_at_call 67; with_reducible refine HRd.out.mono ?_; rintro e w5 ⟨B5, d5, n5, rfl, hb5⟩)))
          clear y0 y1 y2 y7 d0 d1 d2
          obtain ⟨y0, y1, y2, y7⟩ := KEEP.out _ hb5
          go_wp2_with fail
          go_region_held3 (fun W => W.cell? ⟨wr.heap.size, 0, none⟩ = some (.string (bs key)) ∧ W.cell? ⟨wr.heap.size, 1, none⟩ = some (.bool true) ∧ W.cell? ⟨wr.heap.size, 2, none⟩ = some (.slice A' dat.length c') ∧ W.cell? ⟨p, 7, none⟩ = some (.int .u64 (st.time : Nat)))
            (first
              | with_reducible exact KEEP.out _ hb7
              | with_reducible exact KEEP.out _ hb6
              | with_reducible exact KEEP.out _ hb5.drew)
            ((first
              | (go_at_call 28; with_reducible refine (HCh.out _ hb5.drew).mono ?_; rintro e w6 ⟨rfl, hb6⟩)
              | (go_at_call 110; with_reducible refine (HPt.out _ hb6).mono ?_; rintro e w7 ⟨A2, c2, ns, k2, rfl, ho2, hns, hb7⟩)))
          clear y0 y1 y2 y7 hb6 hb5
          obtain ⟨y0, _, _, _⟩ := KEEP.out _ hb7
          have z8 := H8.out _ hb7
          have kq1 : w7.drew.heap[wr.heap.size]? = wx.heap[wr.heap.size]? := hb7.block _ (lt_of_heap HXX.out)
          have ho3 := ho2.keep (w' := w7.drew) fun g hg hlt => ⟨rfl, hg⟩
          have hb8 := hb7.drew
          have HNs := Lib.hid hns
          have KEEP8 : Hid (∀ W : World, W.heap[wr.heap.size]? = wx.heap[wr.heap.size]? → W.cell? ⟨wr.heap.size, 0, none⟩ = some (.string (bs key))) := Lib.hid fun W hw => cell_of_row W _ 0 _ _ _ (hw.trans HXX.out)
          clear hns ho2 hb7 kq1 KEEP8
          go_wp2_with fail
          go_region_with ((first
              | (go_at_call 94; with_reducible refine (HPu.out _ ⟨key, A2, c2, ns⟩ hb8 ho3).mono ?_; rintro e w9 ⟨A9, c9, rfl, hm9, hmu9, kq2, kq3, u8, v8⟩)))
          all_goals
            have HZ := Lib.hid (And.intro hm9 hmu9)
            clear hm9 hmu9 kq2 kq3 hb8 ho3 u8 v8 y0 z8
            go_wp2
            go_roundg (gk - 1)
            case measure => have := HKj.out; omega
            case rel => exact ⟨j + 1, by have := HKj.out; omega, by go_num, ⟨A9, c9, _, HZ.out.1, by
              rw [putM_k, HK1.out, HStep.out]
              unfold withOne
              rw [if_pos (by rw [HCm.out]; simp)]
              rw [← HNs.out]⟩, HZ.out.2⟩
    · have hj' : j = l.length := by have := HKj.out; omega
      have hlt : decide ((j : Int) < (l.length : Int)) = false := by simpa using hj
      have hlt2 : decide (j < l.length) = false := by simpa using hj
      have HKc := Lib.hid (show os1.map MOne.k = withS st l by rw [HK1.out, hj', List.take_length]; rfl)
      clear hj'
      go_wp2_with fail
      go_ret
      exact ⟨w.heap.size, rfl, Nat.le_refl _, ⟨A1, c1, os1, HM1.out, HKc.out⟩, HB1.out.trans (HMut.out.below (by have := HLt.out; omega) fun k hk => by have e : k = w.heap.size := hk; omega)⟩
end Go.Proofs.Ytooegjdppeiccaa
