import Derived.Test.YtdenlghnfefbnaaZC14
import Derived.Test.YtdenlghnfefbnaaZE00
import Derived.Deep.LoopGhost
import Derived.Deep.RegionHeld3
/-
  The walk of StoreNone.
-/
namespace Go.Proofs.Ytdenlghnfefbnaa
open Go.RowKit

theorem eq_sizes (x y z : Int) (w : World) : (Op.equalIn 10000 49 (.agg #[.int .i64 x, .int .i64 y, .int .i64 z]) (.agg #[.int .i64 x, .int .i64 y, .int .i64 z])).run Try.prog w = .ok true w := by
  simp [go_sem, Try.underlying49, Try.underlying3]
theorem opRow (o : OpS) (A : Option Addr) (c hi : Nat) (w : World) (h : OkMO w hi ⟨o, A, c⟩) (hhi : hi ≤ w.heap.size) : RowO (w.alloc (.cells (moCells ⟨o, A, c⟩).toArray 39)) (w.heap.size + 1) (some ⟨w.heap.size, 0, none⟩) [o] :=
  ⟨[⟨o, A, c⟩], rfl, (RowG.one (cs := moCells) (heap_alloc_new w _)).wide (Nat.zero_le _) (Nat.le_refl _), fun x hx => by
    rw [List.mem_singleton] at hx
    subst hx
    exact h.below ((Below.refl _ w).alloc (Nat.le_refl _) _) hhi (by omega)⟩
theorem fewOne_from {w : World} {o : OpS} {A : Option Addr} {c : Nat} (h : OkMO w w.heap.size ⟨o, A, c⟩) : ∀ wx, Below w.heap.size w wx → Calls Try.prog 11 #[.slice (some ⟨wx.heap.size, 0, none⟩) 1 1] (wx.alloc (.cells #[.int .i64 o.what, .slice A o.l.length c, .int .u64 o.low, .int .u64 o.tm, .string (bs o.lo), .string (bs o.hi)] 39)) fun r w' => r = .returned (.bool (fewO [o])) ∧ Below w.heap.size w w' := fun wx hb =>
  (fewO_any [o] (some ⟨wx.heap.size, 0, none⟩) 1 (wx.heap.size + 1) _ (by simp) (opRow o A c wx.heap.size wx (h.below hb (Nat.le_refl _) hb.size) (Nat.le_refl _)) (by simp)).mono fun _ _ q => ⟨q.1, (hb.alloc hb.size _).trans (q.2.mono (by have := hb.size; simp; omega))⟩
namespace storeNone
set_option maxRecDepth 100000 in
set_option maxHeartbeats 16000000 in
theorem walk {St : InStore} (K : StoreC St) (a : List OpS) (A : Option Addr) (c : Nat) (o : OpS) (A1 : Option Addr) (c1 : Nat) (w : World) (ha : ChO w w.heap.size A c a) (ho : OkMO w w.heap.size ⟨o, A1, c1⟩) :
    Calls Try.prog 9 #[.slice A a.length c, opVal o A1 c1] w fun r w' => r = .returned (.bool true) ∧ Below w.heap.size w w' := by
  obtain ⟨what, ws, low, tm, klo, khi⟩ := o
  obtain ⟨w0, hw0⟩ : ∃ y, w.alloc (.cells #[.int .i64 what, .slice A1 ws.length c1, .int .u64 low, .int .u64 tm, .string (bs klo), .string (bs khi)] 39) = y := ⟨_, rfl⟩
  have hb0 : Below w.heap.size w w0 := by rw [← hw0]; exact (Below.refl _ w).alloc (Nat.le_refl _) _
  have hx0 : w0.heap[w.heap.size]? = some (.cells #[.int .i64 what, .slice A1 ws.length c1, .int .u64 low, .int .u64 tm, .string (bs klo), .string (bs khi)] 39 (0, 0)) := by rw [← hw0]; exact heap_alloc_new w _
  have hs0 : w0.heap.size = w.heap.size + 1 := by rw [← hw0]; simp
  have ha0 : ChO w0 w0.heap.size A c a := ha.below hb0 (Nat.le_refl _) (by omega)
  have ho0 : OkMO w0 w0.heap.size ⟨⟨what, ws, low, tm, klo, khi⟩, A1, c1⟩ := ho.below hb0 (Nat.le_refl _) (by omega)
  have HL := Lib.hid (live_from K w0)
  have HFA := Lib.hid (few_from ha0)
  have HFO := Lib.hid (fewOne_from ho0)
  have hb6 := Below.refl w0.heap.size w0
  have KC : Hid (∀ W, Below w0.heap.size w0 W → W.cell? ⟨w.heap.size, 0, none⟩ = some (.int .i64 what) ∧ W.cell? ⟨w.heap.size, 1, none⟩ = some (.slice A1 ws.length c1) ∧ W.cell? ⟨w.heap.size, 2, none⟩ = some (.int .u64 low) ∧ W.cell? ⟨w.heap.size, 3, none⟩ = some (.int .u64 tm) ∧ W.cell? ⟨w.heap.size, 4, none⟩ = some (.string (bs klo)) ∧ W.cell? ⟨w.heap.size, 5, none⟩ = some (.string (bs khi))) := Lib.hid fun W hb => by
    have h1 := heap_below hx0 hb (by omega)
    exact ⟨cell_of_row W _ 0 _ _ _ h1, cell_of_row W _ 1 _ _ _ h1, cell_of_row W _ 2 _ _ _ h1, cell_of_row W _ 3 _ _ _ h1, cell_of_row W _ 4 _ _ _ h1, cell_of_row W _ 5 _ _ _ h1⟩
  have HB0 := Lib.hid hb0
  have HW0 := Lib.hid hw0
  have HO0 := Lib.hid ho0
  have HA0 := Lib.hid ha0
  clear ha ho hb0 hx0 hw0 ha0 ho0
  unfold opVal
  simp only
  go_enter Try.func9, Try.ntmps9
  go_upto_region 1 with fail
  rw [HW0.out]
  clear HW0
  by_cases fa : fewO a = true
  · rw [fa] at HFA
    by_cases fo : fewO [⟨what, ws, low, tm, klo, khi⟩] = true
    · rw [fo] at HFO
      obtain ⟨fwa, fla⟩ := fewO_yes fa
      obtain ⟨fwo, _⟩ := fewO_yes fo
      have hwo := fwo _ (List.mem_cons_self ..)
      have HBg := Lib.hid (big_from w0)
      have HMd := Lib.hid (made_from K w0)
      have HRA := Lib.hid HA0.out.2.2.2
      have HWA := Lib.hid fwa
      have HWO := Lib.hid hwo
      have HK := Lib.hid K
      have hal : a.length ≤ 9223372036854775807 := by omega
      clear fla fa fo fwa fwo hwo K
      go_wp2_with (first
        | (go_at_call 10; (with_reducible refine (HL.out _ (by assumption)).mono ?_); rintro r w' ⟨rfl, hb6⟩)
        | (go_at_call 11; (with_reducible refine (HFA.out _ (by assumption)).mono ?_); rintro r w' ⟨rfl, hb6⟩; obtain ⟨k0, k1, k2, k3, k4, k5⟩ := KC.out _ hb6)
        | (go_at_call 11; (with_reducible refine (HFO.out _ (by assumption)).mono ?_); rintro r w' ⟨rfl, hb6⟩; clear k0 k1 k2 k3 k4 k5)
        | (go_at_call 29; (with_reducible refine (HBg.out _ (by assumption)).mono ?_); rintro r w' ⟨rfl, hb6⟩)
        | (go_at_call 28; (with_reducible refine (HMd.out _ (by assumption)).mono ?_); rintro r w5 ⟨p, F, rfl, hn⟩; unfold ptrS))
      have HN5 := Lib.hid hn
      clear hn hb6
      go_loopg [40] a.length (fun q i wr => ∃ (j : Nat) (st : PS) (F : Nat → Prop), j + q = a.length ∧ i = .int .i64 j ∧ NewS St w0 wr p F BigL st)
      case atStart => exact ⟨0, ⟨0, []⟩, F, by omega, rfl, HN5.out⟩
      case round =>
        obtain ⟨j, st, G, hk, rfl, hn⟩ := hrel
        have HJ := Lib.hid hk
        have HN := Lib.hid hn
        clear hk hn
        by_cases hj : j < a.length
        · have hlt : decide ((j : Int) < (a.length : Int)) = true := by simpa using hj
          have hlt2 : decide (j < a.length) = true := by simpa using hj
          obtain ⟨b0, o0, A', c', rfl, _, c0, c1', c2, c3, c4, c5, hok⟩ := (HRA.out.below HN.out.below (Nat.le_refl _) (Nat.le_refl _)).at_ hj
          have hw := HWA.out _ (List.getElem_mem hj)
          generalize a[j] = x at *
          have hba := (Below.refl _ wr).alloc (Nat.le_refl _) (.cells #[.int .i64 x.what, .slice A' x.l.length c', .int .u64 x.low, .int .u64 x.tm, .string (bs x.lo), .string (bs x.hi)] 39)
          have HC := Lib.hid (does_from HK.out (HN.out.next HK.out hba) x A' c' hw.1 hw.2.1 hw.2.2 (hok.below hba HN.out.below.size (Nat.le_refl _)))
          clear hba hok hw
          unfold opVal ptrS at HC
          go_wp2_with fail
          refine HC.out.mono ?_
          rintro r w9 ⟨A9, B9, c9, d9, lo9, hi9, F9, rfl, _, _, _, _, hn9, _, _⟩
          have HN9 := Lib.hid hn9
          clear hn9 HC c0 c1' c2 c3 c4 c5
          unfold toldVal
          go_wp2_with fail
          go_roundg (gk - 1)
          case measure => have := HJ.out; omega
          case rel => exact ⟨j + 1, _, F9, by have := HJ.out; omega, by go_num, HN9.out⟩
        · have hlt : decide ((j : Int) < (a.length : Int)) = false := by simpa using hj
          have HOk := Lib.hid (HK.out.okay HN.out.st).1
          have HCl := Lib.hid (HK.out.clone p G BigL st wr HN.out.st)
          have HGl := Lib.hid (fun k hk => HK.out.upto HN.out.st k hk)
          have HSz := Lib.hid (in_sizes big_may (HK.out.okay HN.out.st).2.1)
          have htime : st.time < 18446744073709551616 := by have h1 := (HK.out.okay HN.out.st).2.1.2; have h2 := (HK.out.okay HN.out.st).2.2.2.2; omega
          unfold ptrS at HCl
          go_wp2_with fail
          refine HCl.out.mono ?_
          rintro r w6 ⟨q, FC, rfl, hstc, hFC, hb6⟩
          have HC6 := Lib.hid hstc
          have HFC := Lib.hid hFC
          have HN6 := Lib.hid (HN.out.next HK.out hb6)
          have HW6 := Lib.hid hb6.size
          have HCnt := Lib.hid (HK.out.count p G BigL st w6 (HN.out.next HK.out hb6).st)
          clear hstc hFC hb6 HCl
          unfold ptrS at HCnt
          generalize hnk : st.K.length = nk at *
          generalize hnv : versS st.K = nv at *
          generalize hnb : bytsS st.K = nb at *
          have HNk := Lib.hid hnk
          have HNv := Lib.hid hnv
          have HNb := Lib.hid hnb
          clear hnk hnv hnb
          go_wp2_with fail
          refine HCnt.out.mono ?_
          rintro r w7 ⟨rfl, hb7⟩
          have HN7 := Lib.hid (HN6.out.next HK.out hb7)
          have HC7 := Lib.hid (HK.out.keep HC6.out fun k hk => hb7.block k (HK.out.upto HC6.out k hk))
          have HW7 := Lib.hid (Nat.le_trans HW6.out hb7.size)
          have HNow := Lib.hid (HK.out.now p G BigL st w7 HN7.out.st)
          clear hb7 HCnt
          unfold ptrS at HNow
          go_wp2_with fail
          refine HNow.out.mono ?_
          rintro r w8 ⟨rfl, hb8⟩
          have HN8 := Lib.hid (HN7.out.next HK.out hb8)
          have HC8 := Lib.hid (HK.out.keep HC7.out fun k hk => hb8.block k (HK.out.upto HC7.out k hk))
          have HW8 := Lib.hid (Nat.le_trans HW7.out hb8.size)
          have HSc := Lib.hid (HK.out.scan p G BigL st [] [] st.time w8 HN8.out.st (by simp) (by simp) htime)
          rw [bs_nil] at HSc
          clear hb8 HNow
          unfold ptrS at HSc
          generalize hsp : scanS st.K [] [] st.time = sp at *
          have HSp := Lib.hid hsp
          clear hsp
          go_wp2_with fail
          refine HSc.out.mono ?_
          rintro r w9 ⟨A9, c9, rfl, hs9, hb9⟩
          have HN9 := Lib.hid (HN8.out.next HK.out hb9)
          have HC9 := Lib.hid (HK.out.keep HC8.out fun k hk => hb9.block k (HK.out.upto HC8.out k hk))
          have HW9 := Lib.hid (Nat.le_trans HW8.out hb9.size)
          have HP9 := Lib.hid hs9
          clear hs9 hb9 HSc
          obtain ⟨w10, hw10⟩ : ∃ y, w9.alloc (.cells #[.int .i64 (nk : Int), .int .i64 (nv : Int), .int .i64 (nb : Int)] 49) = y := ⟨_, rfl⟩
          have hb10 : Below w9.heap.size w9 w10 := by rw [← hw10]; exact (Below.refl _ w9).alloc (Nat.le_refl _) _
          have hx10 : w10.heap[w9.heap.size]? = some (.cells #[.int .i64 (nk : Int), .int .i64 (nv : Int), .int .i64 (nb : Int)] 49 (0, 0)) := by rw [← hw10]; exact heap_alloc_new w9 _
          have HN10 := Lib.hid (HN9.out.next HK.out hb10)
          have HC10 := Lib.hid (HK.out.keep HC9.out fun k hk => hb10.block k (HK.out.upto HC9.out k hk))
          have HP10 := Lib.hid (HP9.out.keep (w' := w10) fun g _ h2 => hb10.block g h2)
          have HX10 := Lib.hid hx10
          have HW10 := Lib.hid hw10
          have HNow := Lib.hid (HK.out.now p G BigL st w10 HN10.out.st)
          clear hb10 hx10 hw10 HN9 HC9 HP9
          unfold ptrS at HNow
          go_upto_region 13 with fail
          rw [HW10.out]
          clear HW10
          go_wp2_with fail
          refine HNow.out.mono ?_
          rintro r w11 ⟨rfl, hb11⟩
          have hN11 := HN10.out.next HK.out hb11
          obtain ⟨k0, k1, k2, k3, k4, k5⟩ := KC.out _ hN11.below
          have HDo := Lib.hid (does_from HK.out hN11 ⟨what, ws, low, tm, klo, khi⟩ A1 c1 HWO.out.1 HWO.out.2.1 HWO.out.2.2 (HO0.out.below hN11.below (Nat.le_refl _) (Nat.le_refl _)))
          have HC11 := Lib.hid (HK.out.keep HC10.out fun k hk => hb11.block k (HK.out.upto HC10.out k hk))
          have HP11 := Lib.hid (HP10.out.keep (w' := w11) fun g _ h2 => hb11.block g (Nat.lt_of_lt_of_le h2 (Nat.le_trans (Nat.le_of_lt (lt_of_heap HX10.out)) (Nat.le_refl _))))
          have HX11 := Lib.hid (heap_below HX10.out hb11 (lt_of_heap HX10.out))
          have HN11 := Lib.hid hN11
          clear hb11 hN11 HNow
          unfold opVal ptrS at HDo
          simp only at HDo
          go_wp2_with fail
          refine HDo.out.mono ?_
          rintro r w12 ⟨A12, B12, c12, d12, lo12, hi12, F12, rfl, _, _, _, _, hn12, hm12, _⟩
          have HC12 := Lib.hid (HK.out.keep HC11.out fun k hk => hm12.block k (HK.out.upto HC11.out k hk) fun hg => by
            have h1 := HFC.out k hk
            have h2 := HGl.out k hg
            omega)
          have hpg : ∀ g, w8.heap.size ≤ g → g < w9.heap.size → w12.heap[g]? = w11.heap[g]? := fun g h1 h2 => hm12.block g (Nat.lt_of_lt_of_le h2 (by have := lt_of_heap HX11.out; omega)) fun hg => by
            have h3 := HGl.out g hg
            have := HW8.out
            omega
          have HP12 := Lib.hid (HP11.out.keep hpg)
          have HX12 := Lib.hid ((hm12.block w9.heap.size (lt_of_heap HX11.out) fun hg => by
            have h3 := HGl.out _ hg
            have := HW9.out
            omega).trans HX11.out)
          have HN12 := Lib.hid hn12
          clear hn12 hm12 hpg HDo k0 k1 k2 k3 k4 k5 HN10 HC10 HP10 HX10 HC11 HP11 HX11
          unfold toldVal
          have heq := eq_sizes (nk : Int) (nv : Int) (nb : Int)
          have HNowC : Hid (∀ W, Below w12.heap.size w12 W → Calls Try.prog 17 #[ptrS q] W fun e w' => e = .returned (.int .u64 st.time) ∧ Below w12.heap.size w12 w') := Lib.hid fun W hb =>
            (HK.out.now q FC BigL st W (HK.out.keep HC12.out fun k hk => hb.block k (HK.out.upto HC12.out k hk))).mono fun _ _ h => ⟨h.1, hb.trans (h.2.mono hb.size)⟩
          have HCntC : Hid (∀ W, Below w12.heap.size w12 W → Calls Try.prog 18 #[ptrS q] W fun e w' => e = .returned (.agg #[.int .i64 (nk : Int), .int .i64 (nv : Int), .int .i64 (nb : Int)]) ∧ Below w12.heap.size w12 w') := Lib.hid fun W hb =>
            (HK.out.count q FC BigL st W (HK.out.keep HC12.out fun k hk => hb.block k (HK.out.upto HC12.out k hk))).mono fun _ _ h => ⟨by rw [h.1, HNk.out, HNv.out, HNb.out], hb.trans (h.2.mono hb.size)⟩
          have HScC : Hid (∀ W, Below w12.heap.size w12 W → Calls Try.prog 31 #[ptrS q, .string ⟨#[]⟩, .string ⟨#[]⟩, .int .u64 st.time] W fun e w' => ∃ A c, e = .returned (.slice A sp.length c) ∧ ChP w' W.heap.size w'.heap.size A c sp ∧ Below w12.heap.size w12 w') := Lib.hid fun W hb => by
            have h := HK.out.scan q FC BigL st [] [] st.time W (HK.out.keep HC12.out fun k hk => hb.block k (HK.out.upto HC12.out k hk)) (by simp) (by simp) htime
            rw [bs_nil, HSp.out] at h
            exact h.mono fun _ _ ⟨A, c, e, h1, h2⟩ => ⟨A, c, e, h1, hb.trans (h2.mono hb.size)⟩
          have HSm : Hid (∀ W (AX : Option Addr) (cX lo' hi' : Nat), Below w12.heap.size w12 W → ChP W lo' hi' AX cX sp → Calls Try.prog 33 #[.slice AX sp.length cX, .slice A9 sp.length c9] W fun e w' => e = .returned (.bool true) ∧ Below w12.heap.size w12 w') := Lib.hid fun W AX cX lo' hi' hb hc => by
            have hp := HP12.out.keep (w' := W) fun g _ h2 => hb.block g (by have := lt_of_heap HX12.out; omega)
            have hspl : sp.length ≤ 9223372036854775807 := by have := hc.1; have := hc.2.1; unfold maxLen at *; omega
            have h := samePairs_any sp sp AX A9 cX c9 _ _ _ _ W hspl hspl hc.2.2.2 hp.2.2.2
            rw [show sameP sp sp = true from by unfold sameP; simp] at h
            exact h.mono fun _ _ h => ⟨h.1, hb.trans (h.2.mono hb.size)⟩
          have KEEP : Hid (∀ W, Below w12.heap.size w12 W → W.cell? ⟨w9.heap.size, 0, none⟩ = some (.int .i64 (nk : Int)) ∧ W.cell? ⟨w9.heap.size, 1, none⟩ = some (.int .i64 (nv : Int)) ∧ W.cell? ⟨w9.heap.size, 2, none⟩ = some (.int .i64 (nb : Int)) ∧ Below w12.heap.size w12 W) := Lib.hid fun W hb =>
            ⟨cell_of_row W _ 0 _ _ _ (heap_below HX12.out hb (lt_of_heap HX12.out)), cell_of_row W _ 1 _ _ _ (heap_below HX12.out hb (lt_of_heap HX12.out)), cell_of_row W _ 2 _ _ _ (heap_below HX12.out hb (lt_of_heap HX12.out)), hb⟩
          unfold ptrS at HNowC HCntC HScC
          obtain ⟨k0, k1, k2, _⟩ := KEEP.out _ (Below.refl _ _)
          go_wp2_with fail
          go_region_held3 (fun W => W.cell? ⟨w9.heap.size, 0, none⟩ = some (.int .i64 (nk : Int)) ∧ W.cell? ⟨w9.heap.size, 1, none⟩ = some (.int .i64 (nv : Int)) ∧ W.cell? ⟨w9.heap.size, 2, none⟩ = some (.int .i64 (nb : Int)) ∧ Below w12.heap.size w12 W)
            (first | with_reducible exact KEEP.out _ hb16 | with_reducible exact KEEP.out _ hb15 | with_reducible exact KEEP.out _ hb14 | with_reducible exact KEEP.out _ hb13 | with_reducible exact KEEP.out _ (Below.refl _ _).drew)
            ((first
              | (go_at_call 17; refine (HNowC.out _ (by go_split_ands; assumption)).mono ?_; rintro r w13 ⟨rfl, hb13⟩)
              | (go_at_call 18; refine (HCntC.out _ (by go_split_ands; assumption)).mono ?_; rintro r w14 ⟨rfl, hb14⟩)
              | (go_at_call 31; refine (HScC.out _ (by go_split_ands; assumption)).mono ?_; rintro r w15 ⟨AX, cX, rfl, hsX, hb15⟩)
              | (go_at_call 33; refine (HSm.out _ AX cX _ _ hb15 hsX).mono ?_; rintro r w16 ⟨rfl, hb16⟩)))
          have HB16 := Lib.hid (HN12.out.below.trans (hb16.mono HN12.out.below.size))
          clear KEEP HNowC HCntC HScC HSm HN12 HC12 HP12 HX12 heq hb13 hb14 hb15 hb16 hsX k0 k1 k2
          obtain ⟨w17, hw17⟩ : ∃ y, w16.alloc (.cells #[.int .i64 0, .int .i64 0, .int .i64 0, .int .i64 0, .int .i64 0, .int .i64 0, .int .u64 0, .int .u64 0, .map none, .slice none 0 0, .int .i64 0, .int .i64 0, .int .i64 0] 77) = y := ⟨_, rfl⟩
          have hz17 : NoneS w17 (some ⟨w16.heap.size, 0, none⟩) := .inr ⟨_, rfl, by rw [← hw17]; exact heap_alloc_new w16 _⟩
          have hb17 : Below w0.heap.size w0 w17 := by rw [← hw17]; exact HB16.out.alloc HB16.out.size _
          obtain ⟨k0, k1, k2, k3, k4, k5⟩ := KC.out _ hb17
          have HB17 := Lib.hid hb17
          have HW17 := Lib.hid hw17
          have HnCommit : Hid (∀ W, Below w17.heap.size w17 W → Calls Try.prog 36 #[.pointer none, .slice A1 ws.length c1, .int .u64 0] W fun e w' => e = .returned (.tuple #[.int .u64 0, .int .i64 2]) ∧ Below w17.heap.size w17 w') := Lib.hid fun W hb => (noCommit_any (.inl rfl) _ _).mono fun _ _ h => ⟨h.1, by rw [h.2]; exact hb⟩
          have HzCommit : Hid (∀ W, Below w17.heap.size w17 W → Calls Try.prog 36 #[.pointer (some ⟨w16.heap.size, 0, none⟩), .slice A1 ws.length c1, .int .u64 0] W fun e w' => e = .returned (.tuple #[.int .u64 0, .int .i64 2]) ∧ Below w17.heap.size w17 w') := Lib.hid fun W hb => (noCommit_any (hz17.below hb) _ _).mono fun _ _ h => ⟨h.1, by rw [h.2]; exact hb⟩
          have HnRead : Hid (∀ W, Below w17.heap.size w17 W → Calls Try.prog 30 #[.pointer none, .string ⟨#[97]⟩, .int .u64 1] W fun e w' => e = .returned (.tuple #[.slice none 0 0, .bool false]) ∧ Below w17.heap.size w17 w') := Lib.hid fun W hb => (noRead_any (.inl rfl) _ _).mono fun _ _ h => ⟨h.1, by rw [h.2]; exact hb⟩
          have HnNow : Hid (∀ W, Below w17.heap.size w17 W → Calls Try.prog 17 #[.pointer none] W fun e w' => e = .returned (.int .u64 0) ∧ Below w17.heap.size w17 w') := Lib.hid fun W hb => (noNow_any (.inl rfl)).mono fun _ _ h => ⟨h.1, by rw [h.2]; exact hb⟩
          have HzScan : Hid (∀ W, Below w17.heap.size w17 W → Calls Try.prog 31 #[.pointer (some ⟨w16.heap.size, 0, none⟩), .string ⟨#[]⟩, .string ⟨#[]⟩, .int .u64 9] W fun e w' => e = .returned (.slice none 0 0) ∧ Below w17.heap.size w17 w') := Lib.hid fun W hb => (noScan_any (hz17.below hb) _ _ _).mono fun _ _ h => ⟨h.1, by rw [h.2]; exact hb⟩
          have HzLatest : Hid (∀ W, Below w17.heap.size w17 W → Calls Try.prog 37 #[.pointer (some ⟨w16.heap.size, 0, none⟩), .string ⟨#[97]⟩] W fun e w' => e = .returned (.int .u64 0) ∧ Below w17.heap.size w17 w') := Lib.hid fun W hb => (noLatest_any (hz17.below hb) _).mono fun _ _ h => ⟨h.1, by rw [h.2]; exact hb⟩
          have HnCollect : Hid (∀ W, Below w17.heap.size w17 W → Calls Try.prog 34 #[.pointer none, .int .u64 9] W fun e w' => e = .returned (.int .i64 0) ∧ Below w17.heap.size w17 w') := Lib.hid fun W hb => (noCollect_any (.inl rfl) _).mono fun _ _ h => ⟨h.1, by rw [h.2]; exact hb⟩
          have HnChain : Hid (∀ W, Below w17.heap.size w17 W → Calls Try.prog 26 #[.pointer none, .string ⟨#[97]⟩] W fun e w' => e = .returned (.slice none 0 0) ∧ Below w17.heap.size w17 w') := Lib.hid fun W hb => (noChain_any (.inl rfl) _).mono fun _ _ h => ⟨h.1, by rw [h.2]; exact hb⟩
          have HzKeys : Hid (∀ W, Below w17.heap.size w17 W → Calls Try.prog 23 #[.pointer (some ⟨w16.heap.size, 0, none⟩)] W fun e w' => e = .returned (.slice none 0 0) ∧ Below w17.heap.size w17 w') := Lib.hid fun W hb => (noKeys_any (hz17.below hb)).mono fun _ _ h => ⟨h.1, by rw [h.2]; exact hb⟩
          have HnClone : Hid (∀ W, Below w17.heap.size w17 W → Calls Try.prog 35 #[.pointer none] W fun e w' => e = .returned (.pointer none) ∧ Below w17.heap.size w17 w') := Lib.hid fun W hb => (noClone_any (.inl rfl)).mono fun _ _ h => ⟨h.1, by rw [h.2]; exact hb⟩
          have HzClone : Hid (∀ W, Below w17.heap.size w17 W → Calls Try.prog 35 #[.pointer (some ⟨w16.heap.size, 0, none⟩)] W fun e w' => e = .returned (.pointer none) ∧ Below w17.heap.size w17 w') := Lib.hid fun W hb => (noClone_any (hz17.below hb)).mono fun _ _ h => ⟨h.1, by rw [h.2]; exact hb⟩
          have HzCount : Hid (∀ W, Below w17.heap.size w17 W → Calls Try.prog 18 #[.pointer (some ⟨w16.heap.size, 0, none⟩)] W fun e w' => e = .returned (.agg #[.int .i64 0, .int .i64 0, .int .i64 0]) ∧ Below w17.heap.size w17 w') := Lib.hid fun W hb => (noCount_any (hz17.below hb)).mono fun _ _ h => ⟨h.1, hb.trans (h.2.mono hb.size)⟩
          have heq := eq_sizes 0 0 0
          have hb6 := Below.refl w17.heap.size w17
          have KC2 : Hid (∀ W, Below w17.heap.size w17 W → W.cell? ⟨w.heap.size, 1, none⟩ = some (.slice A1 ws.length c1)) := Lib.hid fun W hb => (KC.out _ (HB17.out.trans (hb.mono HB17.out.size))).2.1
          clear hz17 hb17 hw17 k0 k1 k2 k3 k4 k5
          go_upto_region 19 with fail
          rw [HW17.out]
          clear HW17
          have q1 := KC2.out _ hb6
          go_wp2_with (first
            | (go_at_call 36; (with_reducible refine (HnCommit.out _ (by assumption)).mono ?_); rintro r w' ⟨rfl, hb6⟩; clear q1; have q1 := KC2.out _ hb6)
            | (go_at_call 36; (with_reducible refine (HzCommit.out _ (by assumption)).mono ?_); rintro r w' ⟨rfl, hb6⟩; clear q1)
            | (go_at_call 30; (with_reducible refine (HnRead.out _ (by assumption)).mono ?_); rintro r w' ⟨rfl, hb6⟩)
            | (go_at_call 17; (with_reducible refine (HnNow.out _ (by assumption)).mono ?_); rintro r w' ⟨rfl, hb6⟩)
            | (go_at_call 31; (with_reducible refine (HzScan.out _ (by assumption)).mono ?_); rintro r w' ⟨rfl, hb6⟩)
            | (go_at_call 37; (with_reducible refine (HzLatest.out _ (by assumption)).mono ?_); rintro r w' ⟨rfl, hb6⟩)
            | (go_at_call 34; (with_reducible refine (HnCollect.out _ (by assumption)).mono ?_); rintro r w' ⟨rfl, hb6⟩)
            | (go_at_call 26; (with_reducible refine (HnChain.out _ (by assumption)).mono ?_); rintro r w' ⟨rfl, hb6⟩)
            | (go_at_call 23; (with_reducible refine (HzKeys.out _ (by assumption)).mono ?_); rintro r w' ⟨rfl, hb6⟩)
            | (go_at_call 35; (with_reducible refine (HnClone.out _ (by assumption)).mono ?_); rintro r w' ⟨rfl, hb6⟩)
            | (go_at_call 35; (with_reducible refine (HzClone.out _ (by assumption)).mono ?_); rintro r w' ⟨rfl, hb6⟩)
            | (go_at_call 18; (with_reducible refine (HzCount.out _ (by assumption)).mono ?_); rintro r w' ⟨rfl, hb6⟩))
          go_ret
          exact ⟨rfl, HB0.out.trans ((HB17.out.trans (hb6.mono HB17.out.size)).mono HB0.out.size)⟩
    · rw [show fewO [⟨what, ws, low, tm, klo, khi⟩] = false by simpa using fo] at HFO
      clear K
      go_wp2_with (first
        | (go_at_call 10; (with_reducible refine (HL.out _ (by assumption)).mono ?_); rintro r w' ⟨rfl, hb6⟩)
        | (go_at_call 11; (with_reducible refine (HFA.out _ (by assumption)).mono ?_); rintro r w' ⟨rfl, hb6⟩; obtain ⟨k0, k1, k2, k3, k4, k5⟩ := KC.out _ hb6)
        | (go_at_call 11; (with_reducible refine (HFO.out _ (by assumption)).mono ?_); rintro r w' ⟨rfl, hb6⟩))
      go_ret
      exact ⟨rfl, HB0.out.trans (hb6.mono HB0.out.size)⟩
  · rw [show fewO a = false by simpa using fa] at HFA
    clear K
    go_wp2_with (first
      | (go_at_call 10; (with_reducible refine (HL.out _ (by assumption)).mono ?_); rintro r w' ⟨rfl, hb6⟩)
      | (go_at_call 11; (with_reducible refine (HFA.out _ (by assumption)).mono ?_); rintro r w' ⟨rfl, hb6⟩))
    go_ret
    exact ⟨rfl, HB0.out.trans (hb6.mono HB0.out.size)⟩
end storeNone
end Go.Proofs.Ytdenlghnfefbnaa
