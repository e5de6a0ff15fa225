import Derived.Test.YtdenlghnfefbnaaZC14
import Derived.Deep.LoopGhost
/-
  The walk of StoreStays.
-/
namespace Go.Proofs.Ytdenlghnfefbnaa
open Go.RowKit

theorem hs7_keep {w w' : World} {lo hi c : Nat} {A : Option Addr} {d : List UInt8} (h : SlI w lo hi A c d) (hb : Below w.heap.size w w') (hh : hi ≤ w.heap.size := by exact Nat.le_refl _) : SlI w' lo hi A c d := h.keep fun g _ h2 => hb.block g (Nat.lt_of_lt_of_le h2 hh)
namespace storeStays
set_option maxRecDepth 100000 in
set_option maxHeartbeats 16000000 in
theorem walk {St : InStore} (K : StoreC St) (a b : List OpS) (A B : Option Addr) (c d : Nat) (key : KeyS) (w : World) (ha : ChO w w.heap.size A c a) (hb : ChO w w.heap.size B d b) (hkey : key.length ≤ maxLen) :
    Calls Try.prog 4 #[.slice A a.length c, .slice B b.length d, .string (bs key)] w fun r w' => r = .returned (.bool true) ∧ Below w.heap.size w w' := by
  have HL := Lib.hid (live_from K w)
  have HFA := Lib.hid (few_from ha)
  have HFB := Lib.hid (few_from hb)
  have hb6 := Below.refl w.heap.size w
  have hks := hkey
  rw [← bs_size] at hks
  unfold maxLen at hks
  by_cases fa : fewO a = true
  · rw [fa] at HFA
    by_cases fb : fewO b = true
    · rw [fb] at HFB
      by_cases hk : 300 < (bs key).size
      · have d1 : decide (300 < ((bs key).size : Int)) = true := by rw [decide_eq_true_iff]; omega
        have d2 : decide (300 < (bs key).size) = true := by rw [decide_eq_true_iff]; omega
        clear K ha hb fa fb hk hkey
        go_enter Try.func4, Try.ntmps4
        go_wp2_with (first
          | (go_at_call 10; (with_reducible refine (HL.out _ (by assumption)).mono ?_); rintro r w' ⟨rfl, hb6⟩)
          | (go_at_call 11; (with_reducible refine (HFA.out _ (by assumption)).mono ?_); rintro r w' ⟨rfl, hb6⟩)
          | (go_at_call 11; (with_reducible refine (HFB.out _ (by assumption)).mono ?_); rintro r w' ⟨rfl, hb6⟩))
        go_ret
        exact ⟨rfl, hb6⟩
      · have d1 : decide (300 < ((bs key).size : Int)) = false := by rw [decide_eq_false_iff_not]; omega
        have d2 : decide (300 < (bs key).size) = false := by rw [decide_eq_false_iff_not]; omega
        have hkl : key.length ≤ 1048576 := by rw [bs_size] at hk; omega
        obtain ⟨fwa, fla⟩ := fewO_yes fa
        obtain ⟨fwb, flb⟩ := fewO_yes fb
        have HBg := Lib.hid (big_from w)
        have HMd := Lib.hid (made_from K w)
        have HRA := Lib.hid ha.2.2.2
        have HRB := Lib.hid hb.2.2.2
        have HWA := Lib.hid fwa
        have HWB := Lib.hid fwb
        have HK := Lib.hid K
        have HFlA := Lib.hid fla
        have HFlB := Lib.hid flb
        have hal : a.length ≤ 9223372036854775807 := by omega
        have hbl : b.length ≤ 9223372036854775807 := by omega
        clear fla flb
        clear ha hb fa fb hk hkey fwa fwb
        go_enter Try.func4, Try.ntmps4
        go_wp2_with (first
          | (go_at_call 10; (with_reducible refine (HL.out _ (by assumption)).mono ?_); rintro r w' ⟨rfl, hb6⟩)
          | (go_at_call 11; (with_reducible refine (HFA.out _ (by assumption)).mono ?_); rintro r w' ⟨rfl, hb6⟩)
          | (go_at_call 11; (with_reducible refine (HFB.out _ (by assumption)).mono ?_); rintro r w' ⟨rfl, hb6⟩)
          | (go_at_call 29; (with_reducible refine (HBg.out _ (by assumption)).mono ?_); rintro r w' ⟨rfl, hb6⟩)
          | (go_at_call 28; (with_reducible refine (HMd.out _ (by assumption)).mono ?_); rintro r w5 ⟨p, F, rfl, hn⟩; unfold ptrS))
        have HN5 := Lib.hid hn
        clear hn hb6
        go_loopg [42] a.length (fun q i wr => ∃ (j : Nat) (st : PS) (F : Nat → Prop), j + q = a.length ∧ i = .int .i64 j ∧ NewS St w wr p F BigL st)
        case atStart => exact ⟨0, ⟨0, []⟩, F, by omega, rfl, HN5.out⟩
        case round =>
          obtain ⟨j, st, G, hk, rfl, hn⟩ := hrel
          have HJ := Lib.hid hk
          have HN := Lib.hid hn
          clear hk hn
          by_cases hj : j < a.length
          · have hlt : decide ((j : Int) < (a.length : Int)) = true := by simpa using hj
            have hlt2 : decide (j < a.length) = true := by simpa using hj
            obtain ⟨b0, o0, A', c', rfl, _, c0, c1, c2, c3, c4, c5, hok⟩ := (HRA.out.below HN.out.below (Nat.le_refl _) (Nat.le_refl _)).at_ hj
            have hw := HWA.out _ (List.getElem_mem hj)
            generalize a[j] = x at *
            have hba := (Below.refl _ wr).alloc (Nat.le_refl _) (.cells #[.int .i64 x.what, .slice A' x.l.length c', .int .u64 x.low, .int .u64 x.tm, .string (bs x.lo), .string (bs x.hi)] 39)
            have HC := Lib.hid (does_from HK.out (HN.out.next HK.out hba) x A' c' hw.1 hw.2.1 hw.2.2 (hok.below hba HN.out.below.size (Nat.le_refl _)))
            clear hba hok hw
            unfold opVal ptrS at HC
            go_wp2_with fail
            refine HC.out.mono ?_
            rintro r w9 ⟨A9, B9, c9, d9, lo9, hi9, F9, rfl, _, _, _, _, hn9, _, _⟩
            have HN9 := Lib.hid hn9
            clear hn9 HC c0 c1 c2 c3 c4 c5
            unfold toldVal
            go_wp2_with fail
            go_roundg (gk - 1)
            case measure => have := HJ.out; omega
            case rel => exact ⟨j + 1, _, F9, by have := HJ.out; omega, by go_num, HN9.out⟩
          · have hlt : decide ((j : Int) < (a.length : Int)) = false := by simpa using hj
            have HNow := Lib.hid ((HK.out.now p G BigL st wr HN.out.st).mono fun _ _ q => (⟨q.1, HN.out.next HK.out q.2⟩ : _ ∧ NewS St w _ p G BigL st))
            obtain ⟨t, ht⟩ : ∃ t, st.time = t := ⟨_, rfl⟩
            rw [ht] at HNow
            have HT := Lib.hid ht
            have ht64 : t < 18446744073709551616 := by
              have h1 := (HK.out.okay HN.out.st).2.1.2
              have h2 := (HK.out.okay HN.out.st).2.2.2.2
              omega
            have HOk := Lib.hid (HK.out.okay HN.out.st).1
            have hkl2 := hkl
            clear ht
            unfold ptrS at HNow
            go_wp2_with fail
            refine HNow.out.mono ?_
            rintro r w6 ⟨rfl, hn6⟩
            have HN6 := Lib.hid hn6
            have HRd := Lib.hid (HK.out.read p G BigL st key t w6 hn6.st hkl2 ht64)
            clear hn6 HNow
            unfold ptrS at HRd
            go_wp2_with fail
            refine HRd.out.mono ?_
            rintro r w7 ⟨A7, c7, rfl, hs7, hb7⟩
            have HN7 := Lib.hid (HN6.out.next HK.out hb7)
            have HS7 := Lib.hid hs7
            have HZ7 := Lib.hid hb7.size
            have HSc := Lib.hid (HK.out.scan p G BigL st [] [] t w7 HN7.out.st (by simp) (by simp) ht64)
            clear hs7 hb7 HRd
            unfold ptrS at HSc
            rw [bs_nil] at HSc
            generalize hrd : (readS st.K key t).getD [] = rd at *
            generalize hri : (readS st.K key t).isSome = ri at *
            generalize hsp : scanS st.K [] [] t = sp at *
            have HRd := Lib.hid hrd
            have HRi := Lib.hid hri
            have HSp := Lib.hid hsp
            clear hrd hri hsp
            go_wp2_with fail
            refine HSc.out.mono ?_
            rintro r w8 ⟨A8, c8, rfl, hs8, hb8⟩
            have HN8 := Lib.hid (HN7.out.next HK.out hb8)
            have HS8 := Lib.hid (hs8.wide HZ7.out (Nat.le_refl _))
            have HR8 := Lib.hid ((hs7_keep HS7.out hb8).wide (Nat.le_refl _) hb8.size)
            have HUp : Hid (∀ k, G k → k < w6.heap.size ∨ w8.heap.size ≤ k) := Lib.hid fun k hk => .inl (HK.out.upto HN6.out.st k hk)
            clear hs8 hb8 HSc HS7
            go_wp2_with fail
            go_loopg [64] b.length (fun q i wr => ∃ (j : Nat) (s' : PS) (F : Nat → Prop), j + q = b.length ∧ i = .int .i64 j ∧ NewS St w wr p F BigL s' ∧ (∀ k, F k → k < w6.heap.size ∨ w8.heap.size ≤ k) ∧ w8.heap.size ≤ wr.heap.size ∧
              SlI wr w6.heap.size w8.heap.size A7 c7 rd ∧ ChP wr w6.heap.size w8.heap.size A8 c8 sp ∧ t ≤ s'.time ∧ ∀ k, readS s'.K k t = readS st.K k t)
            case atStart => exact ⟨0, st, G, by omega, rfl, HN8.out, HUp.out, Nat.le_refl _, HR8.out, HS8.out, by rw [HT.out]; exact Nat.le_refl _, fun _ => rfl⟩
            case round =>
              obtain ⟨j2, s2, F2, hk2, rfl, hn2, hout2, hsz2, hr2, hp2, ht2, hrd2⟩ := hrel
              have HJ2 := Lib.hid hk2
              have HN2 := Lib.hid hn2
              have HO2 := Lib.hid (And.intro hout2 (And.intro hsz2 (And.intro hr2 (And.intro hp2 (And.intro ht2 hrd2)))))
              clear hk2 hn2 hout2 hsz2 hr2 hp2 ht2 hrd2
              by_cases hj2 : j2 < b.length
              · have hlt3 : decide ((j2 : Int) < (b.length : Int)) = true := by simpa using hj2
                have hlt4 : decide (j2 < b.length) = true := by simpa using hj2
                obtain ⟨b0, o0, A', c', rfl, _, c0, c1, c2, c3, c4, c5, hok⟩ := (HRB.out.below HN2.out.below (Nat.le_refl _) (Nat.le_refl _)).at_ hj2
                have hw := HWB.out _ (List.getElem_mem hj2)
                generalize b[j2] = x at *
                obtain ⟨what, ws, low, tm, klo, khi⟩ := x
                simp only at c0 c1 c2 c3 c4 c5 hw
                by_cases hm : t < low
                · have hm1 : ((t : Int) < (low : Int)) := by omega
                  have hm2 : ¬ ((low : Int) < (t : Int)) := by omega
                  have hm3 : ¬ ((low : Int) ≤ (t : Int)) := by omega
                  have hm4 : ((t : Int) ≤ (low : Int)) := by omega
                  have hba := (Below.refl _ wr).alloc (Nat.le_refl _) (.cells #[.int .i64 what, .slice A' ws.length c', .int .u64 t, .int .u64 tm, .string (bs klo), .string (bs khi)] 39)
                  have hok2 : OkMO wr w.heap.size ⟨⟨what, ws, t, tm, klo, khi⟩, A', c'⟩ := ⟨hok.1, ht64, hok.2.2.1, hok.2.2.2.1, hok.2.2.2.2.1, hok.2.2.2.2.2⟩
                  have HC := Lib.hid (does_from HK.out (HN2.out.next HK.out hba) ⟨what, ws, t, tm, klo, khi⟩ A' c' hw.1 hw.2.1 hw.2.2 (hok2.below hba HN2.out.below.size (Nat.le_refl _)))
                  have HRe := Lib.hid (fun k => read_does (HK.out.okay HN2.out.st).1 BigL ⟨what, ws, t, tm, klo, khi⟩ HO2.out.2.2.2.2.1 (Nat.le_refl _) k)
                  have HTi := Lib.hid (time_does BigL s2 ⟨what, ws, t, tm, klo, khi⟩)
                  have HBA := Lib.hid hba
                  clear hba hok2 hok hw
                  unfold opVal ptrS at HC
                  go_wp2_with fail
                  refine HC.out.mono ?_
                  rintro r w9 ⟨A9, B9, c9, d9, lo9, hi9, F9, rfl, _, _, _, _, hn9, hm9, hf9⟩
                  have HN9 := Lib.hid hn9
                  have HM9 := Lib.hid (And.intro hm9 hf9)
                  clear hn9 HC c0 c1 c2 c3 c4 c5 hm9 hf9
                  unfold toldVal
                  go_wp2_with fail
                  go_roundg (gk - 1)
                  case measure => have := HJ2.out; omega
                  case rel =>
                    have hblk : ∀ g, w6.heap.size ≤ g → g < w8.heap.size → w9.heap[g]? = wr.heap[g]? := fun g h1 h2 => by
                      have h3 := HO2.out.2.1
                      rw [HM9.out.1.block g (Nat.lt_of_lt_of_le (Nat.lt_of_lt_of_le h2 h3) HBA.out.size) (fun hf => by rcases HO2.out.1 g hf with h | h <;> omega)]
                      exact HBA.out.block g (Nat.lt_of_lt_of_le h2 h3)
                    refine ⟨j2 + 1, _, F9, by have := HJ2.out; omega, by go_num, HN9.out, fun k hk => ?_, Nat.le_trans HO2.out.2.1 (Nat.le_trans HBA.out.size HM9.out.1.size), HO2.out.2.2.1.keep hblk, HO2.out.2.2.2.1.keep hblk, Nat.le_trans HO2.out.2.2.2.2.1 HTi.out, fun k => (HRe.out k).trans (HO2.out.2.2.2.2.2 k)⟩
                    rcases HM9.out.2 k hk with h | h
                    · exact HO2.out.1 k h
                    · exact .inr (Nat.le_trans HO2.out.2.1 (Nat.le_trans HBA.out.size h))
                · have hm1 : ¬ ((t : Int) < (low : Int)) := by omega
                  have hm3 : ((low : Int) ≤ (t : Int)) := by omega
                  have hba := (Below.refl _ wr).alloc (Nat.le_refl _) (.cells #[.int .i64 what, .slice A' ws.length c', .int .u64 low, .int .u64 tm, .string (bs klo), .string (bs khi)] 39)
                  have hok2 : OkMO wr w.heap.size ⟨⟨what, ws, low, tm, klo, khi⟩, A', c'⟩ := ⟨hok.1, hok.2.1, hok.2.2.1, hok.2.2.2.1, hok.2.2.2.2.1, hok.2.2.2.2.2⟩
                  have HC := Lib.hid (does_from HK.out (HN2.out.next HK.out hba) ⟨what, ws, low, tm, klo, khi⟩ A' c' hw.1 hw.2.1 hw.2.2 (hok2.below hba HN2.out.below.size (Nat.le_refl _)))
                  have HRe := Lib.hid (fun k => read_does (HK.out.okay HN2.out.st).1 BigL ⟨what, ws, low, tm, klo, khi⟩ HO2.out.2.2.2.2.1 (by show low ≤ t; omega) k)
                  have HTi := Lib.hid (time_does BigL s2 ⟨what, ws, low, tm, klo, khi⟩)
                  have HBA := Lib.hid hba
                  clear hba hok2 hok hw
                  unfold opVal ptrS at HC
                  go_wp2_with fail
                  refine HC.out.mono ?_
                  rintro r w9 ⟨A9, B9, c9, d9, lo9, hi9, F9, rfl, _, _, _, _, hn9, hm9, hf9⟩
                  have HN9 := Lib.hid hn9
                  have HM9 := Lib.hid (And.intro hm9 hf9)
                  clear hn9 HC c0 c1 c2 c3 c4 c5 hm9 hf9
                  unfold toldVal
                  go_wp2_with fail
                  go_roundg (gk - 1)
                  case measure => have := HJ2.out; omega
                  case rel =>
                    have hblk : ∀ g, w6.heap.size ≤ g → g < w8.heap.size → w9.heap[g]? = wr.heap[g]? := fun g h1 h2 => by
                      have h3 := HO2.out.2.1
                      rw [HM9.out.1.block g (Nat.lt_of_lt_of_le (Nat.lt_of_lt_of_le h2 h3) HBA.out.size) (fun hf => by rcases HO2.out.1 g hf with h | h <;> omega)]
                      exact HBA.out.block g (Nat.lt_of_lt_of_le h2 h3)
                    refine ⟨j2 + 1, _, F9, by have := HJ2.out; omega, by go_num, HN9.out, fun k hk => ?_, Nat.le_trans HO2.out.2.1 (Nat.le_trans HBA.out.size HM9.out.1.size), HO2.out.2.2.1.keep hblk, HO2.out.2.2.2.1.keep hblk, Nat.le_trans HO2.out.2.2.2.2.1 HTi.out, fun k => (HRe.out k).trans (HO2.out.2.2.2.2.2 k)⟩
                    rcases HM9.out.2 k hk with h | h
                    · exact HO2.out.1 k h
                    · exact .inr (Nat.le_trans HO2.out.2.1 (Nat.le_trans HBA.out.size h))
              · have hj' : j2 = b.length := by have := HJ2.out; omega
                have hlt3 : decide ((j2 : Int) < (b.length : Int)) = false := by simpa using hj2
                have HRd2 := Lib.hid (HK.out.read p F2 BigL s2 key t wr HN2.out.st hkl2 ht64)
                have HE1 : Hid (readS s2.K key t = readS st.K key t) := Lib.hid (HO2.out.2.2.2.2.2 key)
                have HE2 : Hid (scanS s2.K [] [] t = scanS st.K [] [] t) := Lib.hid (scan_same (HK.out.okay HN2.out.st).1.sort HOk.out.sort HO2.out.2.2.2.2.2)
                rw [HE1.out, HRd.out, HRi.out] at HRd2
                unfold ptrS at HRd2
                go_wp2_with fail
                refine HRd2.out.mono ?_
                rintro r w9 ⟨A9, c9, rfl, hs9, hb9⟩
                have HN9 := Lib.hid (HN2.out.next HK.out hb9)
                have h7a := HO2.out.2.2.1.keep (w' := w9) fun g _ h2 => hb9.block g (Nat.lt_of_lt_of_le h2 HO2.out.2.1)
                have h8a := HO2.out.2.2.2.1.keep (w' := w9) fun g _ h2 => hb9.block g (Nat.lt_of_lt_of_le h2 HO2.out.2.1)
                have HEq := Lib.hid (dEqualJ rd rd A7 A9 c7 c9 w9 h7a hs9)
                have HSc2 := Lib.hid (HK.out.scan p F2 BigL s2 [] [] t w9 HN9.out.st (by simp) (by simp) ht64)
                rw [HE2.out, HSp.out, bs_nil] at HSc2
                rw [beq_self_eq_true] at HEq
                unfold ptrS at HSc2
                have HP8 := Lib.hid h8a
                have HZ9 := Lib.hid (Nat.le_trans HO2.out.2.1 hb9.size)
                clear h7a h8a hs9 hb9 HRd2
                go_wp2_with fail
                refine HEq.out.mono ?_
                rintro r w9b ⟨rfl, rfl⟩
                go_wp2_with fail
                refine HSc2.out.mono ?_
                rintro r w10 ⟨A10, c10, rfl, hs10, hb10⟩
                have HN10 := Lib.hid (HN9.out.next HK.out hb10)
                have h8b := HP8.out.keep (w' := w10) fun g _ h2 => hb10.block g (Nat.lt_of_lt_of_le h2 HZ9.out)
                have hspl : sp.length ≤ 9223372036854775807 := by have := hs10.1; have := hs10.2.1; unfold maxLen at *; omega
                have HSm := Lib.hid (samePairs_any sp sp A8 A10 c8 c10 _ _ _ _ w10 hspl hspl h8b.2.2.2 hs10.2.2.2)
                rw [show sameP sp sp = true from by unfold sameP; simp] at HSm
                have hri : (ri == ri) = true := beq_self_eq_true _
                clear h8b hs10 hb10 HSc2 HEq
                go_wp2_with fail
                refine HSm.out.mono ?_
                rintro r w11 ⟨rfl, hb11⟩
                have HB11 := Lib.hid (HN10.out.below.trans (hb11.mono HN10.out.below.size))
                clear hb11 HSm
                go_wp2_with fail
                go_ret
                exact ⟨rfl, HB11.out⟩
    · rw [show fewO b = false by simpa using fb] at HFB
      clear K ha hb fa fb hkey
      go_enter Try.func4, Try.ntmps4
      go_wp2_with (first
        | (go_at_call 10; (with_reducible refine (HL.out _ (by assumption)).mono ?_); rintro r w' ⟨rfl, hb6⟩)
        | (go_at_call 11; (with_reducible refine (HFA.out _ (by assumption)).mono ?_); rintro r w' ⟨rfl, hb6⟩)
        | (go_at_call 11; (with_reducible refine (HFB.out _ (by assumption)).mono ?_); rintro r w' ⟨rfl, hb6⟩))
      go_ret
      exact ⟨rfl, hb6⟩
  · rw [show fewO a = false by simpa using fa] at HFA
    clear K ha hb fa hkey
    go_enter Try.func4, Try.ntmps4
    go_wp2_with (first
      | (go_at_call 10; (with_reducible refine (HL.out _ (by assumption)).mono ?_); rintro r w' ⟨rfl, hb6⟩)
      | (go_at_call 11; (with_reducible refine (HFA.out _ (by assumption)).mono ?_); rintro r w' ⟨rfl, hb6⟩))
    go_ret
    exact ⟨rfl, hb6⟩
end storeStays
end Go.Proofs.Ytdenlghnfefbnaa
