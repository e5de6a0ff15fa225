import Derived.Test.YtdenlghnfefbnaaZC14
import Derived.Deep.LoopGhost
/-
  The walk of StoreFew.
-/
namespace Go.Proofs.Ytdenlghnfefbnaa
open Go.RowKit

set_option maxRecDepth 100000 in
theorem sizes_field (x y z : Int) (w : World) : (Instr.field 49 (.agg #[.int .i64 x, .int .i64 y, .int .i64 z]) 1).run Try.prog w = .ok (.int .i64 y) w := by
  first
  | rfl
  | simp [Instr.field, run_underlying Try.underlying49, part, asAgg, go_sem]
  | (simp [Instr.field, run_underlying Try.underlying49]; trace_state; sorry)
namespace storeFew
set_option maxRecDepth 100000 in
set_option maxHeartbeats 16000000 in
theorem walk {St : InStore} (K : StoreC St) (a : List OpS) (A : Option Addr) (c low : Nat) (w : World) (ha : ChO w w.heap.size A c a) (hlow : low < 18446744073709551616) :
    Calls Try.prog 8 #[.slice A a.length c, .int .u64 low] w fun r w' => r = .returned (.bool true) ∧ Below w.heap.size w w' := by
  have HL := Lib.hid (live_from K w)
  have HFA := Lib.hid (few_from ha)
  have hb6 := Below.refl w.heap.size w
  by_cases fa : fewO a = true
  · rw [fa] at HFA
    obtain ⟨fwa, fla⟩ := fewO_yes fa
    have HBg := Lib.hid (big_from w)
    have HMd := Lib.hid (made_from K w)
    have HRA := Lib.hid ha.2.2.2
    have HWA := Lib.hid fwa
    have HK := Lib.hid K
    have hal : a.length ≤ 9223372036854775807 := by omega
    clear fla
    clear ha fa fwa
    go_enter Try.func8, Try.ntmps8
    go_wp2_with (first
      | (go_at_call 10; (with_reducible refine (HL.out _ (by assumption)).mono ?_); rintro r w' ⟨rfl, hb6⟩)
      | (go_at_call 11; (with_reducible refine (HFA.out _ (by assumption)).mono ?_); rintro r w' ⟨rfl, hb6⟩)
      | (go_at_call 29; (with_reducible refine (HBg.out _ (by assumption)).mono ?_); rintro r w' ⟨rfl, hb6⟩)
      | (go_at_call 28; (with_reducible refine (HMd.out _ (by assumption)).mono ?_); rintro r w5 ⟨p, F, rfl, hn⟩; unfold ptrS))
    have HN5 := Lib.hid hn
    clear hn hb6
    go_loopg [29] a.length (fun q i wr => ∃ (j : Nat) (st : PS) (F : Nat → Prop), j + q = a.length ∧ i = .int .i64 j ∧ NewS St w wr p F BigL st)
    case atStart => exact ⟨0, ⟨0, []⟩, F, by omega, rfl, HN5.out⟩
    case round =>
      obtain ⟨j, st, G, hk, rfl, hn⟩ := hrel
      have HJ := Lib.hid hk
      have HN := Lib.hid hn
      clear hk hn
      by_cases hj : j < a.length
      · have hlt : decide ((j : Int) < (a.length : Int)) = true := by simpa using hj
        have hlt2 : decide (j < a.length) = true := by simpa using hj
        obtain ⟨b0, o0, A', c', rfl, _, c0, c1, c2, c3, c4, c5, hok⟩ := (HRA.out.below HN.out.below (Nat.le_refl _) (Nat.le_refl _)).at_ hj
        have hw := HWA.out _ (List.getElem_mem hj)
        generalize a[j] = x at *
        have hba := (Below.refl _ wr).alloc (Nat.le_refl _) (.cells #[.int .i64 x.what, .slice A' x.l.length c', .int .u64 x.low, .int .u64 x.tm, .string (bs x.lo), .string (bs x.hi)] 39)
        have HC := Lib.hid (does_from HK.out (HN.out.next HK.out hba) x A' c' hw.1 hw.2.1 hw.2.2 (hok.below hba HN.out.below.size (Nat.le_refl _)))
        clear hba hok hw
        unfold opVal ptrS at HC
        go_wp2_with fail
        refine HC.out.mono ?_
        rintro r w9 ⟨A9, B9, c9, d9, lo9, hi9, F9, rfl, _, _, _, _, hn9, _, _⟩
        have HN9 := Lib.hid hn9
        clear hn9 HC c0 c1 c2 c3 c4 c5
        unfold toldVal
        go_wp2_with fail
        go_roundg (gk - 1)
        case measure => have := HJ.out; omega
        case rel => exact ⟨j + 1, _, F9, by have := HJ.out; omega, by go_num, HN9.out⟩
      · have hlt : decide ((j : Int) < (a.length : Int)) = false := by simpa using hj
        have HOk := Lib.hid (HK.out.okay HN.out.st)
        have HCnt := Lib.hid (HK.out.count p G BigL st wr HN.out.st)
        have HSz := Lib.hid (in_sizes big_may (HK.out.okay HN.out.st).2.1)
        unfold ptrS at HCnt
        go_wp2_with fail
        refine HCnt.out.mono ?_
        rintro r w6 ⟨rfl, hb6⟩
        have HN6 := Lib.hid (HN.out.next HK.out hb6)
        have HCo := Lib.hid (HK.out.collect p G BigL st low w6 HN6.out.st hlow)
        obtain ⟨n0, hn0⟩ : ∃ n, versS st.K = n := ⟨_, rfl⟩
        obtain ⟨n1, hn1⟩ : ∃ n, versS (collectS st.K low) = n := ⟨_, rfl⟩
        rw [hn0, hn1] at HCo
        rw [hn0] at HSz
        have hn01 : n1 ≤ n0 := by rw [← hn0, ← hn1]; exact vers_collect HOk.out.1 low
        have hn0b : n0 ≤ 1048576 := HSz.out.2.1
        clear hb6 HCnt
        unfold ptrS at HCo
        rw [hn0]
        have hfld := sizes_field
        go_wp2_with fail
        refine HCo.out.mono ?_
        rintro r w7 ⟨rfl, F7, hst7, hm7, hf7⟩
        have HN7 := Lib.hid (HN6.out.turn hst7 hm7 hf7)
        have HOk7 := Lib.hid (HK.out.okay HN7.out.st)
        have HFew : Hid (∀ x : KeyS × List Ver, x ∈ collectS st.K low → (x.2.filter fun v => decide (v.tm ≤ low)).length ≤ 1 ∧ (∀ v ∈ x.2, v.tm ≤ low → v.gone = false) ∧ x.2 ≠ []) := Lib.hid fun x hx => few_left HOk.out.1 low hx
        have HAgain : Hid (collectS (collectS st.K low) low = collectS st.K low) := Lib.hid (collect_collect HOk.out.1.sort HOk.out.1.rise (Nat.le_refl _))
        have HKe := Lib.hid (HK.out.keys p F7 BigL ⟨st.time, collectS st.K low⟩ w7 HN7.out.st)
        clear hst7 hm7 hf7 HCo
        unfold ptrS at HKe
        obtain ⟨K2, hK2⟩ : ∃ K2, collectS st.K low = K2 := ⟨_, rfl⟩
        rw [hK2] at HN7 HOk7 HFew HKe HAgain hn1
        clear hK2
        simp only at HKe
        go_wp2_with fail
        refine HKe.out.mono ?_
        rintro r w8 ⟨A8, c8, rfl, hl8, hc8, hz8, hrow8, hb8⟩
        have HN8 := Lib.hid (HN7.out.next HK.out hb8)
        have HRow := Lib.hid hrow8
        have hkl : K2.length ≤ 9223372036854775807 := by unfold maxLen at hc8; omega
        clear hl8 hc8 hz8 hrow8 hb8 HKe
        go_wp2_with fail
        go_loopg [46] K2.length (fun q i wq => ∃ j2 : Nat, j2 + q = K2.length ∧ i = .int .i64 j2 ∧ Below w8.heap.size w8 wq)
        case atStart => exact ⟨0, by omega, rfl, Below.refl _ _⟩
        case round =>
          obtain ⟨j2, hk2, rfl, hb2⟩ := hrel
          have HJ2 := Lib.hid hk2
          have HB2 := Lib.hid hb2
          have HN2 := Lib.hid (HN8.out.next HK.out hb2)
          clear hk2 hb2
          by_cases hj2 : j2 < K2.length
          · have hlt3 : decide ((j2 : Int) < (K2.length : Int)) = true := by simpa using hj2
            have hlt4 : decide (j2 < K2.length) = true := by simpa using hj2
            have hjm : j2 < (K2.map Prod.fst).length := by simpa using hj2
            obtain ⟨b0, o0, rfl, _, hbh, hcell⟩ := (HRow.out.below HB2.out (Nat.le_refl _)).at_ kF hjm
            have c0 := hcell 0 _ rfl
            rw [List.getElem_map] at c0
            have hmem := List.getElem_mem hj2
            have hch := chainS_mem HOk7.out.1.sort hmem
            obtain ⟨f1, f2, f3⟩ := HFew.out _ hmem
            have hkx : (K2[j2]'hj2).1.length ≤ 1048576 := Nat.le_trans (HOk7.out.2.2.2.1 _ hmem).2 (by omega)
            have hsz := (chain_sizes K2 (K2[j2]'hj2).1).1
            have hvs := HOk7.out.2.1
            rw [hch] at hsz
            clear hcell hmem hbh
            generalize K2[j2] = x at *
            obtain ⟨xk, xl⟩ := x
            simp only at c0 hch f1 f2 f3 hkx hsz
            have hxl : xl.length ≤ 1048576 := Nat.le_trans hsz (in_sizes big_may hvs).2.1
            have HCh : Hid (∀ W, NewS St w W p F7 BigL ⟨st.time, K2⟩ → Calls Try.prog 26 #[.pointer (some ⟨p, 0, none⟩), .string (bs xk)] W fun r w' => ∃ A c, r = .returned (.slice A xl.length c) ∧ RowH w' w'.heap.size A xl ∧ Below W.heap.size W w') := Lib.hid fun W hn => by
              have h := HK.out.chain p F7 BigL ⟨st.time, K2⟩ xk W hn.st hkx
              simp only at h
              rw [hch] at h
              exact h.mono fun _ _ ⟨A, c, e, _, _, _, h4, h5⟩ => ⟨A, c, e, h4, h5⟩
            have HF1 := Lib.hid f1
            have HF2 := Lib.hid f2
            have hne : 0 < xl.length := List.length_pos_iff.2 f3
            clear f1 f2 f3 hch hkx hsz hvs
            simp only [Nat.mul_one, Nat.add_zero] at c0
            go_wp2_with fail
            refine (HCh.out _ HN2.out).mono ?_
            rintro r w9 ⟨A9, c9, rfl, hr9, hb9⟩
            have HN9 := Lib.hid (HN2.out.next HK.out hb9)
            have HB9 := Lib.hid (HB2.out.trans (hb9.mono HB2.out.size))
            have HR9 := Lib.hid hr9
            clear hr9 hb9 c0
            obtain ⟨gq, hgq⟩ : ∃ n, n = gk := ⟨_, rfl⟩
            go_wp2_with fail
            go_loopg [12, 54] xl.length (fun q vn i wz => ∃ j3 : Nat, j3 + q = xl.length ∧ i = .int .i64 j3 ∧ vn = .int .i64 (((xl.take j3).filter fun v => decide (v.tm ≤ low)).length : Nat) ∧ Below w9.heap.size w9 wz)
            case atStart => exact ⟨0, by omega, rfl, rfl, Below.refl _ _⟩
            case round =>
              obtain ⟨j3, hk3, rfl, rfl, hb3⟩ := hrel
              have HJ3 := Lib.hid hk3
              have HB3 := Lib.hid hb3
              clear hk3 hb3
              have HLe : Hid (((xl.take j3).filter fun v => decide (v.tm ≤ low)).length ≤ 1048576) := Lib.hid (Nat.le_trans (List.length_filter_le _ _) (Nat.le_trans (List.length_take_le' _ _) hxl))
              by_cases hj3 : j3 < xl.length
              · have hlt5 : decide ((j3 : Int) < (xl.length : Int)) = true := by simpa using hj3
                have hlt6 : decide (j3 < xl.length) = true := by simpa using hj3
                obtain ⟨b1, o1, A', c', rfl, _, d0, d1, d2, _, htm⟩ := (HR9.out.below HB3.out (Nat.le_refl _) (Nat.le_refl _)).at_ hj3
                have HTk := Lib.hid (show xl.take (j3 + 1) = xl.take j3 ++ [xl[j3]] from by rw [List.take_succ_eq_append_getElem hj3])
                have hg := HF2.out _ (List.getElem_mem hj3)
                generalize xl[j3] = v at *
                obtain ⟨tm, gone, dat⟩ := v
                simp only at d0 d1 d2 htm hg
                have HBA := Lib.hid (HB3.out.alloc HB3.out.size (.cells #[.int .u64 tm, .bool gone, .slice A' dat.length c'] 72))
                have hle := HLe.out
                generalize hcn : ((xl.take j3).filter fun v => decide (v.tm ≤ low)).length = n at *
                have HCN := Lib.hid hcn
                clear hcn
                by_cases h1 : tm ≤ low
                · have z1 : decide ((tm : Int) ≤ (low : Int)) = true := by rw [decide_eq_true_iff]; omega
                  have z2 : decide (tm ≤ low) = true := by rw [decide_eq_true_iff]; omega
                  have hgo := hg h1
                  subst hgo
                  have HF := Lib.hid (show ((xl.take (j3 + 1)).filter fun v => decide (v.tm ≤ low)).length = n + 1 by
                    rw [HTk.out, List.filter_append, List.length_append, HCN.out]
                    simp [z2])
                  clear h1 hg
                  go_wp2_with fail
                  go_roundg (gk - 1)
                  case measure => have := HJ3.out; omega
                  case rel => exact ⟨j3 + 1, by have := HJ3.out; omega, by go_num, by rw [HF.out]; go_num, HBA.out⟩
                · have z1 : decide ((tm : Int) ≤ (low : Int)) = false := by rw [decide_eq_false_iff_not]; omega
                  have z2 : decide (tm ≤ low) = false := by rw [decide_eq_false_iff_not]; omega
                  have HF := Lib.hid (show ((xl.take (j3 + 1)).filter fun v => decide (v.tm ≤ low)).length = n by
                    rw [HTk.out, List.filter_append, List.length_append, HCN.out]
                    simp [z2])
                  clear h1 hg
                  go_wp2_with fail
                  go_roundg (gk - 1)
                  case measure => have := HJ3.out; omega
                  case rel => exact ⟨j3 + 1, by have := HJ3.out; omega, by go_num, by rw [HF.out], HBA.out⟩
              · have hj' : j3 = xl.length := by have := HJ3.out; omega
                have hlt5 : decide ((j3 : Int) < (xl.length : Int)) = false := by simpa using hj3
                have hn1' : ((xl.take j3).filter fun v => decide (v.tm ≤ low)).length ≤ 1 := by rw [hj', List.take_length]; exact HF1.out
                generalize ((xl.take j3).filter fun v => decide (v.tm ≤ low)).length = n at *
                have z1 : decide (1 < (n : Int)) = false := by rw [decide_eq_false_iff_not]; omega
                have z2 : decide (1 < n) = false := by rw [decide_eq_false_iff_not]; omega
                have HN3 := Lib.hid (HN9.out.next HK.out HB3.out)
                have e0 : ((xl.length : Int) == 0) = false := by rw [beq_eq_false_iff_ne]; omega
                have e00 : ¬ xl = [] := fun h => by rw [h] at hne; exact absurd hne (by simp)
                clear hj' hn1'
                go_wp2_with fail
                refine (HCh.out _ HN3.out).mono ?_
                rintro r w10 ⟨A10, c10, rfl, _, hb10⟩
                have HB10 := Lib.hid (HB9.out.trans ((HB3.out.trans (hb10.mono HB3.out.size)).mono HB9.out.size))
                clear hb10
                go_wp2_with fail
                go_roundg (gq - 1)
                case measure => have := HJ2.out; omega
                case rel => exact ⟨j2 + 1, by have := HJ2.out; omega, by go_num, HB10.out⟩
          · have hlt3 : decide ((j2 : Int) < (K2.length : Int)) = false := by simpa using hj2
            have HCnt2 := Lib.hid (HK.out.count p F7 BigL ⟨st.time, K2⟩ wr HN2.out.st)
            simp only at HCnt2
            rw [hn1] at HCnt2
            unfold ptrS at HCnt2
            go_wp2_with fail
            refine HCnt2.out.mono ?_
            rintro r w9 ⟨rfl, hb9⟩
            have HN9 := Lib.hid (HN2.out.next HK.out hb9)
            have HCo2 := Lib.hid (HK.out.collect p F7 BigL ⟨st.time, K2⟩ low w9 HN9.out.st hlow)
            simp only at HCo2
            rw [HAgain.out, hn1, Nat.sub_self] at HCo2
            unfold ptrS at HCo2
            have e0 : (n0 : Int) - (n1 : Int) = ((n0 - n1 : Nat) : Int) := by omega
            have e1 : (((n0 - n1 : Nat) : Int) == ((n0 - n1 : Nat) : Int)) = true := beq_self_eq_true _
            clear hb9 HCnt2
            go_wp2_with fail
            refine HCo2.out.mono ?_
            rintro r w10 ⟨rfl, F10, hst10, hm10, hf10⟩
            have HN10 := Lib.hid (HN9.out.turn hst10 hm10 hf10)
            clear hst10 hm10 hf10 HCo2
            go_wp2_with fail
            go_ret
            exact ⟨rfl, HN10.out.below⟩
  · rw [show fewO a = false by simpa using fa] at HFA
    clear K ha fa
    go_enter Try.func8, Try.ntmps8
    go_wp2_with (first
      | (go_at_call 10; (with_reducible refine (HL.out _ (by assumption)).mono ?_); rintro r w' ⟨rfl, hb6⟩)
      | (go_at_call 11; (with_reducible refine (HFA.out _ (by assumption)).mono ?_); rintro r w' ⟨rfl, hb6⟩))
    go_ret
    exact ⟨rfl, hb6⟩
end storeFew
end Go.Proofs.Ytdenlghnfefbnaa
