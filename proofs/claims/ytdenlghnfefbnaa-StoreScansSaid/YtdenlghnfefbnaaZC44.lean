import Derived.Test.YtdenlghnfefbnaaZC14
import Derived.Deep.LoopGhost
/-
  The walk of StoreScans.
-/
namespace Go.Proofs.Ytdenlghnfefbnaa
open Go.RowKit

namespace storeScans
set_option maxRecDepth 100000 in
set_option maxHeartbeats 16000000 in
theorem walk {St : InStore} (K : StoreC St) (a : List OpS) (A : Option Addr) (c : Nat) (lo hi key : KeyS) (at_ : Nat) (w : World) (ha : ChO w w.heap.size A c a) (l1 : lo.length ≤ maxLen) (l2 : hi.length ≤ maxLen) (l3 : key.length ≤ maxLen) (hat : at_ < 18446744073709551616) :
    Calls Try.prog 5 #[.slice A a.length c, .string (bs lo), .string (bs hi), .string (bs key), .int .u64 at_] w fun r w' => r = .returned (.bool true) ∧ Below w.heap.size w w' := by
  have HL := Lib.hid (live_from K w)
  have HFA := Lib.hid (few_from ha)
  have hb6 := Below.refl w.heap.size w
  rw [← bs_size] at l1 l2 l3
  unfold maxLen at l1 l2 l3
  by_cases fa : fewO a = true
  · rw [fa] at HFA
    by_cases hlo : 300 < (bs lo).size
    · have elo1 : decide (300 < ((bs lo).size : Int)) = true := by rw [decide_eq_true_iff]; omega
      have elo2 : decide (300 < (bs lo).size) = true := by rw [decide_eq_true_iff]; omega
      clear K ha fa hlo
      go_enter Try.func5, Try.ntmps5
      go_wp2_with (first
        | (go_at_call 10; (with_reducible refine (HL.out _ (by assumption)).mono ?_); rintro r w' ⟨rfl, hb6⟩)
        | (go_at_call 11; (with_reducible refine (HFA.out _ (by assumption)).mono ?_); rintro r w' ⟨rfl, hb6⟩))
      go_ret
      exact ⟨rfl, hb6⟩
    · have elo1 : decide (300 < ((bs lo).size : Int)) = false := by rw [decide_eq_false_iff_not]; omega
      have elo2 : decide (300 < (bs lo).size) = false := by rw [decide_eq_false_iff_not]; omega
      have klo : lo.length ≤ 1048576 := by rw [bs_size] at hlo; omega
      by_cases hhi : 300 < (bs hi).size
      · have ehi1 : decide (300 < ((bs hi).size : Int)) = true := by rw [decide_eq_true_iff]; omega
        have ehi2 : decide (300 < (bs hi).size) = true := by rw [decide_eq_true_iff]; omega
        clear K ha fa hlo hhi
        go_enter Try.func5, Try.ntmps5
        go_wp2_with (first
          | (go_at_call 10; (with_reducible refine (HL.out _ (by assumption)).mono ?_); rintro r w' ⟨rfl, hb6⟩)
          | (go_at_call 11; (with_reducible refine (HFA.out _ (by assumption)).mono ?_); rintro r w' ⟨rfl, hb6⟩))
        go_ret
        exact ⟨rfl, hb6⟩
      · have ehi1 : decide (300 < ((bs hi).size : Int)) = false := by rw [decide_eq_false_iff_not]; omega
        have ehi2 : decide (300 < (bs hi).size) = false := by rw [decide_eq_false_iff_not]; omega
        have khi : hi.length ≤ 1048576 := by rw [bs_size] at hhi; omega
        by_cases hkey : 300 < (bs key).size
        · have ekey1 : decide (300 < ((bs key).size : Int)) = true := by rw [decide_eq_true_iff]; omega
          have ekey2 : decide (300 < (bs key).size) = true := by rw [decide_eq_true_iff]; omega
          clear K ha fa hlo hhi hkey
          go_enter Try.func5, Try.ntmps5
          go_wp2_with (first
            | (go_at_call 10; (with_reducible refine (HL.out _ (by assumption)).mono ?_); rintro r w' ⟨rfl, hb6⟩)
            | (go_at_call 11; (with_reducible refine (HFA.out _ (by assumption)).mono ?_); rintro r w' ⟨rfl, hb6⟩))
          go_ret
          exact ⟨rfl, hb6⟩
        · have ekey1 : decide (300 < ((bs key).size : Int)) = false := by rw [decide_eq_false_iff_not]; omega
          have ekey2 : decide (300 < (bs key).size) = false := by rw [decide_eq_false_iff_not]; omega
          have kkey : key.length ≤ 1048576 := by rw [bs_size] at hkey; omega
          obtain ⟨fwa, fla⟩ := fewO_yes fa
          have HBg := Lib.hid (big_from w)
          have HMd := Lib.hid (made_from K w)
          have HRA := Lib.hid ha.2.2.2
          have HWA := Lib.hid fwa
          have HK := Lib.hid K
          have hal : a.length ≤ 9223372036854775807 := by omega
          clear fla
          clear ha fa hlo hhi hkey fwa l1 l2 l3
          go_enter Try.func5, Try.ntmps5
          go_wp2_with (first
            | (go_at_call 10; (with_reducible refine (HL.out _ (by assumption)).mono ?_); rintro r w' ⟨rfl, hb6⟩)
            | (go_at_call 11; (with_reducible refine (HFA.out _ (by assumption)).mono ?_); rintro r w' ⟨rfl, hb6⟩)
            | (go_at_call 29; (with_reducible refine (HBg.out _ (by assumption)).mono ?_); rintro r w' ⟨rfl, hb6⟩)
            | (go_at_call 28; (with_reducible refine (HMd.out _ (by assumption)).mono ?_); rintro r w5 ⟨p, F, rfl, hn⟩; unfold ptrS))
          have HN5 := Lib.hid hn
          clear hn hb6
          go_loopg [51] a.length (fun q i wr => ∃ (j : Nat) (st : PS) (F : Nat → Prop), j + q = a.length ∧ i = .int .i64 j ∧ NewS St w wr p F BigL st)
          case atStart => exact ⟨0, ⟨0, []⟩, F, by omega, rfl, HN5.out⟩
          case round =>
            obtain ⟨j, st, G, hk, rfl, hn⟩ := hrel
            have HJ := Lib.hid hk
            have HN := Lib.hid hn
            clear hk hn
            by_cases hj : j < a.length
            · have hlt : decide ((j : Int) < (a.length : Int)) = true := by simpa using hj
              have hlt2 : decide (j < a.length) = true := by simpa using hj
              obtain ⟨b0, o0, A', c', rfl, _, c0, c1, c2, c3, c4, c5, hok⟩ := (HRA.out.below HN.out.below (Nat.le_refl _) (Nat.le_refl _)).at_ hj
              have hw := HWA.out _ (List.getElem_mem hj)
              generalize a[j] = x at *
              have hba := (Below.refl _ wr).alloc (Nat.le_refl _) (.cells #[.int .i64 x.what, .slice A' x.l.length c', .int .u64 x.low, .int .u64 x.tm, .string (bs x.lo), .string (bs x.hi)] 39)
              have HC := Lib.hid (does_from HK.out (HN.out.next HK.out hba) x A' c' hw.1 hw.2.1 hw.2.2 (hok.below hba HN.out.below.size (Nat.le_refl _)))
              clear hba hok hw
              unfold opVal ptrS at HC
              go_wp2_with fail
              refine HC.out.mono ?_
              rintro r w9 ⟨A9, B9, c9, d9, lo9, hi9, F9, rfl, _, _, _, _, hn9, _, _⟩
              have HN9 := Lib.hid hn9
              clear hn9 HC c0 c1 c2 c3 c4 c5
              unfold toldVal
              go_wp2_with fail
              go_roundg (gk - 1)
              case measure => have := HJ.out; omega
              case rel => exact ⟨j + 1, _, F9, by have := HJ.out; omega, by go_num, HN9.out⟩
            · have hlt : decide ((j : Int) < (a.length : Int)) = false := by simpa using hj
              have HSc := Lib.hid (HK.out.scan p G BigL st lo hi at_ wr HN.out.st klo khi hat)
              have HOk := Lib.hid (HK.out.okay HN.out.st)
              unfold ptrS at HSc
              go_wp2_with fail
              refine HSc.out.mono ?_
              rintro r w7 ⟨A7, c7, rfl, hs7, hb7⟩
              have HN7 := Lib.hid (HN.out.next HK.out hb7)
              have HS7 := Lib.hid hs7
              clear hs7 hb7 HSc
              have HMem := Lib.hid (fun (x : KeyS × List UInt8) => mem_scan HOk.out.1.sort (lo := lo) (hi := hi) (t := at_) (p := x))
              have HRise := Lib.hid (scan_rise HOk.out.1.sort lo hi at_)
              generalize scanS st.K lo hi at_ = sp at *
              have hspl : sp.length ≤ 9223372036854775807 := by have := HS7.out.1; have := HS7.out.2.1; unfold maxLen at *; omega
              obtain ⟨lo7, hlo7⟩ : ∃ n, wr.heap.size = n := ⟨_, rfl⟩
              rw [hlo7] at HS7
              clear hlo7
              go_wp2_with fail
              go_loopg [14, 15, 65] sp.length (fun q vl vt i wr' => ∃ (j : Nat) (last : KeyS), j + q = sp.length ∧ i = .int .i64 j ∧ vl = .string (bs last) ∧ vt = .bool ((sp.take j).any fun y => y.1 == key) ∧ NewS St w wr' p G BigL st ∧ w7.heap.size ≤ wr'.heap.size ∧ (∀ h : 0 < j, last = ((sp[j - 1]?).map Prod.fst).getD []) ∧ ChP wr' lo7 w7.heap.size A7 c7 sp)
              case atStart => exact ⟨0, [], by omega, rfl, rfl, rfl, HN7.out, Nat.le_refl _, fun h => absurd h (by omega), HS7.out⟩
              case round =>
                obtain ⟨j2, last, hk2, rfl, rfl, rfl, hn2, hz1, hz2, hz3⟩ := hrel
                have HJ2 := Lib.hid hk2
                have HN2 := Lib.hid hn2
                have HZ := Lib.hid (And.intro hz1 (And.intro hz2 (And.intro hn2.below (And.intro hz3 hz3.2.2.2))))
                clear hk2 hn2 hz1 hz2 hz3
                by_cases hj2 : j2 < sp.length
                · have hlt3 : decide ((j2 : Int) < (sp.length : Int)) = true := by simpa using hj2
                  have hlt4 : decide (j2 < sp.length) = true := by simpa using hj2
                  have hsz7 := HZ.out.1
                  obtain ⟨b0, o0, A', c', rfl, _, c0, c1, hs⟩ := HZ.out.2.2.2.2.at_ hj2
                  have HTk := Lib.hid (show sp.take (j2 + 1) = sp.take j2 ++ [sp[j2]] from by rw [List.take_succ_eq_append_getElem hj2])
                  have hmx := (HMem.out (sp[j2]'hj2)).1 (List.getElem_mem hj2)
                  have HPrev := Lib.hid (show ∀ h : 0 < j2, blt last (sp[j2]'hj2).1 = true from fun h => by
                    rw [HZ.out.2.1 h, List.getElem?_eq_getElem (show j2 - 1 < sp.length by omega)]
                    exact List.pairwise_iff_getElem.1 HRise.out (j2 - 1) j2 (by omega) hj2 (by omega))
                  have HLast := Lib.hid (show (sp[j2]'hj2).1 = ((sp[j2 + 1 - 1]?).map Prod.fst).getD [] from by rw [Nat.add_sub_cancel, List.getElem?_eq_getElem hj2]; rfl)
                  have hkx : (sp[j2]'hj2).1.length ≤ 1048576 := by
                    have hn : chainS st.K (sp[j2]'hj2).1 ≠ [] := fun e => by
                      have := hmx.2
                      unfold readS at this
                      rw [e] at this
                      cases this
                    exact Nat.le_trans (HOk.out.2.2.2.1 _ (chainS_some hn)).2 (by omega)
                  generalize sp[j2] = x at *
                  obtain ⟨xk, xb⟩ := x
                  simp only at c0 c1 hs hmx HPrev hkx HLast
                  have hin := hmx.1
                  unfold inS at hin
                  rw [Bool.and_eq_true, Bool.not_eq_true', Bool.or_eq_true] at hin
                  have q3 : Op.bytesLess (bs xk).toList (bs lo).toList = false := by rw [bs_less]; exact hin.1
                  have HQ5 := Lib.hid (fun (h : hi ≠ []) => show Op.bytesLess (bs xk).toList (bs hi).toList = true by rw [bs_less]; exact hin.2.resolve_left (by simpa using h))
                  have hba := (Below.refl _ wr).alloc (Nat.le_refl _) (.cells #[.string (bs xk), .slice A' xb.length c'] 68)
                  have HRdx := Lib.hid (HK.out.read p G BigL st xk at_ _ (HN2.out.next HK.out hba).st hkx hat)
                  rw [hmx.2] at HRdx
                  have HNA := Lib.hid (HN2.out.next HK.out hba)
                  have HNew := Lib.hid (heap_alloc_new wr (.cells #[.string (bs xk), .slice A' xb.length c'] 68))
                  have HXB := Lib.hid (hs.keep (w' := wr.alloc (.cells #[.string (bs xk), .slice A' xb.length c'] 68)) fun g _ h2 => hba.block g (Nat.lt_of_lt_of_le h2 hsz7))
                  have HSzA := Lib.hid hba.size
                  have q6 := bs_same xk key
                  generalize hB : (xk == key) = B2 at *
                  have HB2 := Lib.hid hB
                  clear hs hba hmx hin hB
                  unfold ptrS at HRdx
                  have e0 : (some xb).getD ([] : List UInt8) = xb := rfl
                  have e1 : (some xb).isSome = true := rfl
                  rw [e0, e1] at HRdx
                  clear e0 e1
                  go_wp2_with fail
                  refine HRdx.out.mono ?_
                  rintro r w9 ⟨A9, c9, rfl, hs9, hb9⟩
                  have hx := heap_below HNew.out hb9 (by simp)
                  have x0 := cell_of_row w9 _ 0 _ _ _ hx
                  have x1 := cell_of_row w9 _ 1 _ _ _ hx
                  have HN9 := Lib.hid (HNA.out.next HK.out hb9)
                  have HEq := Lib.hid (dEqualJ xb xb A9 A' c9 c' w9 hs9 (HXB.out.keep fun g _ h2 => hb9.block g (Nat.lt_of_lt_of_le h2 (Nat.le_trans hsz7 HSzA.out))))
                  rw [beq_self_eq_true] at HEq
                  have HKp := Lib.hid (HZ.out.2.2.2.1.keep (w' := w9) fun g _ h2 => (hb9.block g (Nat.lt_of_lt_of_le h2 (Nat.le_trans hsz7 HSzA.out))).trans (((Below.refl _ wr).alloc (Nat.le_refl _) (.cells #[.string (bs xk), .slice A' xb.length c'] 68)).block g (Nat.lt_of_lt_of_le h2 hsz7)))
                  have HZ9 := Lib.hid (Nat.le_trans hsz7 (Nat.le_trans HSzA.out hb9.size))
                  clear hx hs9 hb9 HRdx c0 c1 hsz7 HXB
                  generalize hT : (sp.take j2).any (fun y => y.1 == key) = T at *
                  have HT1 := Lib.hid (show (sp.take (j2 + 1)).any (fun y => y.1 == key) = (T || B2) by rw [HTk.out, List.any_append, hT]; simp [HB2.out])
                  clear hT
                  have hleq := string_leqJ
                  have hgeq := string_geqJ
                  by_cases h0 : 0 < j2
                  · have z1 : decide (0 < (j2 : Int)) = true := by rw [decide_eq_true_iff]; omega
                    have z2 : decide (0 < j2) = true := by rw [decide_eq_true_iff]; omega
                    have q1 : Op.bytesLess (bs xk).toList (bs last).toList = false := by rw [bs_less]; exact blt_asymm (HPrev.out h0)
                    have q2 : ((bs xk).toList == (bs last).toList) = false := by rw [bs_same]; exact beq_neB fun e => blt_ne (HPrev.out h0) e.symm
                    by_cases hh : hi = []
                    · have q4 : ((bs hi).toList == (⟨#[]⟩ : ByteArray).toList) = true := by rw [hh, ← bs_nil]; exact beq_self_eq_true _
                      have q7 : (bs hi).toList = [] := by rw [hh, bs_list]
                      clear hh h0
                      cases T
                      · go_wp2_with fail
                        refine HEq.out.mono ?_
                        rintro r w9b ⟨rfl, rfl⟩
                        go_wp2_with fail
                        go_roundg (gk - 1)
                        case measure => have := HJ2.out; omega
                        case rel => exact ⟨j2 + 1, xk, by have := HJ2.out; omega, by go_num, rfl, by rw [HT1.out]; rfl, HN9.out, HZ9.out, fun _ => HLast.out, HKp.out⟩
                      · go_wp2_with fail
                        refine HEq.out.mono ?_
                        rintro r w9b ⟨rfl, rfl⟩
                        go_wp2_with fail
                        go_roundg (gk - 1)
                        case measure => have := HJ2.out; omega
                        case rel => exact ⟨j2 + 1, xk, by have := HJ2.out; omega, by go_num, rfl, by rw [HT1.out]; rfl, HN9.out, HZ9.out, fun _ => HLast.out, HKp.out⟩
                    · have q4 : ((bs hi).toList == (⟨#[]⟩ : ByteArray).toList) = false := by rw [← bs_nil, bs_same]; exact beq_neB hh
                      have q5 := HQ5.out hh
                      have q7 : ¬ (bs hi).toList = [] := by rw [bs_list]; exact hh
                      clear hh h0
                      cases T
                      · go_wp2_with fail
                        refine HEq.out.mono ?_
                        rintro r w9b ⟨rfl, rfl⟩
                        go_wp2_with fail
                        go_roundg (gk - 1)
                        case measure => have := HJ2.out; omega
                        case rel => exact ⟨j2 + 1, xk, by have := HJ2.out; omega, by go_num, rfl, by rw [HT1.out]; rfl, HN9.out, HZ9.out, fun _ => HLast.out, HKp.out⟩
                      · go_wp2_with fail
                        refine HEq.out.mono ?_
                        rintro r w9b ⟨rfl, rfl⟩
                        go_wp2_with fail
                        go_roundg (gk - 1)
                        case measure => have := HJ2.out; omega
                        case rel => exact ⟨j2 + 1, xk, by have := HJ2.out; omega, by go_num, rfl, by rw [HT1.out]; rfl, HN9.out, HZ9.out, fun _ => HLast.out, HKp.out⟩
                  · have z1 : decide (0 < (j2 : Int)) = false := by rw [decide_eq_false_iff_not]; omega
                    have z2 : decide (0 < j2) = false := by rw [decide_eq_false_iff_not]; omega
                    by_cases hh : hi = []
                    · have q4 : ((bs hi).toList == (⟨#[]⟩ : ByteArray).toList) = true := by rw [hh, ← bs_nil]; exact beq_self_eq_true _
                      have q7 : (bs hi).toList = [] := by rw [hh, bs_list]
                      clear hh h0
                      cases T
                      · go_wp2_with fail
                        refine HEq.out.mono ?_
                        rintro r w9b ⟨rfl, rfl⟩
                        go_wp2_with fail
                        go_roundg (gk - 1)
                        case measure => have := HJ2.out; omega
                        case rel => exact ⟨j2 + 1, xk, by have := HJ2.out; omega, by go_num, rfl, by rw [HT1.out]; rfl, HN9.out, HZ9.out, fun _ => HLast.out, HKp.out⟩
                      · go_wp2_with fail
                        refine HEq.out.mono ?_
                        rintro r w9b ⟨rfl, rfl⟩
                        go_wp2_with fail
                        go_roundg (gk - 1)
                        case measure => have := HJ2.out; omega
                        case rel => exact ⟨j2 + 1, xk, by have := HJ2.out; omega, by go_num, rfl, by rw [HT1.out]; rfl, HN9.out, HZ9.out, fun _ => HLast.out, HKp.out⟩
                    · have q4 : ((bs hi).toList == (⟨#[]⟩ : ByteArray).toList) = false := by rw [← bs_nil, bs_same]; exact beq_neB hh
                      have q5 := HQ5.out hh
                      have q7 : ¬ (bs hi).toList = [] := by rw [bs_list]; exact hh
                      clear hh h0
                      cases T
                      · go_wp2_with fail
                        refine HEq.out.mono ?_
                        rintro r w9b ⟨rfl, rfl⟩
                        go_wp2_with fail
                        go_roundg (gk - 1)
                        case measure => have := HJ2.out; omega
                        case rel => exact ⟨j2 + 1, xk, by have := HJ2.out; omega, by go_num, rfl, by rw [HT1.out]; rfl, HN9.out, HZ9.out, fun _ => HLast.out, HKp.out⟩
                      · go_wp2_with fail
                        refine HEq.out.mono ?_
                        rintro r w9b ⟨rfl, rfl⟩
                        go_wp2_with fail
                        go_roundg (gk - 1)
                        case measure => have := HJ2.out; omega
                        case rel => exact ⟨j2 + 1, xk, by have := HJ2.out; omega, by go_num, rfl, by rw [HT1.out]; rfl, HN9.out, HZ9.out, fun _ => HLast.out, HKp.out⟩
                · have hj' : j2 = sp.length := by have := HJ2.out; omega
                  have hlt3 : decide ((j2 : Int) < (sp.length : Int)) = false := by simpa using hj2
                  have HRdk := Lib.hid (HK.out.read p G BigL st key at_ wr HN2.out.st kkey hat)
                  have HEnd := Lib.hid (show (sp.take j2).any (fun y => y.1 == key) = ((readS st.K key at_).isSome && !blt key lo && (hi.isEmpty || blt key hi)) by
                    rw [hj', List.take_length, Bool.eq_iff_iff, List.any_eq_true]
                    constructor
                    · rintro ⟨y, hy, he⟩
                      have hy2 := (HMem.out y).1 hy
                      have he : y.1 = key := by simpa using he
                      rw [he] at hy2
                      have h1 := hy2.1
                      unfold inS at h1
                      rw [hy2.2]
                      simpa using h1
                    · intro h
                      rw [Bool.and_eq_true, Bool.and_eq_true] at h
                      cases hr : readS st.K key at_ with
                      | none => rw [hr] at h; cases h.1.1
                      | some v =>
                        refine ⟨(key, v), (HMem.out (key, v)).2 ⟨?_, hr⟩, beq_self_eq_true _⟩
                        show inS lo hi key = true
                        unfold inS
                        rw [h.1.2, h.2]
                        rfl)
                  have hgeq := string_geqJ
                  have p1 := bs_less key lo
                  have p2 := bs_less key hi
                  have p3 : (bs hi).toList = hi := bs_list hi
                  rw [HEnd.out]
                  generalize (readS st.K key at_).getD [] = rd at *
                  generalize (readS st.K key at_).isSome = ri at *
                  generalize blt key lo = u1 at *
                  generalize blt key hi = u2 at *
                  unfold ptrS at HRdk
                  clear HEnd
                  go_wp2_with fail
                  refine HRdk.out.mono ?_
                  rintro r w9 ⟨A9, c9, rfl, _, hb9⟩
                  have HB9 := Lib.hid (HN2.out.below.trans (hb9.mono HN2.out.below.size))
                  clear hb9 HRdk
                  cases ri
                  · go_wp2_with fail
                    go_ret
                    exact ⟨by simp, HB9.out⟩
                  · cases u1
                    · by_cases hh : hi = []
                      · have p4 : (bs hi).toList = [] := by rw [bs_list]; exact hh
                        have p7 : hi.isEmpty = true := by rw [hh]; rfl
                        clear p3 hh
                        go_wp2_with fail
                        all_goals
                          go_ret
                          exact ⟨by simp [p4, p7], HB9.out⟩
                      · have p4 : ¬ (bs hi).toList = [] := by rw [bs_list]; exact hh
                        have p5 : hi.isEmpty = false := by simpa using hh
                        have p8 : (bs hi).toList.isEmpty = false := by rw [bs_list]; exact p5
                        clear p3 hh
                        go_wp2_with fail
                        all_goals
                          go_ret
                          exact ⟨by simp [p4, p5, p8], HB9.out⟩
                    · go_wp2_with fail
                      go_ret
                      exact ⟨by simp, HB9.out⟩
  · rw [show fewO a = false by simpa using fa] at HFA
    clear K ha fa
    go_enter Try.func5, Try.ntmps5
    go_wp2_with (first
      | (go_at_call 10; (with_reducible refine (HL.out _ (by assumption)).mono ?_); rintro r w' ⟨rfl, hb6⟩)
      | (go_at_call 11; (with_reducible refine (HFA.out _ (by assumption)).mono ?_); rintro r w' ⟨rfl, hb6⟩))
    go_ret
    exact ⟨rfl, hb6⟩
end storeScans
end Go.Proofs.Ytdenlghnfefbnaa
