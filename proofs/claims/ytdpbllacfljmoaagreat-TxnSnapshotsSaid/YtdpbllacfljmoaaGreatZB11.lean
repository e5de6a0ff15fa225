import Derived.Test.YtdpbllacfljmoaaGreatZB10
import Derived.Deep.LoopGhost
import Derived.Test.YtdpbllacfljmoaaGreatZB03
import Derived.Maps.Keyed
import Derived.Maps.Own
import Derived.Carry
set_option maxRecDepth 100000
set_option maxHeartbeats 16000000
set_option linter.unusedVariables false
namespace Go.Proofs.YtdpbllacfljmoaaGreat
open Go.RowKit
def qeg (F : Nat → Prop) (w : World) : Nat → Prop := fun k => k < w.heap.size ∧ ¬ F k
def q7V (w8 : World) (F8 : Nat → Prop) (A B : Option Addr) (c d : Nat) (x : List UInt8) (l : List (KeyS × List UInt8)) (wr : World) (F : Nat → Prop) : Prop :=
 (∀ g, F g → F8 g ∨ w8.heap.size ≤ g) ∧ w8.heap.size ≤ wr.heap.size ∧ ByS wr (qeg F8 w8) A c x ∧ PaS wr (qeg F8 w8) B d l
theorem q7V.turn {w8 : World} {F8 : Nat → Prop} {A B : Option Addr} {c d : Nat} {x : List UInt8} {l : List (KeyS × List UInt8)} {wr wx : World} {F F' : Nat → Prop} (h : q7V w8 F8 A B c d x l wr F) (hm : Mut F wr wx) (hF : ∀ g, F' g → F g ∨ wr.heap.size ≤ g) : q7V w8 F8 A B c d x l wx F' := by
 have hk : ∀ g, qeg F8 w8 g → g < wr.heap.size → wx.heap[g]? = wr.heap[g]? ∧ qeg F8 w8 g := fun g hg hlt => ⟨hm.block g hlt fun hf => by
  rcases h.1 g hf with h1 | h1
  ·exact hg.2 h1
  ·have := hg.1; omega, hg⟩
 refine ⟨fun g hg => ?_, Nat.le_trans h.2.1 hm.size, h.2.2.1.keep hk, h.2.2.2.keep hk⟩
 rcases hF g hg with h1 | h1
 ·exact h.1 g h1
 ·exact .inr (Nat.le_trans h.2.1 h1)
theorem q7V.next {w8 : World} {F8 : Nat → Prop} {A B : Option Addr} {c d : Nat} {x : List UInt8} {l : List (KeyS × List UInt8)} {wr wx : World} {F : Nat → Prop} (h : q7V w8 F8 A B c d x l wr F) (hb : Below wr.heap.size wr wx) : q7V w8 F8 A B c d x l wx F := h.turn (Below.mut hb F) fun _ hg => .inl hg
theorem qgn {G : List Sp → List Sp} {b : q05} {id : Int} {t : TxS} (h : ofT b id = some t) (key : KeyS) : (q0F G b id key).2.e = 0 := by
 unfold q0F
 rw [h]
 simp only
 split <;> rfl
theorem qgo {G : List Sp → List Sp} {b : q05} {id : Int} {t : TxS} (h : ofT b id = some t) : (q0X G b id [] []).2.e = 0 := by
 unfold q0X
 rw [h]
 rfl
namespace txnSnapshots
theorem walk {St : q2p} (K : TxnC St) (O : TxnO St) (a b : List OpT) (A B : Option Addr) (c d : Nat) (key : KeyS) (w : World) (ha : ChOT w w.heap.size A c a) (hb : ChOT w w.heap.size B d b) (hkey : key.length ≤ maxLen) :
  Calls Tryz.prog 4 #[.slice A a.length c, .slice B b.length d, .string (bs key)] w fun r w' => r = .returned (.bool true) ∧ Below w.heap.size w w' := by
 have HL := qh (qbD K w)
 have HFA := qh (q8n ha)
 have HFB := qh (q8n hb)
 have hb6 := Below.refl w.heap.size w
 have hks := hkey
 rw [← q1h] at hks
 unfold maxLen at hks
 by_cases fa : fewT a = true
 ·rw [fa] at HFA
  by_cases fb : fewT b = true
  ·rw [fb] at HFB
   by_cases hk : 300 < (bs key).size
   ·have d1 : decide (300 < ((bs key).size : Int)) = true := by rw [decide_eq_true_iff]; omega
    have d2 : decide (300 < (bs key).size) = true := by rw [decide_eq_true_iff]; omega
    clear K O ha hb fa fb hk hkey
    go_enter Tryz.func4, Tryz.ntmps4
    go_wp2_with (first
     | (go_at_call 12; (with_reducible refine (HL.out _ (by assumption)).mono ?_); rintro r w' ⟨rfl, hb6⟩)
     | (go_at_call 13; (with_reducible refine (HFA.out _ (by assumption)).mono ?_); rintro r w' ⟨rfl, hb6⟩)
     | (go_at_call 13; (with_reducible refine (HFB.out _ (by assumption)).mono ?_); rintro r w' ⟨rfl, hb6⟩))
    go_ret
    exact ⟨rfl, hb6⟩
   ·have d1 : decide (300 < ((bs key).size : Int)) = false := by rw [decide_eq_false_iff_not]; omega
    have d2 : decide (300 < (bs key).size) = false := by rw [decide_eq_false_iff_not]; omega
    have hkl : key.length ≤ 300 := by rw [q1h] at hk; omega
    obtain ⟨fwa, fla⟩ := qaz fa
    obtain ⟨fwb, flb⟩ := qaz fb
    have HBg := qh (qc8 w)
    have HMd : Hid (∀ W, Below w.heap.size w W → Calls Tryz.prog 35 #[limT BigT] W fun r W' => ∃ p F, r = .returned (ptrS p) ∧ RunT St w W' p F BigT q3t 0) := qh fun W h => q7j K W h
    have HRA := qh ha.2.2.2
    have HRB := qh hb.2.2.2
    have HWA := qh fwa
    have HWB := qh fwb
    have HK := qh K
    have HO := qh O
    have HKL := qh hkl
    have HFlA := qh fla
    have HFlB := qh flb
    have hal : a.length ≤ 9223372036854775807 := by omega
    have hbl : b.length ≤ 9223372036854775807 := by omega
    clear fla flb
    clear ha hb fa fb hk hkey fwa fwb K O hkl
    go_enter Tryz.func4, Tryz.ntmps4
    go_wp2_with (first
     | (go_at_call 12; (with_reducible refine (HL.out _ (by assumption)).mono ?_); rintro r w' ⟨rfl, hb6⟩)
     | (go_at_call 13; (with_reducible refine (HFA.out _ (by assumption)).mono ?_); rintro r w' ⟨rfl, hb6⟩)
     | (go_at_call 13; (with_reducible refine (HFB.out _ (by assumption)).mono ?_); rintro r w' ⟨rfl, hb6⟩)
     | (go_at_call 36; (with_reducible refine (HBg.out _ (by assumption)).mono ?_); rintro r w' ⟨rfl, hb6⟩)
     | (go_at_call 35; (with_reducible refine (HMd.out _ (by assumption)).mono ?_); rintro r w5 ⟨p, F, rfl, hn⟩; unfold ptrS))
    have HN5 := qh hn
    clear hn hb6 HL HFA HFB HBg HMd
    go_loopg [48] a.length (fun q i wr => ∃ (j : Nat) (st : q05) (F : Nat → Prop), j + q = a.length ∧ i = .int .i64 j ∧ RunT St w wr p F BigT st j)
    case atStart => exact ⟨0, q3t, F, by omega, rfl, HN5.out⟩
    case round =>
     obtain ⟨j, st, G, hk, rfl, hn⟩ := hrel
     have HJ := qh hk
     have HN := qh hn
     clear hk hn
     by_cases hj : j < a.length
     ·have hlt : decide ((j : Int) < (a.length : Int)) = true := by simpa using hj
      have hlt2 : decide (j < a.length) = true := by simpa using hj
      obtain ⟨b0, o0, rfl, _, x, hx, hok, c0, c1, c2, c3, c4, c5⟩ := (HRA.out.below HN.out.bel (Nat.le_refl _) (Nat.le_refl _)).at_ hj
      have hw := HWA.out _ (List.getElem_mem hj)
      rw [← hx] at hw
      clear hx
      obtain ⟨o, A', c'⟩ := x
      simp only at c0 c1 c2 c3 c4 c5 hw
      have hba := (Below.refl _ wr).alloc (Nat.le_refl _) (.cells #[.int .i64 o.what, .int .i64 o.id, .string (bs o.w.key), .bool o.w.gone, .slice A' o.w.dat.length c', .string (bs o.hi)] 39)
      have HC := qh (qay HK.out (HN.out.next HK.out hba) (by have := HFlA.out; omega) o A' c' hw.1 hw.2 (hok.below hba HN.out.bel.size (Nat.le_refl _)))
      clear hba hok hw
      unfold qdu ptrS at HC
      go_wp2_with fail
      refine HC.out.mono ?_
      rintro r w9 ⟨A9, B9, c9, d9, F9, rfl, _, hr9, _, _⟩
      have HR9 := qh hr9
      clear hr9 HC c0 c1 c2 c3 c4 c5
      unfold q1X
      go_wp2_with fail
      go_roundg (gk - 1)
      case measure => have := HJ.out; omega
      case rel => exact ⟨j + 1, _, F9, by have := HJ.out; omega, by go_num, HR9.out⟩
     ·have hlt : decide ((j : Int) < (a.length : Int)) = false := by simpa using hj
      have HJ8 : Hid (j ≤ 80) := qh (by have := HJ.out; have := HFlA.out; omega)
      have hB := HK.out.begin_ w.heap.size p G BigT st wr HN.out.st (HN.out.few (by have := HJ8.out; omega))
      by_cases hf : BigT.live ≤ (st.live.length : Int)
      ·have h16 : (q0w BigT st).1.live.length = 16 := by
        have h1 := HN.out.ok.few
        have h2 : BigT.live = 16 := rfl
        rw [q9S hf]
        show st.live.length = 16
        omega
       have he : (q0w BigT st).2 = errT 5 := by rw [q9S hf]
       rw [he] at hB
       have HB := qh hB
       have H16 := qh h16
       clear hB he hf h16
       unfold ptrS errT at HB
       go_wp2_with fail
       refine HB.out.mono ?_
       rintro r w6 ⟨rfl, F6, hQ⟩
       have R6 := qh (HN.out.begin_ HK.out hQ)
       have hLv := HK.out.live w.heap.size p F6 BigT (q0w BigT st).1 w6 R6.out.st (R6.out.few (by have := HJ8.out; omega))
       rw [H16.out] at hLv
       have HLv := qh hLv
       clear hLv hQ HB
       unfold ptrS at HLv
       go_wp2_with fail
       refine HLv.out.mono ?_
       rintro r w7 ⟨A7, c7, rfl, _, hb7⟩
       have HB7 := qh (R6.out.bel.trans (hb7.mono R6.out.bel.size))
       clear hb7 HLv
       go_wp2_with fail
       go_ret
       exact ⟨rfl, HB7.out⟩
      ·obtain ⟨e1, e2⟩ := qek HN.out.ok hf
       obtain ⟨n, hn⟩ : ∃ n, st.last + 1 = n := ⟨_, rfl⟩
       rw [hn] at e1 e2
       have hnI : I64 (n : Int) := by
        have h1 := qar (L := BigT) (HN.out.few (by have := HJ8.out; omega))
        rw [e1] at h1
        have h2 : n ≤ 991 := h1
        exact q1j (by omega) (by omega)
       rw [e1] at hB
       have HB := qh hB
       have HI := qh hnI
       obtain ⟨t1, ht1⟩ : ∃ t, (⟨n, st.st.time, st.event + 1, [], []⟩ : TxS) = t := ⟨_, rfl⟩
       rw [ht1] at e2
       have HO1 := qh e2
       clear hB e1 e2 hf hn hnI ht1
       unfold ptrS at HB
       go_wp2_with fail
       refine HB.out.mono ?_
       rintro r w6 ⟨rfl, F6, hQ⟩
       have hR := HN.out.begin_ HK.out hQ
       clear HB hQ
       generalize (q0w BigT st).1 = b1 at *
       have R6 := qh hR
       clear hR
       have hRd := HO.out.read w.heap.size p F6 BigT b1 n key w6 R6.out.st (R6.out.few (by have := HJ8.out; omega)) HI.out HKL.out
       have hre := qgn (G := FT BigT) HO1.out key
       obtain ⟨tr, htr⟩ : ∃ y, (q0F (FT BigT) b1 (n : Int) key).2 = y := ⟨_, rfl⟩
       rw [htr] at hRd hre
       rw [hre] at hRd
       have HTr := qh htr
       have HRe := qh hre
       have HRd := qh hRd
       obtain ⟨t2, hs2⟩ := q36 (F := FT BigT) (L := BigT) R6.out.ok HO1.out ⟨1, n, ⟨key, false, []⟩, []⟩ (fun _ => ⟨show (1 : Int) ≠ 3 by decide, show (1 : Int) ≠ 4 by decide, show (1 : Int) ≠ 5 by decide⟩)
       have HS2 : Hid (q2U b1 (q0F (FT BigT) b1 (n : Int) key).1 n t1 t2) := qh hs2
       clear hRd hre htr hs2
       unfold ptrS at HRd
       go_wp2_with fail
       refine HRd.out.mono ?_
       rintro r w7 ⟨A7, c7, F7, rfl, hp7, hQ⟩
       have hR := R6.out.read HK.out HKL.out hQ
       have HM7 := qh hp7
       clear HRd hQ hp7
       generalize (q0F (FT BigT) b1 (n : Int) key).1 = b2 at *
       have R7 := qh hR
       clear hR
       have hSc := HO.out.scan w.heap.size p F7 BigT b2 n [] [] w7 R7.out.st (R7.out.few (by have := HJ8.out; omega)) HI.out (by simp) (by simp)
       have hse := qgo (G := FT BigT) HS2.out.of
       have hts := q7b (F := FT BigT) R6.out.ok R7.out.ok HO1.out HS2.out [] []
       obtain ⟨ts, hts2⟩ : ∃ y, (q0X (FT BigT) b2 (n : Int) [] []).2 = y := ⟨_, rfl⟩
       rw [hts2] at hSc hse hts
       rw [hse] at hSc
       obtain ⟨t3, hs3⟩ := q36 (F := FT BigT) (L := BigT) R7.out.ok HS2.out.of ⟨2, n, ⟨[], false, []⟩, []⟩ (fun _ => ⟨show (2 : Int) ≠ 3 by decide, show (2 : Int) ≠ 4 by decide, show (2 : Int) ≠ 5 by decide⟩)
       have hs3 : q2U b2 (q0X (FT BigT) b2 (n : Int) [] []).1 n t2 t3 := hs3
       have HS3 := qh (HS2.out.trans hs3)
       have HTs := qh hts
       have HSe := qh hse
       rw [qfb] at hSc
       have HSc := qh hSc
       clear hSc hse hts hts2 hs3
       unfold ptrS at HSc
       go_wp2_with fail
       refine HSc.out.mono ?_
       rintro r w8 ⟨A8, c8, F8, rfl, hp8, hQ⟩
       have hR := R7.out.scan HK.out (by simp) hQ
       have HH : Hid (q7V w8 F8 A7 A8 c7 c8 tr.b ts.scan w8 F8) := qh ⟨fun _ h => .inl h, Nat.le_refl _, HM7.out.keep fun g hg hlt => ⟨hQ.2.1.block g hlt hg.2, Nat.lt_of_lt_of_le hlt hQ.2.1.size, fun hf => by
         rcases hQ.2.2 g hf with h1 | h1
         ·exact hg.2 h1
         ·omega⟩, hp8.keep fun g hg hlt => ⟨rfl, hlt, hg.2⟩⟩
       clear HSc hQ hp8 HM7
       generalize (q0X (FT BigT) b2 (n : Int) [] []).1 = b3 at *
       have R8 := qh hR
       clear hR
       go_wp2_with fail
       go_loopg [87] b.length (fun q i wr => ∃ (j2 kk : Nat) (s' : q05) (F : Nat → Prop) (t' : TxS), j2 + q = b.length ∧ i = .int .i64 j2 ∧ kk ≤ 83 + j2 ∧ RunT St w wr p F BigT s' kk ∧ q7V w8 F8 A7 A8 c7 c8 tr.b ts.scan wr F ∧ q2U b1 s' n t1 t')
       case atStart => exact ⟨0, _, b3, F8, t3, by omega, rfl, by have := HJ8.out; omega, R8.out, HH.out, HS3.out⟩
       case round =>
        obtain ⟨j2, kk, s2, F2, t', hk2, rfl, hkk, hn2, hh2, hs2⟩ := hrel
        have HJ2 := qh hk2
        have HKK := qh hkk
        have HN2 := qh hn2
        have HH2 := qh hh2
        have HS4 := qh hs2
        clear hk2 hkk hn2 hh2 hs2
        by_cases hj2 : j2 < b.length
        ·have hlt3 : decide ((j2 : Int) < (b.length : Int)) = true := by simpa using hj2
         have hlt4 : decide (j2 < b.length) = true := by simpa using hj2
         obtain ⟨b0, o0, rfl, _, x, hx, hok, c0, c1, c2, c3, c4, c5⟩ := (HRB.out.below HN2.out.bel (Nat.le_refl _) (Nat.le_refl _)).at_ hj2
         have hw := HWB.out _ (List.getElem_mem hj2)
         rw [← hx] at hw
         clear hx
         obtain ⟨⟨what, id, ⟨wk, wg, wd⟩, hi⟩, A', c'⟩ := x
         simp only at c0 c1 c2 c3 c4 c5 hw
         have hba := (Below.refl _ wr).alloc (Nat.le_refl _) (.cells #[.int .i64 what, .int .i64 id, .string (bs wk), .bool wg, .slice A' wd.length c', .string (bs hi)] 39)
         have HBA := qh hba
         have HC := qh (qay HK.out (HN2.out.next HK.out hba) (by have := HFlB.out; have := HKK.out; omega) ⟨what, id, ⟨wk, wg, wd⟩, hi⟩ A' c' hw.1 hw.2 (hok.below hba HN2.out.bel.size (Nat.le_refl _)))
         clear hba hok hw
         unfold qdu ptrS at HC
         by_cases hid : id = (n : Int)
         ·subst hid
          have hi1 : decide ((n : Int) = (n : Int)) = true := by simp
          by_cases h3 : what = 3
          ·subst h3
           have HBX := HBA
           clear HC HBA
           go_wp2_with fail
           go_roundg (gk - 1)
           case measure => have := HJ2.out; omega
           case rel => exact ⟨j2 + 1, kk, s2, F2, t', by have := HJ2.out; omega, by go_num, by have := HKK.out; omega, HN2.out.next HK.out HBX.out, HH2.out.next HBX.out, HS4.out⟩
          ·by_cases h4 : what = 4
           ·subst h4
            have HBX := HBA
            clear HC HBA
            go_wp2_with fail
            go_roundg (gk - 1)
            case measure => have := HJ2.out; omega
            case rel => exact ⟨j2 + 1, kk, s2, F2, t', by have := HJ2.out; omega, by go_num, by have := HKK.out; omega, HN2.out.next HK.out HBX.out, HH2.out.next HBX.out, HS4.out⟩
           ·by_cases h5 : what = 5
            ·subst h5
             have HBX := HBA
             clear HC HBA
             go_wp2_with fail
             go_roundg (gk - 1)
             case measure => have := HJ2.out; omega
             case rel => exact ⟨j2 + 1, kk, s2, F2, t', by have := HJ2.out; omega, by go_num, by have := HKK.out; omega, HN2.out.next HK.out HBX.out, HH2.out.next HBX.out, HS4.out⟩
            ·have g3 : (what == 3) = false := by simpa using h3
             have g4 : (what == 4) = false := by simpa using h4
             have g5 : (what == 5) = false := by simpa using h5
             obtain ⟨t7, hs7⟩ := q36 (F := FT BigT) (L := BigT) HN2.out.ok HS4.out.of ⟨what, (n : Int), ⟨wk, wg, wd⟩, hi⟩ (fun he => ⟨h3, h4, h5⟩)
             have HS7 := qh (HS4.out.trans hs7)
             clear hs7
             go_wp2_with fail
             refine HC.out.mono ?_
             rintro r w9 ⟨A9, B9, c9, d9, F9, rfl, _, hr9, hm9, hf9⟩
             have HR9 := qh hr9
             have HH9 := qh ((HH2.out.next HBA.out).turn hm9 hf9)
             clear hr9 HC c0 c1 c2 c3 c4 c5 hm9 hf9
             unfold q1X
             go_wp2_with fail
             go_roundg (gk - 1)
             case measure => have := HJ2.out; omega
             case rel => exact ⟨j2 + 1, kk + 1, _, F9, t7, by have := HJ2.out; omega, by go_num, by have := HKK.out; omega, HR9.out, HH9.out, HS7.out⟩
         ·have hi1 : decide (id = (n : Int)) = false := by simpa using hid
          have hi2 : (id == (n : Int)) = false := by simpa using hid
          obtain ⟨t7, hs7⟩ := q36 (F := FT BigT) (L := BigT) HN2.out.ok HS4.out.of ⟨what, id, ⟨wk, wg, wd⟩, hi⟩ (fun he => absurd he hid)
          have HS7 := qh (HS4.out.trans hs7)
          clear hs7
          go_wp2_with fail
          refine HC.out.mono ?_
          rintro r w9 ⟨A9, B9, c9, d9, F9, rfl, _, hr9, hm9, hf9⟩
          have HR9 := qh hr9
          have HH9 := qh ((HH2.out.next HBA.out).turn hm9 hf9)
          clear hr9 HC c0 c1 c2 c3 c4 c5 hm9 hf9
          unfold q1X
          go_wp2_with fail
          go_roundg (gk - 1)
          case measure => have := HJ2.out; omega
          case rel => exact ⟨j2 + 1, kk + 1, _, F9, t7, by have := HJ2.out; omega, by go_num, by have := HKK.out; omega, HR9.out, HH9.out, HS7.out⟩
        ·have hlt3 : decide ((j2 : Int) < (b.length : Int)) = false := by simpa using hj2
         have HJ9 : Hid (kk ≤ 163) := qh (by have := HJ2.out; have := HFlB.out; have := HKK.out; omega)
         have hRd2 := HO.out.read w.heap.size p F2 BigT s2 n key wr HN2.out.st (HN2.out.few (by have := HJ9.out; omega)) HI.out HKL.out
         rw [(qbX (F := FT BigT) HO1.out HS4.out key).trans HTr.out, HRe.out] at hRd2
         obtain ⟨t5, hs5⟩ := q36 (F := FT BigT) (L := BigT) HN2.out.ok HS4.out.of ⟨1, n, ⟨key, false, []⟩, []⟩ (fun _ => ⟨show (1 : Int) ≠ 3 by decide, show (1 : Int) ≠ 4 by decide, show (1 : Int) ≠ 5 by decide⟩)
         have hs5 : q2U s2 (q0F (FT BigT) s2 (n : Int) key).1 n t' t5 := hs5
         have HS5 := qh (HS4.out.trans hs5)
         have HRd2 := qh hRd2
         clear hRd2 hs5
         unfold ptrS at HRd2
         go_wp2_with fail
         refine HRd2.out.mono ?_
         rintro r w9 ⟨A9, c9, F9, rfl, hp9, hQ⟩
         have hR := HN2.out.read HK.out HKL.out hQ
         have HM9 := qh hp9
         have HH9 := qh (HH2.out.turn hQ.2.1 hQ.2.2)
         clear HRd2 hQ hp9
         generalize (q0F (FT BigT) s2 (n : Int) key).1 = b4 at *
         have R9 := qh hR
         clear hR
         have hSc2 := HO.out.scan w.heap.size p F9 BigT b4 n [] [] w9 R9.out.st (R9.out.few (by have := HJ9.out; omega)) HI.out (by simp) (by simp)
         rw [(q7b (F := FT BigT) R6.out.ok R9.out.ok HO1.out HS5.out [] []).trans HTs.out.symm, HSe.out, qfb] at hSc2
         have HSc2 := qh hSc2
         clear hSc2
         unfold ptrS at HSc2
         go_wp2_with fail
         refine HSc2.out.mono ?_
         rintro r w10 ⟨A10, c10, F10, rfl, hp10, hQ⟩
         have hR := R9.out.scan HK.out (by simp) hQ
         have hh10 := HH9.out.turn hQ.2.1 hQ.2.2
         have hq10 : ByS w10 (fun _ => True) A9 c9 tr.b := HM9.out.keep fun g hg hlt => ⟨hQ.2.1.block g hlt hg.2, trivial⟩
         have hEq := qfw tr.b tr.b A7 A9 c7 c9 w10 hh10.2.2.1.sl hq10.sl
         rw [beq_self_eq_true] at hEq
         have HEq := qh hEq
         have hc1 := hh10.2.2.2.ch
         have hc2 := hp10.ch
         have hspl : ts.scan.length ≤ 9223372036854775807 := by have := hp10.1; have := hp10.2.1; unfold maxLen at *; omega
         have hSm := q7L ts.scan ts.scan A8 A10 c8 c10 _ _ _ _ w10 hspl hspl hc1.2.2.2 hc2.2.2.2
         rw [show q7K ts.scan ts.scan = true from by unfold q7K; simp] at hSm
         have HSm := qh hSm
         have HB10 := qh hR.bel
         obtain ⟨rb, hrb⟩ : ∃ y, tr.b = y := ⟨_, rfl⟩
         obtain ⟨ri, hri0⟩ : ∃ y, tr.is = y := ⟨_, rfl⟩
         obtain ⟨sp, hsp⟩ : ∃ y, ts.scan = y := ⟨_, rfl⟩
         rw [hrb] at HEq
         rw [hsp] at HSm
         rw [hrb, hri0, hsp]
         have hri : (ri == ri) = true := beq_self_eq_true _
         clear hEq hSm hc1 hc2 hspl hh10 hq10 hp10 hQ hR HSc2 hrb hri0 hsp
         go_wp2_with fail
         refine HEq.out.mono ?_
         rintro r w9b ⟨rfl, rfl⟩
         go_wp2_with fail
         refine HSm.out.mono ?_
         rintro r w11 ⟨rfl, hb11⟩
         have HB11 := qh (HB10.out.trans (hb11.mono HB10.out.size))
         clear hb11 HSm
         go_wp2_with fail
         go_ret
         exact ⟨rfl, HB11.out⟩
  ·rw [show fewT b = false by simpa using fb] at HFB
   clear K O ha hb fa fb hkey
   go_enter Tryz.func4, Tryz.ntmps4
   go_wp2_with (first
    | (go_at_call 12; (with_reducible refine (HL.out _ (by assumption)).mono ?_); rintro r w' ⟨rfl, hb6⟩)
    | (go_at_call 13; (with_reducible refine (HFA.out _ (by assumption)).mono ?_); rintro r w' ⟨rfl, hb6⟩)
    | (go_at_call 13; (with_reducible refine (HFB.out _ (by assumption)).mono ?_); rintro r w' ⟨rfl, hb6⟩))
   go_ret
   exact ⟨rfl, hb6⟩
 ·rw [show fewT a = false by simpa using fa] at HFA
  clear K O ha hb fa hkey
  go_enter Tryz.func4, Tryz.ntmps4
  go_wp2_with (first
   | (go_at_call 12; (with_reducible refine (HL.out _ (by assumption)).mono ?_); rintro r w' ⟨rfl, hb6⟩)
   | (go_at_call 13; (with_reducible refine (HFA.out _ (by assumption)).mono ?_); rintro r w' ⟨rfl, hb6⟩))
  go_ret
  exact ⟨rfl, hb6⟩
end txnSnapshots
open Go.RowKit Go.MapKept
open Go.ChangeMaps (setBlock modify_eq_set heap_setBlock_same heap_setBlock_other)
theorem qg7 {a b : List UInt8} (h : bs a = bs b) : a = b := by
 have := congrArg ByteArray.toList h
 rwa [q2m, q2m] at this
def keyV (k : KeyS) : Value := .string (bs k)
theorem q4r {a b : KeyS} (h : keyV a = keyV b) : a = b := by
 unfold keyV at h
 injection h with h
 exact qg7 h
def updM (f : KeyS → Option Value) (k : KeyS) (v : Option Value) : KeyS → Option Value := fun x => if x = k then v else f x
theorem q39 (f : KeyS → Option Value) (k : KeyS) (v : Option Value) : updM f k v k = v := if_pos rfl
theorem q50 {f : KeyS → Option Value} {k x : KeyS} (v : Option Value) (h : x ≠ k) : updM f k v x = f x := if_neg h
structure q2q (l : List MapEntry) (f : KeyS → Option Value) : Prop where
 key : ∀ x ∈ l, ∃ k, x.key = keyV k
 apart : l.Pairwise (fun x y => x.key ≠ y.key)
 val : ∀ k v, f k = some v ↔ ∃ x ∈ l, x.key = keyV k ∧ x.val = v
theorem q5u {α : Type} {l : List α} {j : Nat} {e : α} (h : l[j]? = some e) : ∃ l1 l2, l = l1 ++ e :: l2 ∧ l1.length = j := by
 obtain ⟨hj, rfl⟩ := List.getElem?_eq_some_iff.1 h
 refine ⟨l.take j, l.drop (j + 1), ?_, by rw [List.length_take]; omega⟩
 rw [← List.drop_eq_getElem_cons hj, List.take_append_drop]
section
variable {l : List MapEntry} {f : KeyS → Option Value} {k : KeyS} {v : Value}
theorem q2q.none_ (h : q2q l f) (hn : ∀ x ∈ l, x.key ≠ keyV k) : f k = none := by
 cases hf : f k with
 | none => rfl
 | some v =>
  obtain ⟨x, hx, e, _⟩ := (h.val k v).1 hf
  exact absurd e (hn x hx)
theorem q2q.push (h : q2q l f) (hn : ∀ x ∈ l, x.key ≠ keyV k) (b : Nat) : q2q (l ++ [⟨keyV k, v, b⟩]) (updM f k (some v)) := by
 refine ⟨fun x hx => ?_, ?_, fun k' v' => ?_⟩
 ·rcases List.mem_append.1 hx with hx | hx
  ·exact h.key x hx
  ·rw [List.mem_singleton] at hx
   subst hx
   exact ⟨k, rfl⟩
 ·rw [List.pairwise_append]
  refine ⟨h.apart, List.pairwise_singleton _ _, fun x hx y hy => ?_⟩
  rw [List.mem_singleton] at hy
  subst hy
  exact hn x hx
 ·by_cases e : k' = k
  ·subst e
   rw [q39]
   constructor
   ·intro hv
    injection hv with hv
    exact ⟨⟨keyV k', v, b⟩, by simp, rfl, hv⟩
   ·rintro ⟨x, hx, e1, e2⟩
    rcases List.mem_append.1 hx with hx | hx
    ·exact absurd e1 (hn x hx)
    ·rw [List.mem_singleton] at hx
     subst hx
     rw [← e2]
  ·rw [q50 _ e, h.val]
   constructor
   ·rintro ⟨x, hx, h1⟩
    exact ⟨x, List.mem_append_left _ hx, h1⟩
   ·rintro ⟨x, hx, e1, e2⟩
    rcases List.mem_append.1 hx with hx | hx
    ·exact ⟨x, hx, e1, e2⟩
    ·rw [List.mem_singleton] at hx
     subst hx
     exact absurd (q4r e1).symm e
theorem q2q.set (h : q2q l f) {j : Nat} {e : MapEntry} (hj : l[j]? = some e) (he : e.key = keyV k) : q2q (l.set j { e with key := keyV k, val := v }) (updM f k (some v)) := by
 obtain ⟨l1, l2, rfl, rfl⟩ := q5u hj
 have hset : (l1 ++ e :: l2).set l1.length { e with key := keyV k, val := v } = l1 ++ { e with key := keyV k, val := v } :: l2 := by
  rw [List.set_append_right _ _ (Nat.le_refl _), Nat.sub_self]
  rfl
 rw [hset]
 have hp := h.apart
 rw [List.pairwise_append, List.pairwise_cons] at hp
 obtain ⟨p1, ⟨p2, p3⟩, p4⟩ := hp
 have hn1 : ∀ x ∈ l1, x.key ≠ keyV k := fun x hx => by rw [← he]; exact p4 x hx e (List.mem_cons_self ..)
 have hn2 : ∀ x ∈ l2, x.key ≠ keyV k := fun x hx => by rw [← he]; exact (p2 x hx).symm
 refine ⟨fun x hx => ?_, ?_, fun k' v' => ?_⟩
 ·rcases List.mem_append.1 hx with hx | hx
  ·exact h.key x (List.mem_append_left _ hx)
  ·rcases List.mem_cons.1 hx with rfl | hx
   ·exact ⟨k, rfl⟩
   ·exact h.key x (List.mem_append_right _ (List.mem_cons_of_mem _ hx))
 ·rw [List.pairwise_append, List.pairwise_cons]
  refine ⟨p1, ⟨fun x hx => (hn2 x hx).symm, p3⟩, fun x hx y hy => ?_⟩
  rcases List.mem_cons.1 hy with rfl | hy
  ·exact hn1 x hx
  ·exact p4 x hx y (List.mem_cons_of_mem _ hy)
 ·by_cases ek : k' = k
  ·subst ek
   rw [q39]
   constructor
   ·intro hv
    injection hv with hv
    exact ⟨{ e with key := keyV k', val := v }, by simp, rfl, hv⟩
   ·rintro ⟨x, hx, e1, e2⟩
    rcases List.mem_append.1 hx with hx | hx
    ·exact absurd e1 (hn1 x hx)
    ·rcases List.mem_cons.1 hx with rfl | hx
     ·rw [← e2]
     ·exact absurd e1 (hn2 x hx)
  ·rw [q50 _ ek, h.val]
   constructor
   ·rintro ⟨x, hx, e1, e2⟩
    rcases List.mem_append.1 hx with hx | hx
    ·exact ⟨x, List.mem_append_left _ hx, e1, e2⟩
    ·rcases List.mem_cons.1 hx with rfl | hx
     ·rw [he] at e1
      exact absurd (q4r e1).symm ek
     ·exact ⟨x, List.mem_append_right _ (List.mem_cons_of_mem _ hx), e1, e2⟩
   ·rintro ⟨x, hx, e1, e2⟩
    rcases List.mem_append.1 hx with hx | hx
    ·exact ⟨x, List.mem_append_left _ hx, e1, e2⟩
    ·rcases List.mem_cons.1 hx with rfl | hx
     ·exact absurd (q4r e1).symm ek
     ·exact ⟨x, List.mem_append_right _ (List.mem_cons_of_mem _ hx), e1, e2⟩
theorem q2q.erase (h : q2q l f) {j : Nat} {e : MapEntry} (hj : l[j]? = some e) (he : e.key = keyV k) : q2q (l.eraseIdx j) (updM f k none) := by
 obtain ⟨l1, l2, rfl, rfl⟩ := q5u hj
 have hset : (l1 ++ e :: l2).eraseIdx l1.length = l1 ++ l2 := by
  rw [List.eraseIdx_append_of_length_le (Nat.le_refl _), Nat.sub_self]
  rfl
 rw [hset]
 have hp := h.apart
 rw [List.pairwise_append, List.pairwise_cons] at hp
 obtain ⟨p1, ⟨p2, p3⟩, p4⟩ := hp
 have hn1 : ∀ x ∈ l1, x.key ≠ keyV k := fun x hx => by rw [← he]; exact p4 x hx e (List.mem_cons_self ..)
 have hn2 : ∀ x ∈ l2, x.key ≠ keyV k := fun x hx => by rw [← he]; exact (p2 x hx).symm
 refine ⟨fun x hx => ?_, ?_, fun k' v' => ?_⟩
 ·rcases List.mem_append.1 hx with hx | hx
  ·exact h.key x (List.mem_append_left _ hx)
  ·exact h.key x (List.mem_append_right _ (List.mem_cons_of_mem _ hx))
 ·rw [List.pairwise_append]
  exact ⟨p1, p3, fun x hx y hy => p4 x hx y (List.mem_cons_of_mem _ hy)⟩
 ·by_cases ek : k' = k
  ·subst ek
   rw [q39]
   constructor
   ·intro hv
    cases hv
   ·rintro ⟨x, hx, e1, e2⟩
    rcases List.mem_append.1 hx with hx | hx
    ·exact absurd e1 (hn1 x hx)
    ·exact absurd e1 (hn2 x hx)
  ·rw [q50 _ ek, h.val]
   constructor
   ·rintro ⟨x, hx, e1, e2⟩
    rcases List.mem_append.1 hx with hx | hx
    ·exact ⟨x, List.mem_append_left _ hx, e1, e2⟩
    ·rcases List.mem_cons.1 hx with rfl | hx
     ·rw [he] at e1
      exact absurd (q4r e1).symm ek
     ·exact ⟨x, List.mem_append_right _ hx, e1, e2⟩
   ·rintro ⟨x, hx, e1, e2⟩
    rcases List.mem_append.1 hx with hx | hx
    ·exact ⟨x, List.mem_append_left _ hx, e1, e2⟩
    ·exact ⟨x, List.mem_append_right _ (List.mem_cons_of_mem _ hx), e1, e2⟩
theorem q2q.drop_none (h : q2q l f) (hn : ∀ x ∈ l, x.key ≠ keyV k) : q2q l (updM f k none) := by
 have e : updM f k none = f := funext fun x => by
  by_cases ek : x = k
  ·subst ek
   rw [q39, h.none_ hn]
  ·exact q50 _ ek
 rw [e]
 exact h
end
def MapS (w : World) (B : Nat) (f : KeyS → Option Value) : Prop := ∃ es clock, w.heap[B]? = some (.map es clock) ∧ q2q es.toList f
section
variable {P : Program} {w w' : World} {B : Nat} {f : KeyS → Option Value} {t kt et : TypeId}
theorem MapS.keep (h : MapS w B f) (hb : w'.heap[B]? = w.heap[B]?) : MapS w' B f := by
 obtain ⟨es, clock, h1, h2⟩ := h
 exact ⟨es, clock, hb.trans h1, h2⟩
theorem MapS.lt (h : MapS w B f) : B < w.heap.size := by
 obtain ⟨es, clock, h1, h2⟩ := h
 exact (Array.getElem?_eq_some_iff.1 h1).1
theorem MapS.made (w : World) : MapS (w.alloc (.map #[] 0)) w.heap.size fun _ => none :=
 ⟨#[], 0, heap_alloc_new w _, by simp, by simp, by simp⟩
theorem q17 (k : KeyS) : IsKey .string (keyV k) := by simp [IsKey, keyV]
theorem MapS.find {es : Array MapEntry} (h : q2q es.toList f) (hk : P.underlying kt = some .string) (w : World) (k : KeyS) :
  ((Instr.findKey kt (keyV k) es.toList).run P w = .ok none w ∧ (∀ x ∈ es.toList, x.key ≠ keyV k) ∧ f k = none) ∨
  ∃ j e, (Instr.findKey kt (keyV k) es.toList).run P w = .ok (some (j, e.val)) w ∧ es.toList[j]? = some e ∧ e.key = keyV k ∧ f k = some e.val := by
 rcases findNow_spec (q17 k) es.toList 0 (fun x hx => by
  obtain ⟨k', e⟩ := h.key x hx
  rw [e]
  exact q17 k') with ⟨h1, h2⟩ | ⟨j, e, h1, h2, h3⟩
 ·exact .inl ⟨run_findKey hk h1, h2, h.none_ h2⟩
 ·refine .inr ⟨j, e, by simpa using run_findKey hk h1, h2, h3, (h.val k e.val).2 ⟨e, List.mem_of_getElem? h2, h3, rfl⟩⟩
theorem MapS.look (h : MapS w B f) (ht : P.underlying t = some (.map kt et)) (hk : P.underlying kt = some .string) {z : Value} (hz : (zeroValue et).run P w = .ok z w) (c : Bool) (k : KeyS) :
  (Instr.lookup t (.map (some B)) (keyV k) c).run P w = .ok (if c then .tuple #[(f k).getD z, .bool (f k).isSome] else (f k).getD z) w := by
 obtain ⟨es, clock, h1, h2⟩ := h
 rcases MapS.find h2 hk w k with ⟨g1, g2, g3⟩ | ⟨j, e, g1, g2, g3, g4⟩
 ·rw [g3]
  simp [Instr.lookup, run_underlying ht, MapKept.run_getObj_map h1, MapKept.run_checkKey hk (q17 k), g1, hz, Result.andThen]
 ·rw [g4]
  simp [Instr.lookup, run_underlying ht, MapKept.run_getObj_map h1, MapKept.run_checkKey hk (q17 k), g1, Result.andThen]
theorem MapS.store (h : MapS w B f) (ht : P.underlying t = some (.map kt et)) (hk : P.underlying kt = some .string) (k : KeyS) (v : Value) :
  ∃ w', (Instr.mapUpdate t (.map (some B)) (keyV k) v).run P w = .ok () w' ∧ MapS w' B (updM f k (some v)) ∧ w.grownBy w' (some B) ∧ w'.heap.size = w.heap.size := by
 obtain ⟨es, clock, h1, h2⟩ := h
 rcases MapS.find h2 hk w k with ⟨g1, g2, g3⟩ | ⟨j, e, g1, g2, g3, g4⟩
 ·refine ⟨setBlock w B (.map (es.push ⟨keyV k, v, clock⟩) (clock + 1)), ?_, ⟨_, _, heap_setBlock_same h1 _, ?_⟩, ⟨rfl, rfl, rfl, by simp [setBlock], fun i _ hi => heap_setBlock_other h1 _ (fun e => hi (by rw [e]))⟩, by simp [setBlock]⟩
  ·simp [Instr.mapUpdate, run_underlying ht, MapKept.run_getObj_map h1, MapKept.run_checkKey hk (q17 k), g1, MapKept.run_setObj_map _ h1, Result.andThen, setBlock]
  ·rw [Array.toList_push]
   exact h2.push g2 clock
 ·have hj : es[j]? = some e := by simpa using g2
  have hlist : (es.modify j (fun e' => { e' with key := keyV k, val := v })).toList = es.toList.set j { e with key := keyV k, val := v } := by rw [Array.toList_modify, modify_eq_set _ _ _ _ g2]
  refine ⟨setBlock w B (.map (es.modify j fun e' => { e' with key := keyV k, val := v }) clock), ?_, ⟨_, _, heap_setBlock_same h1 _, ?_⟩, ⟨rfl, rfl, rfl, by simp [setBlock], fun i _ hi => heap_setBlock_other h1 _ (fun e => hi (by rw [e]))⟩, by simp [setBlock]⟩
  ·simp [Instr.mapUpdate, run_underlying ht, MapKept.run_getObj_map h1, MapKept.run_checkKey hk (q17 k), g1, hj, g3, MapKept.run_keyThatStays (q17 k), MapKept.run_setObj_map _ h1, Result.andThen, setBlock]
  ·rw [hlist]
   exact h2.set g2 g3
theorem MapS.drop {ty : TypeId} {t2 : TypeId} (h : MapS w B f) (ht : P.underlying t = some (.map kt et)) (hk : P.underlying kt = some .string) (k : KeyS) :
  ∃ w', (Builtin.delete_ #[t, t2] ty #[.map (some B), keyV k]).run P w = .ok (.tuple #[]) w' ∧ MapS w' B (updM f k none) ∧ w.grownBy w' (some B) ∧ w'.heap.size = w.heap.size := by
 obtain ⟨es, clock, h1, h2⟩ := h
 rcases MapS.find h2 hk w k with ⟨g1, g2, g3⟩ | ⟨j, e, g1, g2, g3, g4⟩
 ·refine ⟨setBlock w B (.map es clock), ?_, ⟨_, _, heap_setBlock_same h1 _, h2.drop_none g2⟩, ⟨rfl, rfl, rfl, by simp [setBlock], fun i _ hi => heap_setBlock_other h1 _ (fun e => hi (by rw [e]))⟩, by simp [setBlock]⟩
  simp [Builtin.delete_, run_underlying ht, MapKept.run_getObj_map h1, MapKept.run_checkKey hk (q17 k), g1, MapKept.run_setObj_map _ h1, Result.andThen, setBlock]
 ·have hjl : j < es.toList.length := (List.getElem?_eq_some_iff.1 g2).1
  have hjs : j < es.size := by simpa using hjl
  have hsub : (es.eraseIdxIfInBounds j).toList = es.toList.eraseIdx j := by
   unfold Array.eraseIdxIfInBounds
   rw [dif_pos hjs]
   simp
  refine ⟨setBlock w B (.map (es.eraseIdxIfInBounds j) clock), ?_, ⟨_, _, heap_setBlock_same h1 _, ?_⟩, ⟨rfl, rfl, rfl, by simp [setBlock], fun i _ hi => heap_setBlock_other h1 _ (fun e => hi (by rw [e]))⟩, by simp [setBlock]⟩
  ·simp [Builtin.delete_, run_underlying ht, MapKept.run_getObj_map h1, MapKept.run_checkKey hk (q17 k), g1, MapKept.run_setObj_map _ h1, Result.andThen, setBlock]
  ·rw [hsub]
   exact h2.erase g2 g3
end
end Go.Proofs.YtdpbllacfljmoaaGreat
