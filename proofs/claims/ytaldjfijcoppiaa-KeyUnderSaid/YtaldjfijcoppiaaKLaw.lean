/-
  The statements' own functions on keys: few, ahead, begins; and Same of any two slices of texts.
-/
import Derived.Test.YtaldjfijcoppiaaKRefD
import Derived.Laws.Cover1
namespace Go.Proofs.Ytaldjfijcoppiaa
open Go.RowKit

/-- Are these few short parts? -/
def fewK (ps : List ByteArray) : Bool := ps.all (fun p => decide (p.size ≤ 100)) && decide (ps.length ≤ 20)
theorem fewK_no {ps : List ByteArray} {j : Nat} (h : j < ps.length) (hb : ¬ ps[j].size ≤ 100) : fewK ps = false := by
  unfold fewK
  rw [Bool.and_eq_false_iff]
  left
  rw [List.all_eq_false]
  exact ⟨ps[j], List.getElem_mem h, by simpa using hb⟩
theorem fewK_end {ps : List ByteArray} (h : ∀ i (hi : i < ps.length), ps[i].size ≤ 100) : fewK ps = decide (ps.length ≤ 20) := by
  unfold fewK
  have : ps.all (fun p => decide (p.size ≤ 100)) = true := by
    rw [List.all_eq_true]
    intro p hp
    obtain ⟨i, hi, rfl⟩ := List.getElem_of_mem hp
    simpa using h i hi
  rw [this, Bool.true_and]
theorem fewK_yes {ps : List ByteArray} (h : fewK ps = true) : (∀ p ∈ ps, p.size ≤ 100) ∧ ps.length ≤ 20 := by
  unfold fewK at h
  rw [Bool.and_eq_true, List.all_eq_true] at h
  exact ⟨fun p hp => by simpa using h.1 p hp, by simpa using h.2⟩

set_option maxRecDepth 100000 in
set_option maxHeartbeats 1000000 in
theorem fewK_any (A : Option Addr) (n c : Nat) (ps : List ByteArray) (lo hi : Nat) (w : World) (hn : n = ps.length) (hm : n ≤ maxLen) (hsz : ∀ p ∈ ps, p.size ≤ maxLen) (hr : RowS w lo hi A ps) :
    Calls Try.prog 10 #[.slice A n c] w fun r w' => r = .returned (.bool (fewK ps)) ∧ w = w' := by
  subst hn
  unfold maxLen at hm
  have HR := Lib.hid hr
  have HZ := Lib.hid hsz
  clear hr hsz
  go_enter Try.func10, Try.ntmps10
  go_wp2
  go_loopg [7] ps.length (fun q i wr => ∃ j : Nat, j + q = ps.length ∧ i = .int .i64 j ∧ (∀ i (hi : i < ps.length), i < j → ps[i].size ≤ 100) ∧ w = wr)
  case atStart => exact ⟨0, by omega, rfl, fun i _ h => absurd h (by omega), rfl⟩
  case round =>
    obtain ⟨j, hk, rfl, hall, rfl⟩ := hrel
    have HK := Lib.hid hk
    have HA := Lib.hid hall
    clear hall
    by_cases hj : j < ps.length
    · have hlt : decide ((j : Int) < (ps.length : Int)) = true := by simpa using hj
      obtain ⟨b, o, rfl, d1⟩ := HR.out.at_ hj
      have hz := HZ.out _ (List.getElem_mem hj)
      unfold maxLen at hz
      clear hk
      by_cases hs : ps[j].size ≤ 100
      · have HS := Lib.hid hs
        generalize hpj : ps[j] = pj at d1 hs hz
        have HP := Lib.hid hpj
        clear hpj
        go_wp2
        go_roundg (gk - 1)
        case measure => have := HK.out; omega
        case rel =>
          refine ⟨j + 1, by have := HK.out; omega, by go_num, fun i hi h => ?_, rfl⟩
          by_cases e : i = j
          · subst e; exact HS.out
          · exact HA.out i hi (by omega)
      · have HF := Lib.hid (fewK_no hj hs)
        generalize ps[j] = pj at d1 hs hz
        have hs : 100 < pj.size := by omega
        go_wp2
        go_ret
        exact ⟨by rw [HF.out]; rfl, rfl⟩
    · have hj' : j = ps.length := by have := HK.out; omega
      have hlt : decide ((j : Int) < (ps.length : Int)) = false := by simpa using hj
      have HF := Lib.hid (fewK_end (fun i hi => HA.out i hi (by omega)))
      subst hj'
      clear hk HA
      go_wp2
      go_ret
      refine ⟨?_, rfl⟩
      rw [HF.out]
      simp
      omega

theorem ba_ne {a b : ByteArray} (h : a ≠ b) : (a.toList == b.toList) = false := by
  rw [ByteArray.toList_eq, ByteArray.toList_eq, beq_eq_false_iff_ne]
  intro e
  apply h
  apply ByteArray.ext
  exact Array.toList_inj.1 e
theorem ne_at {a b : List ByteArray} {j : Nat} (h1 : j < a.length) (h2 : j < b.length) (h : a[j] ≠ b[j]) : a ≠ b := by
  intro e
  subst e
  exact h rfl

set_option maxRecDepth 100000 in
set_option maxHeartbeats 2000000 in
theorem same_any (A1 A2 : Option Addr) (n1 n2 c1 c2 lo1 hi1 lo2 hi2 : Nat) (l1 l2 : List ByteArray) (w : World) (e1 : n1 = l1.length) (e2 : n2 = l2.length) (h1 : RowS w lo1 hi1 A1 l1) (h2 : RowS w lo2 hi2 A2 l2) (hl1 : l1.length ≤ 5000) :
    Calls Try.prog 16 #[.slice A1 n1 c1, .slice A2 n2 c2] w fun r w' => r = .returned (.bool (decide (l1 = l2))) ∧ Below w.heap.size w w' := by
  by_cases hn : l1.length = l2.length
  · subst e1 e2
    have H1 := Lib.hid h1
    have H2 := Lib.hid h2
    have HN := Lib.hid hn
    have hb : ((l1.length : Int) != (l2.length : Int)) = false := by simp [hn]
    clear h1 h2 hn
    go_enter Try.func16, Try.ntmps16
    go_wp2
    go_loopg [13] l1.length (fun k i wr => ∃ j m : Nat, j + k = l1.length ∧ i = .int .i64 j ∧ (∀ i (ha : i < l1.length) (hb : i < l2.length), i < j → l1[i] = l2[i]) ∧ wr = w.drewN m)
    case atStart => exact ⟨0, 0, by omega, rfl, fun i _ _ h => absurd h (by omega), rfl⟩
    case round =>
      obtain ⟨j, m, hk, rfl, hall, rfl⟩ := hrel
      have HK := Lib.hid hk
      have HA := Lib.hid hall
      clear hall
      by_cases hj : j < l1.length
      · have hlt : decide ((j : Int) < (l1.length : Int)) = true := by simpa using hj
        have hj2 : j < l2.length := by have := HN.out; omega
        obtain ⟨b, o, rfl, d1⟩ := H1.out.at_ hj
        obtain ⟨b', o', rfl, d2⟩ := H2.out.at_ hj2
        clear hk
        by_cases he : l1[j] = l2[j]
        · have HE := Lib.hid he
          rw [he] at d1
          clear he
          generalize l2[j] = x at d1 d2
          go_wp2
          go_region
          all_goals
            go_wp2
            go_roundg (gk - 1)
            case measure => have := HK.out; omega
            case rel =>
              refine ⟨j + 1, m + 1, by have := HK.out; omega, by go_num, fun i ha hb h => ?_, rfl⟩
              by_cases e : i = j
              · subst e; exact HE.out
              · exact HA.out i ha hb (by omega)
        · have hne := ba_ne he
          have HN2 := Lib.hid (decide_eq_false (p := l1 = l2) (ne_at hj hj2 he))
          clear he
          generalize l1[j] = x at d1 hne
          generalize l2[j] = y at d2 hne
          go_wp2
          go_region
          all_goals
            go_wp2
            go_ret
            exact ⟨by rw [HN2.out]; rfl, (below_drewN' w (m + 1))⟩
      · have hlt : decide ((j : Int) < (l1.length : Int)) = false := by simpa using hj
        have HD := Lib.hid (decide_eq_true (p := l1 = l2) (List.ext_getElem HN.out (fun i ha hb => HA.out i ha hb (by have := HK.out; omega))))
        clear hk
        go_wp2
        go_ret
        exact ⟨by rw [HD.out]; rfl, below_drewN' w m⟩
  · have hd : decide (l1 = l2) = false := decide_eq_false (fun e => hn (by rw [e]))
    have HD := Lib.hid hd
    subst e1 e2
    have hb : ((l1.length : Int) != (l2.length : Int)) = true := by
      rw [bne_iff_ne]
      omega
    clear hn hd h1 h2
    go_enter Try.func16, Try.ntmps16
    go_wp2
    go_ret
    exact ⟨by rw [HD.out]; rfl, Below.refl _ _⟩

/-- A row's first texts. -/
theorem RowS.take {w : World} {lo hi : Nat} {A : Option Addr} {l : List ByteArray} (h : RowS w lo hi A l) (k : Nat) : RowS w lo hi A (l.take k) := fun hn => by
  rw [List.length_take] at hn
  obtain ⟨b, o, e, h1, h2, hc⟩ := h (by omega)
  refine ⟨b, o, e, h1, h2, fun j hj => ?_⟩
  rw [List.length_take] at hj
  rw [hc j (by omega), List.getElem_take]

set_option maxRecDepth 100000 in
set_option maxHeartbeats 1000000 in
theorem begins_any (A1 A2 : Option Addr) (n1 n2 c1 c2 lo1 hi1 lo2 hi2 : Nat) (l1 l2 : List ByteArray) (w : World) (e1 : n1 = l1.length) (e2 : n2 = l2.length) (h1 : RowS w lo1 hi1 A1 l1) (h2 : RowS w lo2 hi2 A2 l2) (hl2 : l2.length ≤ 5000) (hc1 : n1 ≤ c1) :
    Calls Try.prog 26 #[.slice A1 n1 c1, .slice A2 n2 c2] w fun r w' => r = .returned (.bool (decide (l2 <+: l1))) ∧ Below w.heap.size w w' := by
  subst e1 e2
  have H1 := Lib.hid h1
  have H2 := Lib.hid h2
  clear h1 h2
  by_cases hn : l2.length ≤ l1.length
  · have hb : decide ((l2.length : Int) ≤ (l1.length : Int)) = true := by rw [decide_eq_true_iff]; omega
    have hd : decide (l1.take l2.length = l2) = decide (l2 <+: l1) := by
      rw [decide_eq_decide, List.prefix_iff_eq_take]
      exact eq_comm
    have HD := Lib.hid hd
    clear hd
    go_enter Try.func26, Try.ntmps26
    go_wp2_with fail
    refine (same_any A1 A2 _ _ _ _ lo1 hi1 lo2 hi2 (l1.take l2.length) l2 _ (by rw [List.length_take]; omega) rfl (H1.out.take _) H2.out (by rw [List.length_take]; omega)).mono ?_
    rw [HD.out]
    rintro r w' ⟨rfl, hb'⟩
    have HB := Lib.hid hb'
    clear hb'
    go_wp2_with fail
    go_ret
    exact ⟨rfl, HB.out⟩
  · have hb : decide ((l2.length : Int) ≤ (l1.length : Int)) = false := by rw [decide_eq_false_iff_not]; omega
    have hd : decide (l2 <+: l1) = false := decide_eq_false (fun h => hn h.length_le)
    have HD := Lib.hid hd
    clear hd
    go_enter Try.func26, Try.ntmps26
    go_wp2
    go_ret
    exact ⟨by rw [HD.out]; rfl, Below.refl _ _⟩

/-- Which list of texts is ahead. -/
def aheadB (a b : List ByteArray) : Int := aheadL (a.map (·.data.toList)) (b.map (·.data.toList))
theorem aheadB_cons (x y : ByteArray) (a b : List ByteArray) : aheadB (x :: a) (y :: b) = if blt x.data.toList y.data.toList = true then -1 else if blt y.data.toList x.data.toList = true then 1 else aheadB a b := rfl
theorem ahead_drop : ∀ (j : Nat) {a b : List ByteArray}, j ≤ a.length → j ≤ b.length → (∀ i (ha : i < a.length) (hb : i < b.length), i < j → a[i] = b[i]) → aheadB a b = aheadB (a.drop j) (b.drop j)
  | 0, _, _, _, _, _ => rfl
  | j + 1, [], _, h, _, _ => by simp at h
  | j + 1, _ :: _, [], _, h, _ => by simp at h
  | j + 1, x :: a, y :: b, h1, h2, h => by
    have e : x = y := h 0 (by simp) (by simp) (by omega)
    subst e
    have ih := ahead_drop j (a := a) (b := b) (by simpa using h1) (by simpa using h2) (fun i ha hb hi => h (i + 1) (by simpa using ha) (by simpa using hb) (by omega))
    rw [aheadB_cons, blt_self]
    simpa using ih
theorem ahead_at (j : Nat) {a b : List ByteArray} (h1 : j < a.length) (h2 : j < b.length) (h : ∀ i (hi : i < j), a[i]'(by omega) = b[i]'(by omega)) :
    aheadB a b = if blt a[j].data.toList b[j].data.toList = true then -1 else if blt b[j].data.toList a[j].data.toList = true then 1 else aheadB (a.drop (j + 1)) (b.drop (j + 1)) := by
  rw [ahead_drop j (by omega) (by omega) (fun i _ _ hi => h i hi), List.drop_eq_getElem_cons h1, List.drop_eq_getElem_cons h2, aheadB_cons]

set_option maxRecDepth 100000 in
set_option maxHeartbeats 2000000 in
theorem ahead_any (A1 A2 : Option Addr) (n1 n2 c1 c2 lo1 hi1 lo2 hi2 : Nat) (l1 l2 : List ByteArray) (w : World) (e1 : n1 = l1.length) (e2 : n2 = l2.length) (h1 : RowS w lo1 hi1 A1 l1) (h2 : RowS w lo2 hi2 A2 l2) (hl1 : l1.length ≤ 5000) (hl2 : l2.length ≤ 5000) :
    Calls Try.prog 25 #[.slice A1 n1 c1, .slice A2 n2 c2] w fun r w' => r = .returned (.int .i64 (aheadB l1 l2)) ∧ Below w.heap.size w w' := by
  subst e1 e2
  have H1 := Lib.hid h1
  have H2 := Lib.hid h2
  clear h1 h2
  rcases Nat.lt_trichotomy l1.length l2.length with hl | hl | hl
  · have HL := Lib.hid hl
    clear hl
    have hl := HL.out
    go_enter Try.func25, Try.ntmps25
    go_wp2
    go_loopg [11] l1.length (fun q i wr => ∃ j m : Nat, j + q = l1.length ∧ i = .int .i64 j ∧ (∀ i (ha : i < l1.length) (hb : i < l2.length), i < j → l1[i] = l2[i]) ∧ wr = w.drewN m)
    case atStart => exact ⟨0, 0, by omega, rfl, fun i _ _ h => absurd h (by omega), rfl⟩
    case round =>
      obtain ⟨j, m, hk, rfl, hall, rfl⟩ := hrel
      have HK := Lib.hid hk
      have HA := Lib.hid hall
      clear hall
      by_cases hj : j < l1.length
      · have hlt : decide ((j : Int) < (l1.length : Int)) = true := by simpa using hj
        have hj1 : j < l1.length := by have := HL.out; omega
        have hj2 : j < l2.length := by have := HL.out; omega
        obtain ⟨b, o, rfl, d1⟩ := H1.out.at_ hj1
        obtain ⟨b', o', rfl, d2⟩ := H2.out.at_ hj2
        have HS := Lib.hid (ahead_at j hj1 hj2 (fun i h => HA.out i (by omega) (by omega) h))
        clear hk
        by_cases he : l1[j] = l2[j]
        · have HE := Lib.hid he
          have hx' : Op.bytesLess l2[j].toList l2[j].toList = false := blt_self _
          rw [he] at d1
          clear he
          generalize l2[j] = x at d1 d2 hx'
          go_wp2
          go_region
          all_goals
            go_wp2
            go_region
            all_goals
              go_wp2
              go_roundg (gk - 1)
              case measure => have := HK.out; omega
              case rel =>
                refine ⟨j + 1, m + 1 + 1, by have := HK.out; omega, by go_num, fun i ha hb h => ?_, rfl⟩
                by_cases e : i = j
                · subst e; exact HE.out
                · exact HA.out i ha hb (by omega)
        · have hne := ba_ne he
          have HE := Lib.hid he
          clear he
          by_cases hx : blt l1[j].data.toList l2[j].data.toList = true
          · have hn : aheadB l1 l2 = -1 := by rw [HS.out, if_pos hx]
            have HN := Lib.hid hn
            have hx' : Op.bytesLess l1[j].toList l2[j].toList = true := by rw [ByteArray.toList_eq, ByteArray.toList_eq]; exact hx
            clear hx hn HE
            generalize l1[j] = x at d1 hx' hne
            generalize l2[j] = y at d2 hx' hne
            go_wp2
            go_region
            all_goals
              go_wp2
              go_ret
              exact ⟨by rw [HN.out]; rfl, below_drewN' w (m + 1)⟩
          · have hx' : Op.bytesLess l1[j].toList l2[j].toList = false := by rw [ByteArray.toList_eq, ByteArray.toList_eq]; simpa using hx
            have hy : blt l2[j].data.toList l1[j].data.toList = true := by
              rcases blt_tri l1[j].data.toList l2[j].data.toList with h | h | h
              · exact absurd h hx
              · exact absurd (ByteArray.ext (Array.toList_inj.1 h)) HE.out
              · exact h
            have hn : aheadB l1 l2 = 1 := by rw [HS.out, if_neg hx, if_pos hy]
            have HN := Lib.hid hn
            clear hx hy hn HE
            generalize l1[j] = x at d1 hx' hne
            generalize l2[j] = y at d2 hx' hne
            go_wp2
            go_region
            all_goals
              go_wp2
              go_region
              all_goals
                go_wp2
                go_ret
                exact ⟨by rw [HN.out]; rfl, below_drewN' w (m + 1 + 1)⟩
      · have hlt : decide ((j : Int) < (l1.length : Int)) = false := by simpa using hj
        have hl0 := HL.out
        have hn : aheadB l1 l2 = -1 := by
          rw [ahead_drop j (by omega) (by omega) (fun i ha hb h => HA.out i ha hb h), List.drop_eq_nil_of_le (by omega), List.drop_eq_getElem_cons (by omega : j < l2.length)]
          rfl
        have HN := Lib.hid hn
        have q1 : decide ((l1.length : Int) < (l2.length : Int)) = true := by rw [decide_eq_true_iff]; omega
        clear hk hn
        go_wp2
        go_ret
        exact ⟨by rw [HN.out]; rfl, below_drewN' w m⟩
  · have HL := Lib.hid hl
    rw [hl]
    clear hl
    go_enter Try.func25, Try.ntmps25
    go_wp2
    go_loopg [11] l2.length (fun q i wr => ∃ j m : Nat, j + q = l2.length ∧ i = .int .i64 j ∧ (∀ i (ha : i < l1.length) (hb : i < l2.length), i < j → l1[i] = l2[i]) ∧ wr = w.drewN m)
    case atStart => exact ⟨0, 0, by omega, rfl, fun i _ _ h => absurd h (by omega), rfl⟩
    case round =>
      obtain ⟨j, m, hk, rfl, hall, rfl⟩ := hrel
      have HK := Lib.hid hk
      have HA := Lib.hid hall
      clear hall
      by_cases hj : j < l2.length
      · have hlt : decide ((j : Int) < (l2.length : Int)) = true := by simpa using hj
        have hj1 : j < l1.length := by have := HL.out; omega
        have hj2 : j < l2.length := by have := HL.out; omega
        obtain ⟨b, o, rfl, d1⟩ := H1.out.at_ hj1
        obtain ⟨b', o', rfl, d2⟩ := H2.out.at_ hj2
        have HS := Lib.hid (ahead_at j hj1 hj2 (fun i h => HA.out i (by omega) (by omega) h))
        clear hk
        by_cases he : l1[j] = l2[j]
        · have HE := Lib.hid he
          have hx' : Op.bytesLess l2[j].toList l2[j].toList = false := blt_self _
          rw [he] at d1
          clear he
          generalize l2[j] = x at d1 d2 hx'
          go_wp2
          go_region
          all_goals
            go_wp2
            go_region
            all_goals
              go_wp2
              go_roundg (gk - 1)
              case measure => have := HK.out; omega
              case rel =>
                refine ⟨j + 1, m + 1 + 1, by have := HK.out; omega, by go_num, fun i ha hb h => ?_, rfl⟩
                by_cases e : i = j
                · subst e; exact HE.out
                · exact HA.out i ha hb (by omega)
        · have hne := ba_ne he
          have HE := Lib.hid he
          clear he
          by_cases hx : blt l1[j].data.toList l2[j].data.toList = true
          · have hn : aheadB l1 l2 = -1 := by rw [HS.out, if_pos hx]
            have HN := Lib.hid hn
            have hx' : Op.bytesLess l1[j].toList l2[j].toList = true := by rw [ByteArray.toList_eq, ByteArray.toList_eq]; exact hx
            clear hx hn HE
            generalize l1[j] = x at d1 hx' hne
            generalize l2[j] = y at d2 hx' hne
            go_wp2
            go_region
            all_goals
              go_wp2
              go_ret
              exact ⟨by rw [HN.out]; rfl, below_drewN' w (m + 1)⟩
          · have hx' : Op.bytesLess l1[j].toList l2[j].toList = false := by rw [ByteArray.toList_eq, ByteArray.toList_eq]; simpa using hx
            have hy : blt l2[j].data.toList l1[j].data.toList = true := by
              rcases blt_tri l1[j].data.toList l2[j].data.toList with h | h | h
              · exact absurd h hx
              · exact absurd (ByteArray.ext (Array.toList_inj.1 h)) HE.out
              · exact h
            have hn : aheadB l1 l2 = 1 := by rw [HS.out, if_neg hx, if_pos hy]
            have HN := Lib.hid hn
            clear hx hy hn HE
            generalize l1[j] = x at d1 hx' hne
            generalize l2[j] = y at d2 hx' hne
            go_wp2
            go_region
            all_goals
              go_wp2
              go_region
              all_goals
                go_wp2
                go_ret
                exact ⟨by rw [HN.out]; rfl, below_drewN' w (m + 1 + 1)⟩
      · have hlt : decide ((j : Int) < (l2.length : Int)) = false := by simpa using hj
        have hl0 := HL.out
        have hn : aheadB l1 l2 = 0 := by
          have := HL.out
          rw [ahead_drop j (by omega) (by omega) (fun i ha hb h => HA.out i ha hb h), List.drop_eq_nil_of_le (by omega), List.drop_eq_nil_of_le (by omega)]
          rfl
        have HN := Lib.hid hn
        clear hk hn
        go_wp2
        go_ret
        exact ⟨by rw [HN.out]; rfl, below_drewN' w m⟩
  · have HL := Lib.hid hl
    clear hl
    have hl := HL.out
    go_enter Try.func25, Try.ntmps25
    go_wp2
    go_loopg [11] l2.length (fun q i wr => ∃ j m : Nat, j + q = l2.length ∧ i = .int .i64 j ∧ (∀ i (ha : i < l1.length) (hb : i < l2.length), i < j → l1[i] = l2[i]) ∧ wr = w.drewN m)
    case atStart => exact ⟨0, 0, by omega, rfl, fun i _ _ h => absurd h (by omega), rfl⟩
    case round =>
      obtain ⟨j, m, hk, rfl, hall, rfl⟩ := hrel
      have HK := Lib.hid hk
      have HA := Lib.hid hall
      clear hall
      by_cases hj : j < l2.length
      · have hlt : decide ((j : Int) < (l2.length : Int)) = true := by simpa using hj
        have hj1 : j < l1.length := by have := HL.out; omega
        have hj2 : j < l2.length := by have := HL.out; omega
        obtain ⟨b, o, rfl, d1⟩ := H1.out.at_ hj1
        obtain ⟨b', o', rfl, d2⟩ := H2.out.at_ hj2
        have HS := Lib.hid (ahead_at j hj1 hj2 (fun i h => HA.out i (by omega) (by omega) h))
        clear hk
        by_cases he : l1[j] = l2[j]
        · have HE := Lib.hid he
          have hx' : Op.bytesLess l2[j].toList l2[j].toList = false := blt_self _
          rw [he] at d1
          clear he
          generalize l2[j] = x at d1 d2 hx'
          go_wp2
          go_region
          all_goals
            go_wp2
            go_region
            all_goals
              go_wp2
              go_roundg (gk - 1)
              case measure => have := HK.out; omega
              case rel =>
                refine ⟨j + 1, m + 1 + 1, by have := HK.out; omega, by go_num, fun i ha hb h => ?_, rfl⟩
                by_cases e : i = j
                · subst e; exact HE.out
                · exact HA.out i ha hb (by omega)
        · have hne := ba_ne he
          have HE := Lib.hid he
          clear he
          by_cases hx : blt l1[j].data.toList l2[j].data.toList = true
          · have hn : aheadB l1 l2 = -1 := by rw [HS.out, if_pos hx]
            have HN := Lib.hid hn
            have hx' : Op.bytesLess l1[j].toList l2[j].toList = true := by rw [ByteArray.toList_eq, ByteArray.toList_eq]; exact hx
            clear hx hn HE
            generalize l1[j] = x at d1 hx' hne
            generalize l2[j] = y at d2 hx' hne
            go_wp2
            go_region
            all_goals
              go_wp2
              go_ret
              exact ⟨by rw [HN.out]; rfl, below_drewN' w (m + 1)⟩
          · have hx' : Op.bytesLess l1[j].toList l2[j].toList = false := by rw [ByteArray.toList_eq, ByteArray.toList_eq]; simpa using hx
            have hy : blt l2[j].data.toList l1[j].data.toList = true := by
              rcases blt_tri l1[j].data.toList l2[j].data.toList with h | h | h
              · exact absurd h hx
              · exact absurd (ByteArray.ext (Array.toList_inj.1 h)) HE.out
              · exact h
            have hn : aheadB l1 l2 = 1 := by rw [HS.out, if_neg hx, if_pos hy]
            have HN := Lib.hid hn
            clear hx hy hn HE
            generalize l1[j] = x at d1 hx' hne
            generalize l2[j] = y at d2 hx' hne
            go_wp2
            go_region
            all_goals
              go_wp2
              go_region
              all_goals
                go_wp2
                go_ret
                exact ⟨by rw [HN.out]; rfl, below_drewN' w (m + 1 + 1)⟩
      · have hlt : decide ((j : Int) < (l2.length : Int)) = false := by simpa using hj
        have hl0 := HL.out
        have hn : aheadB l1 l2 = 1 := by
          rw [ahead_drop j (by omega) (by omega) (fun i ha hb h => HA.out i ha hb h), List.drop_eq_nil_of_le (by omega : l2.length ≤ j), List.drop_eq_getElem_cons (by omega : j < l1.length)]
          rfl
        have HN := Lib.hid hn
        have q1 : decide ((l1.length : Int) < (l2.length : Int)) = false := by rw [decide_eq_false_iff_not]; omega
        have q2 : decide ((l2.length : Int) < (l1.length : Int)) = true := by rw [decide_eq_true_iff]; omega
        clear hk hn
        go_wp2
        go_ret
        exact ⟨by rw [HN.out]; rfl, below_drewN' w m⟩
end Go.Proofs.Ytaldjfijcoppiaa
