/-
  The document's own answers on keys: Parse of nothing, After, Name, Number, Digits of conductorref03.
-/
import Derived.Test.YtaldjfijcoppiaaKRefB
import Derived.StillTailTactics
import Derived.RegionTactic
namespace Go.Proofs.Ytaldjfijcoppiaa
open Go.RowKit

theorem refParse_empty (w : World) : Calls Try.prog 12 #[.string ⟨#[]⟩] w (RetParse [] w) := by
  go_enter Try.func12, Try.ntmps12
  go_wp2
  go_ret3
  exact ⟨none, 0, rfl, Nat.le_refl _, fun _ => rfl, fun h => absurd h (by simp [parseL]), Below.refl _ _⟩

theorem refParse_l (L : List UInt8) (w : World) (h : L.length ≤ 5001) : Calls Try.prog 12 #[.string ⟨L.toArray⟩] w (RetParse L w) := by
  cases L with
  | nil => exact refParse_empty w
  | cons c t => exact refParse_any c t w (by simpa using h)

theorem snoc_at (q : List UInt8) (c : UInt8) (h : q.length < (⟨(q ++ [c]).toArray⟩ : ByteArray).size) : (⟨(q ++ [c]).toArray⟩ : ByteArray)[q.length]'h = c := by
  show (q ++ [c]).toArray[q.length]'h = c
  simp

set_option maxRecDepth 100000 in
set_option maxHeartbeats 1000000 in
theorem refAfter_any (n : Nat) : ∀ (p : List UInt8) (w : World), p.length = n → n ≤ 50000 →
    Calls Try.prog 19 #[.string ⟨p.toArray⟩] w fun r w' => r = .returned (.string ⟨(afterL p).toArray⟩) ∧ Below w.heap.size w w' := by
  induction n with
  | zero =>
    intro p w hp _
    obtain rfl : p = [] := List.eq_nil_of_length_eq_zero hp
    go_enter Try.func19, Try.ntmps19
    go_wp2
    go_ret
    exact ⟨rfl, Below.refl _ _⟩
  | succ n ih =>
    intro p w hp hn
    obtain ⟨q, c, rfl⟩ : ∃ q c, p = q ++ [c] := by
      rcases List.eq_nil_or_concat p with rfl | ⟨q, c, rfl⟩
      · cases hp
      · exact ⟨q, c, by rw [List.concat_eq_append]⟩
    have hq : q.length = n := by simpa using hp
    subst hq
    have IH := Lib.hid (fun w => ih q w rfl (by omega))
    have HA := Lib.hid (after_snoc q c)
    have hidx := snoc_at q c
    have hx : (⟨(q ++ [c]).toArray⟩ : ByteArray).extract 0 q.length = ⟨q.toArray⟩ := by
      rw [extract_take]
      simp
    have HX := Lib.hid hx
    have he : (q ++ [c]).isEmpty = false := by cases q <;> rfl
    clear ih hp hx
    by_cases hc : c = 255
    · have hz : ((c.toNat : Int) == 255) = true := u8_eq (n := 255) (by omega) hc
      have HC := Lib.hid hc
      clear hc
      go_enter Try.func19, Try.ntmps19
      go_wp2_with fail
      rw [HX.out]
      refine (IH.out _).mono ?_
      rintro r w2 ⟨rfl, hb2⟩
      have HB := Lib.hid hb2
      clear hb2
      go_wp2_with fail
      go_ret
      refine ⟨?_, HB.out⟩
      rw [HA.out, if_pos HC.out]
      rfl
    · have hz : ((c.toNat : Int) == 255) = false := u8_ne (n := 255) (by omega) hc
      have HC := Lib.hid hc
      have hs := u8_succ hc
      have hcv : (convert 49 9 (.slice (some ⟨w.heap.size, 0, none⟩) 1 1)).run Try.prog (w.alloc (.cells #[.int .u8 ((c.toNat : Int) + 1)] 5)).drew = .ok (.string ⟨[c + 1].toArray⟩) (w.alloc (.cells #[.int .u8 ((c.toNat : Int) + 1)] 5)).drew :=
        conv_rd (w := (w.alloc (.cells #[.int .u8 ((c.toNat : Int) + 1)] 5)).drew) (m := [c + 1]) 49 9 5 Try.underlying49 Try.underlying5 Try.underlying9 rfl (show Rd (w.alloc (.cells #[.int .u8 ((c.toNat : Int) + 1)] 5)) _ _ _ _ from Rd.one w 5 _ (c + 1) (by omega))
      have hlt := (c + 1).toNat_lt
      have h8 : (c.toNat : Int) + 1 ≤ 255 := by omega
      clear hc hlt
      have HS := Lib.hid hs
      clear hs
      go_enter Try.func19, Try.ntmps19
      go_wp2_with fail
      have s1 : IntKind.i64.wrap (q.length : Int) = (q.length : Int) := IntWalk.i64_in _ (by omega)
      have s2 : IntKind.u8.wrap ((c.toNat : Int) + 1) = (c.toNat : Int) + 1 := IntWalk.u8_in _ (by omega)
      have hle : (q.length : Int) ≤ (q.length : Int) + 1 := by omega
      go_region
      all_goals
        clear s1 s2 hcv
        go_wp2
        go_ret
        refine ⟨?_, ((Below.refl _ w).alloc (Nat.le_refl _) _).drew⟩
        rw [HA.out, if_neg HC.out, ← ba_cat q [c + 1]]
        show Ending.returned (.string ((⟨(q ++ [c]).toArray⟩ : ByteArray).extract 0 q.length ++ ⟨#[c + 1]⟩)) = _
        rw [HX.out]

/-- Is it a name? By its bytes, from number j on. -/
def letterB (c : UInt8) : Bool := decide (97 ≤ c.toNat) && decide (c.toNat ≤ 122)
def laterB (c : UInt8) : Bool := letterB c || c == 45 || (decide (48 ≤ c.toNat) && decide (c.toNat ≤ 57))
def okAt (l : List UInt8) (j : Nat) : Bool := match l[j]? with
  | none => true
  | some c => letterB c || (decide (j ≠ 0) && laterB c)
def nameL (l : List UInt8) : Bool := (List.range l.length).all (okAt l) && decide (1 ≤ l.length) && decide (l.length ≤ 16)
theorem name_no {l : List UInt8} {j : Nat} (h : j < l.length) (hb : okAt l j = false) : nameL l = false := by
  unfold nameL
  have : (List.range l.length).all (okAt l) = false := by
    rw [List.all_eq_false]
    exact ⟨j, List.mem_range.2 h, by simpa using hb⟩
  rw [this]
  rfl
theorem name_end {l : List UInt8} (h : ∀ j, j < l.length → okAt l j = true) : nameL l = (decide (1 ≤ l.length) && decide (l.length ≤ 16)) := by
  unfold nameL
  have : (List.range l.length).all (okAt l) = true := by
    rw [List.all_eq_true]
    intro j hj
    exact h j (List.mem_range.1 hj)
  rw [this, Bool.true_and]
theorem ok_at (s : ByteArray) (j : Nat) (h : j < s.size) : okAt s.data.toList j = (letterB s[j] || (decide (j ≠ 0) && laterB s[j])) := by
  unfold okAt
  rw [List.getElem?_eq_getElem (by simpa using h)]
  rfl

set_option maxRecDepth 100000 in
set_option maxHeartbeats 2000000 in
theorem refName_any (s : ByteArray) (w : World) (hs : s.size ≤ 5000) :
    Calls Try.prog 18 #[.string s] w fun r w' => r = .returned (.bool (nameL s.data.toList)) ∧ w = w' := by
  go_enter Try.func18, Try.ntmps18
  go_wp2
  go_loopg [7] s.size (fun q i wr => ∃ j : Nat, j + q = s.size ∧ i = .int .i64 j ∧ (∀ i, i < j → okAt s.data.toList i = true) ∧ w = wr)
  case atStart => exact ⟨0, by omega, rfl, fun i h => absurd h (by omega), rfl⟩
  case round =>
    obtain ⟨j, hk, rfl, hall, rfl⟩ := hrel
    have HK := Lib.hid hk
    have HA := Lib.hid hall
    clear hk hall
    by_cases hj : j < s.size
    · have hlt : decide ((j : Int) < (s.size : Int)) = true := by simpa using hj
      have HO := Lib.hid (ok_at s j hj)
      have go_on : okAt s.data.toList j = true → ∀ i, i < j + 1 → okAt s.data.toList i = true := by
        intro h i hi
        by_cases e : i = j
        · subst e; exact h
        · exact HA.out i (by omega)
      have GO := Lib.hid go_on
      clear go_on
      by_cases a1 : 97 ≤ s[j].toNat
      · by_cases a2 : s[j].toNat ≤ 122
        · have b1 : decide ((97 : Int) ≤ (s[j].toNat : Int)) = true := by rw [decide_eq_true_iff]; omega
          have b2 : decide ((s[j].toNat : Int) ≤ 122) = true := by rw [decide_eq_true_iff]; omega
          have hok : okAt s.data.toList j = true := by rw [HO.out]; simp [letterB, a1, a2]
          have HOK := Lib.hid hok
          clear hok
          go_wp2
          go_roundg (gk - 1)
          case measure => have := HK.out; omega
          case rel => exact ⟨j + 1, by have := HK.out; omega, by go_num, GO.out HOK.out, rfl⟩
        · have b1 : decide ((97 : Int) ≤ (s[j].toNat : Int)) = true := by rw [decide_eq_true_iff]; omega
          have b2 : decide ((s[j].toNat : Int) ≤ 122) = false := by rw [decide_eq_false_iff_not]; omega
          have hl : letterB s[j] = false := by simp [letterB, a2]
          by_cases hz : j = 0
          · have z1 : ((j : Int) == 0) = true := by rw [beq_iff_eq]; omega
            have hok : okAt s.data.toList j = false := by rw [HO.out, hl, show decide (j ≠ 0) = false from by simp [hz]]; rfl
            clear hz
            have HN := Lib.hid (name_no (l := s.data.toList) hj hok)
            clear hok
            go_wp2
            go_ret
            exact ⟨by rw [HN.out]; rfl, rfl⟩
          · have z1 : ((j : Int) == 0) = false := by rw [beq_eq_false_iff_ne]; omega
            by_cases e45 : s[j] = 45
            · have e1 : ((s[j].toNat : Int) != 45) = false := by
                have := u8_eq (n := 45) (by omega) e45
                simpa [bne] using this
              have hok : okAt s.data.toList j = true := by rw [HO.out]; simp [hz, laterB, e45]
              have HOK := Lib.hid hok
              clear hok
              go_wp2
              go_roundg (gk - 1)
              case measure => have := HK.out; omega
              case rel => exact ⟨j + 1, by have := HK.out; omega, by go_num, GO.out HOK.out, rfl⟩
            · have e1 : ((s[j].toNat : Int) != 45) = true := by
                have := u8_ne (n := 45) (by omega) e45
                simpa [bne] using this
              by_cases c1 : s[j].toNat < 48
              · have f1 : decide ((s[j].toNat : Int) < 48) = true := by rw [decide_eq_true_iff]; omega
                have hok : okAt s.data.toList j = false := by rw [HO.out]; simp [hl, laterB, e45, show ¬ 48 ≤ s[j].toNat from by omega]
                have HN := Lib.hid (name_no (l := s.data.toList) hj hok)
                clear hok
                go_wp2
                go_ret
                exact ⟨by rw [HN.out]; rfl, rfl⟩
              · have f1 : decide ((s[j].toNat : Int) < 48) = false := by rw [decide_eq_false_iff_not]; omega
                by_cases c2 : 57 < s[j].toNat
                · have f2 : decide ((57 : Int) < (s[j].toNat : Int)) = true := by rw [decide_eq_true_iff]; omega
                  have c3 : ¬ s[j].toNat ≤ 57 := by omega
                  have hok : okAt s.data.toList j = false := by rw [HO.out]; simp [hl, laterB, e45, c3]
                  have HN := Lib.hid (name_no (l := s.data.toList) hj hok)
                  clear hok
                  go_wp2
                  go_ret
                  exact ⟨by rw [HN.out]; rfl, rfl⟩
                · have f2 : decide ((57 : Int) < (s[j].toNat : Int)) = false := by rw [decide_eq_false_iff_not]; omega
                  have c3 : s[j].toNat ≤ 57 := by omega
                  have c4 : 48 ≤ s[j].toNat := by omega
                  have hok : okAt s.data.toList j = true := by rw [HO.out]; simp [hl, hz, laterB, c3, c4]
                  have HOK := Lib.hid hok
                  clear hok
                  go_wp2
                  go_roundg (gk - 1)
                  case measure => have := HK.out; omega
                  case rel => exact ⟨j + 1, by have := HK.out; omega, by go_num, GO.out HOK.out, rfl⟩
      · have b1 : decide ((97 : Int) ≤ (s[j].toNat : Int)) = false := by rw [decide_eq_false_iff_not]; omega
        have hl : letterB s[j] = false := by simp [letterB, a1]
        by_cases hz : j = 0
        · have z1 : ((j : Int) == 0) = true := by rw [beq_iff_eq]; omega
          have hok : okAt s.data.toList j = false := by rw [HO.out, hl, show decide (j ≠ 0) = false from by simp [hz]]; rfl
          clear hz
          have HN := Lib.hid (name_no (l := s.data.toList) hj hok)
          clear hok
          go_wp2
          go_ret
          exact ⟨by rw [HN.out]; rfl, rfl⟩
        · have z1 : ((j : Int) == 0) = false := by rw [beq_eq_false_iff_ne]; omega
          by_cases e45 : s[j] = 45
          · have e1 : ((s[j].toNat : Int) != 45) = false := by
              have := u8_eq (n := 45) (by omega) e45
              simpa [bne] using this
            have hok : okAt s.data.toList j = true := by rw [HO.out]; simp [hz, laterB, e45]
            have HOK := Lib.hid hok
            clear hok
            go_wp2
            go_roundg (gk - 1)
            case measure => have := HK.out; omega
            case rel => exact ⟨j + 1, by have := HK.out; omega, by go_num, GO.out HOK.out, rfl⟩
          · have e1 : ((s[j].toNat : Int) != 45) = true := by
              have := u8_ne (n := 45) (by omega) e45
              simpa [bne] using this
            by_cases c1 : s[j].toNat < 48
            · have f1 : decide ((s[j].toNat : Int) < 48) = true := by rw [decide_eq_true_iff]; omega
              have hok : okAt s.data.toList j = false := by rw [HO.out]; simp [hl, laterB, e45, show ¬ 48 ≤ s[j].toNat from by omega]
              have HN := Lib.hid (name_no (l := s.data.toList) hj hok)
              clear hok
              go_wp2
              go_ret
              exact ⟨by rw [HN.out]; rfl, rfl⟩
            · have f1 : decide ((s[j].toNat : Int) < 48) = false := by rw [decide_eq_false_iff_not]; omega
              by_cases c2 : 57 < s[j].toNat
              · have f2 : decide ((57 : Int) < (s[j].toNat : Int)) = true := by rw [decide_eq_true_iff]; omega
                have c3 : ¬ s[j].toNat ≤ 57 := by omega
                have hok : okAt s.data.toList j = false := by rw [HO.out]; simp [hl, laterB, e45, c3]
                have HN := Lib.hid (name_no (l := s.data.toList) hj hok)
                clear hok
                go_wp2
                go_ret
                exact ⟨by rw [HN.out]; rfl, rfl⟩
              · have f2 : decide ((57 : Int) < (s[j].toNat : Int)) = false := by rw [decide_eq_false_iff_not]; omega
                have c3 : s[j].toNat ≤ 57 := by omega
                have c4 : 48 ≤ s[j].toNat := by omega
                have hok : okAt s.data.toList j = true := by rw [HO.out]; simp [hl, hz, laterB, c3, c4]
                have HOK := Lib.hid hok
                clear hok
                go_wp2
                go_roundg (gk - 1)
                case measure => have := HK.out; omega
                case rel => exact ⟨j + 1, by have := HK.out; omega, by go_num, GO.out HOK.out, rfl⟩
    · have hj' : j = s.size := by have := HK.out; omega
      have hlt : decide ((j : Int) < (s.size : Int)) = false := by simpa using hj
      have HE := Lib.hid (name_end (fun i hi => HA.out i (by rw [hj']; exact hi)))
      subst hj'
      clear HA
      have hsz : s.data.toList.length = s.size := rfl
      by_cases h1 : 1 ≤ s.size
      · have d1 : decide ((1 : Int) ≤ (s.size : Int)) = true := by rw [decide_eq_true_iff]; omega
        by_cases h2 : s.size ≤ 16
        · have d2 : decide ((s.size : Int) ≤ 16) = true := by rw [decide_eq_true_iff]; omega
          have hn : nameL s.data.toList = true := by rw [HE.out, hsz]; simp [h1, h2]
          have HN := Lib.hid hn
          clear hn
          go_wp2
          go_ret
          exact ⟨by rw [HN.out]; rfl, rfl⟩
        · have d2 : decide ((s.size : Int) ≤ 16) = false := by rw [decide_eq_false_iff_not]; omega
          have hn : nameL s.data.toList = false := by rw [HE.out, hsz]; simp [h2]
          have HN := Lib.hid hn
          clear hn
          go_wp2
          go_ret
          exact ⟨by rw [HN.out]; rfl, rfl⟩
      · have d1 : decide ((1 : Int) ≤ (s.size : Int)) = false := by rw [decide_eq_false_iff_not]; omega
        have hn : nameL s.data.toList = false := by rw [HE.out, hsz]; simp [h1]
        have HN := Lib.hid hn
        clear hn
        go_wp2
        go_ret
        exact ⟨by rw [HN.out]; rfl, rfl⟩
end Go.Proofs.Ytaldjfijcoppiaa
