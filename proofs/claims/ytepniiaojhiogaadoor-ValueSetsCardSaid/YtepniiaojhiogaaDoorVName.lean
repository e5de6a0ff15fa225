/-
  Names, as package key answers them (Name), apart from all else that is known of keys: for the stages that call it.
-/
import Derived.Test.YtepniiaojhiogaaDoorBase
import Derived.WalkKit
import Derived.Laws.NewBlocks
import Derived.Deep.LoopGhost
namespace Go.Proofs.YtepniiaojhiogaaDoor.nm
open Go.RowKit

theorem u8_ne {b : UInt8} {n : Nat} (hn : n < 256) (h : b ≠ UInt8.ofNat n) : ((b.toNat : Int) == (n : Int)) = false := by
  rw [beq_eq_false_iff_ne]
  intro e
  apply h
  apply UInt8.toNat_inj.1
  rw [UInt8.toNat_ofNat']
  omega
theorem u8_eq {b : UInt8} {n : Nat} (hn : n < 256) (h : b = UInt8.ofNat n) : ((b.toNat : Int) == (n : Int)) = true := by
  rw [h, beq_iff_eq, UInt8.toNat_ofNat']
  omega
/-- Is it a name? By its bytes, from number j on. -/
def letterB (c : UInt8) : Bool := decide (97 ≤ c.toNat) && decide (c.toNat ≤ 122)
def laterB (c : UInt8) : Bool := letterB c || c == 45 || (decide (48 ≤ c.toNat) && decide (c.toNat ≤ 57))
def okAt (l : List UInt8) (j : Nat) : Bool := match l[j]? with
  | none => true
  | some c => letterB c || (decide (j ≠ 0) && laterB c)
def nameL (l : List UInt8) : Bool := (List.range l.length).all (okAt l) && decide (1 ≤ l.length) && decide (l.length ≤ 16)
theorem name_no {l : List UInt8} {j : Nat} (h : j < l.length) (hb : okAt l j = false) : nameL l = false := by
  unfold nameL
  have : (List.range l.length).all (okAt l) = false := by
    rw [List.all_eq_false]
    exact ⟨j, List.mem_range.2 h, by simpa using hb⟩
  rw [this]
  rfl
theorem name_end {l : List UInt8} (h : ∀ j, j < l.length → okAt l j = true) : nameL l = (decide (1 ≤ l.length) && decide (l.length ≤ 16)) := by
  unfold nameL
  have : (List.range l.length).all (okAt l) = true := by
    rw [List.all_eq_true]
    intro j hj
    exact h j (List.mem_range.1 hj)
  rw [this, Bool.true_and]
theorem ok_at (s : ByteArray) (j : Nat) (h : j < s.size) : okAt s.data.toList j = (letterB s[j] || (decide (j ≠ 0) && laterB s[j])) := by
  unfold okAt
  rw [List.getElem?_eq_getElem (by simpa using h)]
  rfl

def numeralB (c : UInt8) : Bool := decide (48 ≤ c.toNat) && decide (c.toNat ≤ 57)
theorem later_or (c : UInt8) : laterB c = (letterB c || c == 45 || numeralB c) := rfl

theorem letter_any (c : UInt8) (w : World) : Calls Tryd.prog 78 #[.int .u8 (c.toNat : Int)] w fun r w' => r = .returned (.bool (letterB c)) ∧ w = w' := by
  by_cases h1 : 97 ≤ c.toNat
  · have b1 : decide ((97 : Int) ≤ (c.toNat : Int)) = true := by rw [decide_eq_true_iff]; omega
    by_cases h2 : c.toNat ≤ 122
    · have b2 : decide ((c.toNat : Int) ≤ 122) = true := by rw [decide_eq_true_iff]; omega
      have HL := Lib.hid (show letterB c = true by simp [letterB, h1, h2])
      go_enter Tryd.func78, Tryd.ntmps78
      go_wp2
      go_ret
      exact ⟨by rw [HL.out]; rfl, rfl⟩
    · have b2 : decide ((c.toNat : Int) ≤ 122) = false := by rw [decide_eq_false_iff_not]; omega
      have HL := Lib.hid (show letterB c = false by simp [letterB, h2])
      go_enter Tryd.func78, Tryd.ntmps78
      go_wp2
      go_ret
      exact ⟨by rw [HL.out]; rfl, rfl⟩
  · have b1 : decide ((97 : Int) ≤ (c.toNat : Int)) = false := by rw [decide_eq_false_iff_not]; omega
    have HL := Lib.hid (show letterB c = false by simp [letterB, h1])
    go_enter Tryd.func78, Tryd.ntmps78
    go_wp2
    go_ret
    exact ⟨by rw [HL.out]; rfl, rfl⟩
theorem numeral_any (c : UInt8) (w : World) : Calls Tryd.prog 79 #[.int .u8 (c.toNat : Int)] w fun r w' => r = .returned (.bool (numeralB c)) ∧ w = w' := by
  by_cases h1 : 48 ≤ c.toNat
  · have b1 : decide ((48 : Int) ≤ (c.toNat : Int)) = true := by rw [decide_eq_true_iff]; omega
    by_cases h2 : c.toNat ≤ 57
    · have b2 : decide ((c.toNat : Int) ≤ 57) = true := by rw [decide_eq_true_iff]; omega
      have HL := Lib.hid (show numeralB c = true by simp [numeralB, h1, h2])
      go_enter Tryd.func79, Tryd.ntmps79
      go_wp2
      go_ret
      exact ⟨by rw [HL.out]; rfl, rfl⟩
    · have b2 : decide ((c.toNat : Int) ≤ 57) = false := by rw [decide_eq_false_iff_not]; omega
      have HL := Lib.hid (show numeralB c = false by simp [numeralB, h2])
      go_enter Tryd.func79, Tryd.ntmps79
      go_wp2
      go_ret
      exact ⟨by rw [HL.out]; rfl, rfl⟩
  · have b1 : decide ((48 : Int) ≤ (c.toNat : Int)) = false := by rw [decide_eq_false_iff_not]; omega
    have HL := Lib.hid (show numeralB c = false by simp [numeralB, h1])
    go_enter Tryd.func79, Tryd.ntmps79
    go_wp2
    go_ret
    exact ⟨by rw [HL.out]; rfl, rfl⟩

/-- By its first byte and the later ones. -/
theorem name_by {s : ByteArray} (h0 : 0 < s.size) (h1 : s.size ≤ 16) (hl : letterB s[0] = true) (h : ∀ j (hj : j < s.size), laterB s[j] = true) : nameL s.data.toList = true := by
  have hsz : s.data.toList.length = s.size := rfl
  rw [name_end, hsz]
  · simp [h1]
    omega
  · intro j hj
    rw [ok_at s j hj]
    by_cases e : j = 0
    · subst e
      simp [hl]
    · simp [e, h j hj]
theorem name_short {s : ByteArray} (h : s.size < 1) : nameL s.data.toList = false := by
  have hsz : s.data.toList.length = s.size := rfl
  have e : s.size = 0 := by omega
  simp [nameL, hsz, e]
theorem name_long {s : ByteArray} (h : 16 < s.size) : nameL s.data.toList = false := by
  have hsz : s.data.toList.length = s.size := rfl
  have e : ¬ s.size ≤ 16 := by omega
  simp [nameL, hsz, e]
theorem name_first {s : ByteArray} (h0 : 0 < s.size) (hl : letterB s[0] = false) : nameL s.data.toList = false :=
  name_no (j := 0) h0 (by rw [ok_at s 0 h0, hl]; rfl)
theorem name_later {s : ByteArray} {j : Nat} (hj : j < s.size) (hl : laterB s[j] = false) : nameL s.data.toList = false := by
  have h1 : letterB s[j] = false := by
    rw [later_or, Bool.or_eq_false_iff, Bool.or_eq_false_iff] at hl
    exact hl.1.1
  exact name_no (j := j) hj (by rw [ok_at s j hj, h1, hl]; simp)

set_option maxRecDepth 100000 in
set_option maxHeartbeats 2000000 in
theorem name_s (s : ByteArray) (w : World) (hs : s.size ≤ 5000) :
    Calls Tryd.prog 60 #[.string s] w fun r w' => r = .returned (.bool (nameL s.data.toList)) ∧ w = w' := by
  by_cases h1 : s.size < 1
  · have b1 : decide ((s.size : Int) < 1) = true := by rw [decide_eq_true_iff]; omega
    have HN := Lib.hid (name_short h1)
    clear h1
    go_enter Tryd.func60, Tryd.ntmps60
    go_wp2
    go_ret
    exact ⟨by rw [HN.out]; rfl, rfl⟩
  · have b1 : decide ((s.size : Int) < 1) = false := by rw [decide_eq_false_iff_not]; omega
    have h0 : 0 < s.size := by omega
    by_cases h2 : 16 < s.size
    · have b2 : decide ((16 : Int) < (s.size : Int)) = true := by rw [decide_eq_true_iff]; omega
      have HN := Lib.hid (name_long h2)
      clear h1 h2
      go_enter Tryd.func60, Tryd.ntmps60
      go_wp2
      go_ret
      exact ⟨by rw [HN.out]; rfl, rfl⟩
    · have b2 : decide ((16 : Int) < (s.size : Int)) = false := by rw [decide_eq_false_iff_not]; omega
      have h16 : s.size ≤ 16 := by omega
      have H0 := Lib.hid (letter_any s[0])
      cases hl : letterB s[0] with
      | false =>
        have HL := Lib.hid hl
        have HN := Lib.hid (name_first h0 hl)
        clear h1 h2 hl
        go_enter Tryd.func60, Tryd.ntmps60
        go_wp2_with fail
        refine (H0.out _).mono ?_
        rw [HL.out]
        rintro r w2 ⟨rfl, rfl⟩
        go_wp2
        go_ret
        exact ⟨by rw [HN.out]; rfl, rfl⟩
      | true =>
        have HL := Lib.hid hl
        clear h1 h2 hl
        go_enter Tryd.func60, Tryd.ntmps60
        go_wp2_with fail
        refine (H0.out _).mono ?_
        rw [HL.out]
        rintro r w2 ⟨rfl, rfl⟩
        go_wp2_with fail
        go_loopg [20] s.size (fun q i wr => ∃ j : Nat, j + q = s.size ∧ i = .int .i64 j ∧ (∀ i (hi : i < s.size), i < j → laterB s[i] = true) ∧ w = wr)
        case atStart => exact ⟨0, by omega, rfl, fun i _ h => absurd h (by omega), rfl⟩
        case round =>
          obtain ⟨j, hk, rfl, hall, rfl⟩ := hrel
          have HK := Lib.hid hk
          have HA := Lib.hid hall
          clear hk hall
          by_cases hj : j < s.size
          · have hlt : decide ((j : Int) < (s.size : Int)) = true := by simpa using hj
            have go_on : laterB s[j] = true → ∀ i (hi : i < s.size), i < j + 1 → laterB s[i] = true := by
              intro h i hi hij
              by_cases e : i = j
              · subst e; exact h
              · exact HA.out i hi (by omega)
            have GO := Lib.hid go_on
            have HNo := Lib.hid (fun h => name_later hj h)
            clear go_on
            cases hc : letterB s[j] with
            | true =>
              have HC := Lib.hid hc
              have HO := Lib.hid (GO.out (by rw [later_or, hc]; rfl))
              clear hc
              go_wp2_with fail
              refine (letter_any s[j] _).mono ?_
              rw [HC.out]
              rintro r w2 ⟨rfl, rfl⟩
              go_wp2_with fail
              go_roundg (gk - 1)
              case measure => have := HK.out; omega
              case rel => exact ⟨j + 1, by have := HK.out; omega, by go_num, HO.out, rfl⟩
            | false =>
              have HC := Lib.hid hc
              cases hd : numeralB s[j] with
              | true =>
                have HD := Lib.hid hd
                have HO := Lib.hid (GO.out (by rw [later_or, hd]; simp))
                clear hc hd
                go_wp2_with fail
                refine (letter_any s[j] _).mono ?_
                rw [HC.out]
                rintro r w2 ⟨rfl, rfl⟩
                go_wp2_with fail
                refine (numeral_any s[j] _).mono ?_
                rw [HD.out]
                rintro r w2 ⟨rfl, rfl⟩
                go_wp2_with fail
                go_roundg (gk - 1)
                case measure => have := HK.out; omega
                case rel => exact ⟨j + 1, by have := HK.out; omega, by go_num, HO.out, rfl⟩
              | false =>
                have HD := Lib.hid hd
                by_cases he : s[j] = 45
                · have e1 : ((s[j].toNat : Int) != 45) = false := by
                    have := u8_eq (n := 45) (by omega) he
                    simpa [bne] using this
                  have HO := Lib.hid (GO.out (by rw [later_or, he]; rfl))
                  clear hc hd he
                  go_wp2_with fail
                  refine (letter_any s[j] _).mono ?_
                  rw [HC.out]
                  rintro r w2 ⟨rfl, rfl⟩
                  go_wp2_with fail
                  refine (numeral_any s[j] _).mono ?_
                  rw [HD.out]
                  rintro r w2 ⟨rfl, rfl⟩
                  go_wp2_with fail
                  go_roundg (gk - 1)
                  case measure => have := HK.out; omega
                  case rel => exact ⟨j + 1, by have := HK.out; omega, by go_num, HO.out, rfl⟩
                · have e1 : ((s[j].toNat : Int) != 45) = true := by
                    have := u8_ne (n := 45) (by omega) he
                    simpa [bne] using this
                  have HN := Lib.hid (HNo.out (by rw [later_or, hc, hd]; simp [he]))
                  clear hc hd he
                  go_wp2_with fail
                  refine (letter_any s[j] _).mono ?_
                  rw [HC.out]
                  rintro r w2 ⟨rfl, rfl⟩
                  go_wp2_with fail
                  refine (numeral_any s[j] _).mono ?_
                  rw [HD.out]
                  rintro r w2 ⟨rfl, rfl⟩
                  go_wp2_with fail
                  go_ret
                  exact ⟨by rw [HN.out]; rfl, rfl⟩
          · have hlt : decide ((j : Int) < (s.size : Int)) = false := by simpa using hj
            have hn := name_by h0 h16 HL.out (fun i hi => HA.out i hi (by omega))
            have HN := Lib.hid hn
            clear hn
            go_wp2
            go_ret
            exact ⟨by rw [HN.out]; rfl, rfl⟩

/-- Which texts are names. -/
def nameOk (s : ByteArray) : Bool := nameL s.data.toList
theorem name_any (s : ByteArray) (w : World) (hs : s.size ≤ 5000) : Calls Tryd.prog 60 #[.string s] w fun r w' => r = .returned (.bool (nameOk s)) ∧ w = w' := name_s s w hs
end Go.Proofs.YtepniiaojhiogaaDoor.nm
