import Derived.Test.YtidomoibhjgkjaaGreatDoorZC40
import Derived.StillTailTactics
import Derived.RegionTactic
/-
  The document's own answers on keys: Parse of nothing, After, Name, Number, Digits of conductorref03.
-/
namespace Go.Proofs.YtidomoibhjgkjaaGreatDoor
open Go.RowKit

theorem snoc_at (q : List UInt8) (c : UInt8) (h : q.length < (⟨(q ++ [c]).toArray⟩ : ByteArray).size) : (⟨(q ++ [c]).toArray⟩ : ByteArray)[q.length]'h = c := by
  show (q ++ [c]).toArray[q.length]'h = c
  simp

/-- Is it a name? By its bytes, from number j on. -/
def letterB (c : UInt8) : Bool := decide (97 ≤ c.toNat) && decide (c.toNat ≤ 122)
def laterB (c : UInt8) : Bool := letterB c || c == 45 || (decide (48 ≤ c.toNat) && decide (c.toNat ≤ 57))
def okAt (l : List UInt8) (j : Nat) : Bool := match l[j]? with
  | none => true
  | some c => letterB c || (decide (j ≠ 0) && laterB c)
def nameL (l : List UInt8) : Bool := (List.range l.length).all (okAt l) && decide (1 ≤ l.length) && decide (l.length ≤ 16)
theorem name_no {l : List UInt8} {j : Nat} (h : j < l.length) (hb : okAt l j = false) : nameL l = false := by
  unfold nameL
  have : (List.range l.length).all (okAt l) = false := by
    rw [List.all_eq_false]
    exact ⟨j, List.mem_range.2 h, by simpa using hb⟩
  rw [this]
  rfl
theorem name_end {l : List UInt8} (h : ∀ j, j < l.length → okAt l j = true) : nameL l = (decide (1 ≤ l.length) && decide (l.length ≤ 16)) := by
  unfold nameL
  have : (List.range l.length).all (okAt l) = true := by
    rw [List.all_eq_true]
    intro j hj
    exact h j (List.mem_range.1 hj)
  rw [this, Bool.true_and]
theorem ok_at (s : ByteArray) (j : Nat) (h : j < s.size) : okAt s.data.toList j = (letterB s[j] || (decide (j ≠ 0) && laterB s[j])) := by
  unfold okAt
  rw [List.getElem?_eq_getElem (by simpa using h)]
  rfl

set_option maxRecDepth 100000 in
set_option maxHeartbeats 2000000 in
theorem refName_any (s : ByteArray) (w : World) (hs : s.size ≤ 5000) :
    Calls Tryz.prog 77 #[.string s] w fun r w' => r = .returned (.bool (nameL s.data.toList)) ∧ w = w' := by
  go_enter Tryz.func77, Tryz.ntmps77
  go_wp2
  go_loopg [7] s.size (fun q i wr => ∃ j : Nat, j + q = s.size ∧ i = .int .i64 j ∧ (∀ i, i < j → okAt s.data.toList i = true) ∧ w = wr)
  case atStart => exact ⟨0, by omega, rfl, fun i h => absurd h (by omega), rfl⟩
  case round =>
    obtain ⟨j, hk, rfl, hall, rfl⟩ := hrel
    have HK := Lib.hid hk
    have HA := Lib.hid hall
    clear hk hall
    by_cases hj : j < s.size
    · have hlt : decide ((j : Int) < (s.size : Int)) = true := by simpa using hj
      have HO := Lib.hid (ok_at s j hj)
      have go_on : okAt s.data.toList j = true → ∀ i, i < j + 1 → okAt s.data.toList i = true := by
        intro h i hi
        by_cases e : i = j
        · subst e; exact h
        · exact HA.out i (by omega)
      have GO := Lib.hid go_on
      clear go_on
      by_cases a1 : 97 ≤ s[j].toNat
      · by_cases a2 : s[j].toNat ≤ 122
        · have b1 : decide ((97 : Int) ≤ (s[j].toNat : Int)) = true := by rw [decide_eq_true_iff]; omega
          have b2 : decide ((s[j].toNat : Int) ≤ 122) = true := by rw [decide_eq_true_iff]; omega
          have hok : okAt s.data.toList j = true := by rw [HO.out]; simp [letterB, a1, a2]
          have HOK := Lib.hid hok
          clear hok
          go_wp2
          go_roundg (gk - 1)
          case measure => have := HK.out; omega
          case rel => exact ⟨j + 1, by have := HK.out; omega, by go_num, GO.out HOK.out, rfl⟩
        · have b1 : decide ((97 : Int) ≤ (s[j].toNat : Int)) = true := by rw [decide_eq_true_iff]; omega
          have b2 : decide ((s[j].toNat : Int) ≤ 122) = false := by rw [decide_eq_false_iff_not]; omega
          have hl : letterB s[j] = false := by simp [letterB, a2]
          by_cases hz : j = 0
          · have z1 : ((j : Int) == 0) = true := by rw [beq_iff_eq]; omega
            have hok : okAt s.data.toList j = false := by rw [HO.out, hl, show decide (j ≠ 0) = false from by simp [hz]]; rfl
            clear hz
            have HN := Lib.hid (name_no (l := s.data.toList) hj hok)
            clear hok
            go_wp2
            go_ret
            exact ⟨by rw [HN.out]; rfl, rfl⟩
          · have z1 : ((j : Int) == 0) = false := by rw [beq_eq_false_iff_ne]; omega
            by_cases e45 : s[j] = 45
            · have e1 : ((s[j].toNat : Int) != 45) = false := by
                have := u8_eq (n := 45) (by omega) e45
                simpa [bne] using this
              have hok : okAt s.data.toList j = true := by rw [HO.out]; simp [hz, laterB, e45]
              have HOK := Lib.hid hok
              clear hok
              go_wp2
              go_roundg (gk - 1)
              case measure => have := HK.out; omega
              case rel => exact ⟨j + 1, by have := HK.out; omega, by go_num, GO.out HOK.out, rfl⟩
            · have e1 : ((s[j].toNat : Int) != 45) = true := by
                have := u8_ne (n := 45) (by omega) e45
                simpa [bne] using this
              by_cases c1 : s[j].toNat < 48
              · have f1 : decide ((s[j].toNat : Int) < 48) = true := by rw [decide_eq_true_iff]; omega
                have hok : okAt s.data.toList j = false := by rw [HO.out]; simp [hl, laterB, e45, show ¬ 48 ≤ s[j].toNat from by omega]
                have HN := Lib.hid (name_no (l := s.data.toList) hj hok)
                clear hok
                go_wp2
                go_ret
                exact ⟨by rw [HN.out]; rfl, rfl⟩
              · have f1 : decide ((s[j].toNat : Int) < 48) = false := by rw [decide_eq_false_iff_not]; omega
                by_cases c2 : 57 < s[j].toNat
                · have f2 : decide ((57 : Int) < (s[j].toNat : Int)) = true := by rw [decide_eq_true_iff]; omega
                  have c3 : ¬ s[j].toNat ≤ 57 := by omega
                  have hok : okAt s.data.toList j = false := by rw [HO.out]; simp [hl, laterB, e45, c3]
                  have HN := Lib.hid (name_no (l := s.data.toList) hj hok)
                  clear hok
                  go_wp2
                  go_ret
                  exact ⟨by rw [HN.out]; rfl, rfl⟩
                · have f2 : decide ((57 : Int) < (s[j].toNat : Int)) = false := by rw [decide_eq_false_iff_not]; omega
                  have c3 : s[j].toNat ≤ 57 := by omega
                  have c4 : 48 ≤ s[j].toNat := by omega
                  have hok : okAt s.data.toList j = true := by rw [HO.out]; simp [hl, hz, laterB, c3, c4]
                  have HOK := Lib.hid hok
                  clear hok
                  go_wp2
                  go_roundg (gk - 1)
                  case measure => have := HK.out; omega
                  case rel => exact ⟨j + 1, by have := HK.out; omega, by go_num, GO.out HOK.out, rfl⟩
      · have b1 : decide ((97 : Int) ≤ (s[j].toNat : Int)) = false := by rw [decide_eq_false_iff_not]; omega
        have hl : letterB s[j] = false := by simp [letterB, a1]
        by_cases hz : j = 0
        · have z1 : ((j : Int) == 0) = true := by rw [beq_iff_eq]; omega
          have hok : okAt s.data.toList j = false := by rw [HO.out, hl, show decide (j ≠ 0) = false from by simp [hz]]; rfl
          clear hz
          have HN := Lib.hid (name_no (l := s.data.toList) hj hok)
          clear hok
          go_wp2
          go_ret
          exact ⟨by rw [HN.out]; rfl, rfl⟩
        · have z1 : ((j : Int) == 0) = false := by rw [beq_eq_false_iff_ne]; omega
          by_cases e45 : s[j] = 45
          · have e1 : ((s[j].toNat : Int) != 45) = false := by
              have := u8_eq (n := 45) (by omega) e45
              simpa [bne] using this
            have hok : okAt s.data.toList j = true := by rw [HO.out]; simp [hz, laterB, e45]
            have HOK := Lib.hid hok
            clear hok
            go_wp2
            go_roundg (gk - 1)
            case measure => have := HK.out; omega
            case rel => exact ⟨j + 1, by have := HK.out; omega, by go_num, GO.out HOK.out, rfl⟩
          · have e1 : ((s[j].toNat : Int) != 45) = true := by
              have := u8_ne (n := 45) (by omega) e45
              simpa [bne] using this
            by_cases c1 : s[j].toNat < 48
            · have f1 : decide ((s[j].toNat : Int) < 48) = true := by rw [decide_eq_true_iff]; omega
              have hok : okAt s.data.toList j = false := by rw [HO.out]; simp [hl, laterB, e45, show ¬ 48 ≤ s[j].toNat from by omega]
              have HN := Lib.hid (name_no (l := s.data.toList) hj hok)
              clear hok
              go_wp2
              go_ret
              exact ⟨by rw [HN.out]; rfl, rfl⟩
            · have f1 : decide ((s[j].toNat : Int) < 48) = false := by rw [decide_eq_false_iff_not]; omega
              by_cases c2 : 57 < s[j].toNat
              · have f2 : decide ((57 : Int) < (s[j].toNat : Int)) = true := by rw [decide_eq_true_iff]; omega
                have c3 : ¬ s[j].toNat ≤ 57 := by omega
                have hok : okAt s.data.toList j = false := by rw [HO.out]; simp [hl, laterB, e45, c3]
                have HN := Lib.hid (name_no (l := s.data.toList) hj hok)
                clear hok
                go_wp2
                go_ret
                exact ⟨by rw [HN.out]; rfl, rfl⟩
              · have f2 : decide ((57 : Int) < (s[j].toNat : Int)) = false := by rw [decide_eq_false_iff_not]; omega
                have c3 : s[j].toNat ≤ 57 := by omega
                have c4 : 48 ≤ s[j].toNat := by omega
                have hok : okAt s.data.toList j = true := by rw [HO.out]; simp [hl, hz, laterB, c3, c4]
                have HOK := Lib.hid hok
                clear hok
                go_wp2
                go_roundg (gk - 1)
                case measure => have := HK.out; omega
                case rel => exact ⟨j + 1, by have := HK.out; omega, by go_num, GO.out HOK.out, rfl⟩
    · have hj' : j = s.size := by have := HK.out; omega
      have hlt : decide ((j : Int) < (s.size : Int)) = false := by simpa using hj
      have HE := Lib.hid (name_end (fun i hi => HA.out i (by rw [hj']; exact hi)))
      subst hj'
      clear HA
      have hsz : s.data.toList.length = s.size := rfl
      by_cases h1 : 1 ≤ s.size
      · have d1 : decide ((1 : Int) ≤ (s.size : Int)) = true := by rw [decide_eq_true_iff]; omega
        by_cases h2 : s.size ≤ 16
        · have d2 : decide ((s.size : Int) ≤ 16) = true := by rw [decide_eq_true_iff]; omega
          have hn : nameL s.data.toList = true := by rw [HE.out, hsz]; simp [h1, h2]
          have HN := Lib.hid hn
          clear hn
          go_wp2
          go_ret
          exact ⟨by rw [HN.out]; rfl, rfl⟩
        · have d2 : decide ((s.size : Int) ≤ 16) = false := by rw [decide_eq_false_iff_not]; omega
          have hn : nameL s.data.toList = false := by rw [HE.out, hsz]; simp [h2]
          have HN := Lib.hid hn
          clear hn
          go_wp2
          go_ret
          exact ⟨by rw [HN.out]; rfl, rfl⟩
      · have d1 : decide ((1 : Int) ≤ (s.size : Int)) = false := by rw [decide_eq_false_iff_not]; omega
        have hn : nameL s.data.toList = false := by rw [HE.out, hsz]; simp [h1]
        have HN := Lib.hid hn
        clear hn
        go_wp2
        go_ret
        exact ⟨by rw [HN.out]; rfl, rfl⟩
end Go.Proofs.YtidomoibhjgkjaaGreatDoor

/-
  The document's own answers on keys: Number and Digits of conductorref03.
-/
namespace Go.Proofs.YtidomoibhjgkjaaGreatDoor
open Go.RowKit

theorem hex_front (j : Nat) : ∀ n : Nat, hexN (j + 1) n = digB ((n / 16 ^ j) % 16) :: hexN j n := by
  induction j with
  | zero => intro n; simp [hexN]
  | succ j ih =>
    intro n
    rw [hexN, ih (n / 16), hexN]
    rw [Nat.div_div_eq_div_mul, Nat.pow_succ, Nat.mul_comm 16]
    rfl

theorem cut_0 (w : World) : (Instr.slice 9 (.string ⟨#[48, 49, 50, 51, 52, 53, 54, 55, 56, 57, 97, 98, 99, 100, 101, 102]⟩) (some (.int .u64 0)) (some (.int .u64 1)) none).run Tryz.prog w = .ok (.string ⟨#[48]⟩) w := by kernel_rfl
theorem cut_1 (w : World) : (Instr.slice 9 (.string ⟨#[48, 49, 50, 51, 52, 53, 54, 55, 56, 57, 97, 98, 99, 100, 101, 102]⟩) (some (.int .u64 1)) (some (.int .u64 2)) none).run Tryz.prog w = .ok (.string ⟨#[49]⟩) w := by kernel_rfl
theorem cut_2 (w : World) : (Instr.slice 9 (.string ⟨#[48, 49, 50, 51, 52, 53, 54, 55, 56, 57, 97, 98, 99, 100, 101, 102]⟩) (some (.int .u64 2)) (some (.int .u64 3)) none).run Tryz.prog w = .ok (.string ⟨#[50]⟩) w := by kernel_rfl
theorem cut_3 (w : World) : (Instr.slice 9 (.string ⟨#[48, 49, 50, 51, 52, 53, 54, 55, 56, 57, 97, 98, 99, 100, 101, 102]⟩) (some (.int .u64 3)) (some (.int .u64 4)) none).run Tryz.prog w = .ok (.string ⟨#[51]⟩) w := by kernel_rfl
theorem cut_4 (w : World) : (Instr.slice 9 (.string ⟨#[48, 49, 50, 51, 52, 53, 54, 55, 56, 57, 97, 98, 99, 100, 101, 102]⟩) (some (.int .u64 4)) (some (.int .u64 5)) none).run Tryz.prog w = .ok (.string ⟨#[52]⟩) w := by kernel_rfl
theorem cut_5 (w : World) : (Instr.slice 9 (.string ⟨#[48, 49, 50, 51, 52, 53, 54, 55, 56, 57, 97, 98, 99, 100, 101, 102]⟩) (some (.int .u64 5)) (some (.int .u64 6)) none).run Tryz.prog w = .ok (.string ⟨#[53]⟩) w := by kernel_rfl
theorem cut_6 (w : World) : (Instr.slice 9 (.string ⟨#[48, 49, 50, 51, 52, 53, 54, 55, 56, 57, 97, 98, 99, 100, 101, 102]⟩) (some (.int .u64 6)) (some (.int .u64 7)) none).run Tryz.prog w = .ok (.string ⟨#[54]⟩) w := by kernel_rfl
theorem cut_7 (w : World) : (Instr.slice 9 (.string ⟨#[48, 49, 50, 51, 52, 53, 54, 55, 56, 57, 97, 98, 99, 100, 101, 102]⟩) (some (.int .u64 7)) (some (.int .u64 8)) none).run Tryz.prog w = .ok (.string ⟨#[55]⟩) w := by kernel_rfl
theorem cut_8 (w : World) : (Instr.slice 9 (.string ⟨#[48, 49, 50, 51, 52, 53, 54, 55, 56, 57, 97, 98, 99, 100, 101, 102]⟩) (some (.int .u64 8)) (some (.int .u64 9)) none).run Tryz.prog w = .ok (.string ⟨#[56]⟩) w := by kernel_rfl
theorem cut_9 (w : World) : (Instr.slice 9 (.string ⟨#[48, 49, 50, 51, 52, 53, 54, 55, 56, 57, 97, 98, 99, 100, 101, 102]⟩) (some (.int .u64 9)) (some (.int .u64 10)) none).run Tryz.prog w = .ok (.string ⟨#[57]⟩) w := by kernel_rfl
theorem cut_10 (w : World) : (Instr.slice 9 (.string ⟨#[48, 49, 50, 51, 52, 53, 54, 55, 56, 57, 97, 98, 99, 100, 101, 102]⟩) (some (.int .u64 10)) (some (.int .u64 11)) none).run Tryz.prog w = .ok (.string ⟨#[97]⟩) w := by kernel_rfl
theorem cut_11 (w : World) : (Instr.slice 9 (.string ⟨#[48, 49, 50, 51, 52, 53, 54, 55, 56, 57, 97, 98, 99, 100, 101, 102]⟩) (some (.int .u64 11)) (some (.int .u64 12)) none).run Tryz.prog w = .ok (.string ⟨#[98]⟩) w := by kernel_rfl
theorem cut_12 (w : World) : (Instr.slice 9 (.string ⟨#[48, 49, 50, 51, 52, 53, 54, 55, 56, 57, 97, 98, 99, 100, 101, 102]⟩) (some (.int .u64 12)) (some (.int .u64 13)) none).run Tryz.prog w = .ok (.string ⟨#[99]⟩) w := by kernel_rfl
theorem cut_13 (w : World) : (Instr.slice 9 (.string ⟨#[48, 49, 50, 51, 52, 53, 54, 55, 56, 57, 97, 98, 99, 100, 101, 102]⟩) (some (.int .u64 13)) (some (.int .u64 14)) none).run Tryz.prog w = .ok (.string ⟨#[100]⟩) w := by kernel_rfl
theorem cut_14 (w : World) : (Instr.slice 9 (.string ⟨#[48, 49, 50, 51, 52, 53, 54, 55, 56, 57, 97, 98, 99, 100, 101, 102]⟩) (some (.int .u64 14)) (some (.int .u64 15)) none).run Tryz.prog w = .ok (.string ⟨#[101]⟩) w := by kernel_rfl
theorem cut_15 (w : World) : (Instr.slice 9 (.string ⟨#[48, 49, 50, 51, 52, 53, 54, 55, 56, 57, 97, 98, 99, 100, 101, 102]⟩) (some (.int .u64 15)) (some (.int .u64 16)) none).run Tryz.prog w = .ok (.string ⟨#[102]⟩) w := by kernel_rfl
theorem cut_at (d : Nat) (h : d < 16) (w : World) : (Instr.slice 9 (.string ⟨#[48, 49, 50, 51, 52, 53, 54, 55, 56, 57, 97, 98, 99, 100, 101, 102]⟩) (some (.int .u64 (d : Int))) (some (.int .u64 ((d : Int) + 1))) none).run Tryz.prog w = .ok (.string ⟨[digB d].toArray⟩) w := by
  have hd : d = 0 ∨ d = 1 ∨ d = 2 ∨ d = 3 ∨ d = 4 ∨ d = 5 ∨ d = 6 ∨ d = 7 ∨ d = 8 ∨ d = 9 ∨ d = 10 ∨ d = 11 ∨ d = 12 ∨ d = 13 ∨ d = 14 ∨ d = 15 := by omega
  rcases hd with rfl | rfl | rfl | rfl | rfl | rfl | rfl | rfl | rfl | rfl | rfl | rfl | rfl | rfl | rfl | rfl
  · exact cut_0 w
  · exact cut_1 w
  · exact cut_2 w
  · exact cut_3 w
  · exact cut_4 w
  · exact cut_5 w
  · exact cut_6 w
  · exact cut_7 w
  · exact cut_8 w
  · exact cut_9 w
  · exact cut_10 w
  · exact cut_11 w
  · exact cut_12 w
  · exact cut_13 w
  · exact cut_14 w
  · exact cut_15 w
theorem cut_mod (m : Nat) (w : World) : (Instr.slice 9 (.string ⟨#[48, 49, 50, 51, 52, 53, 54, 55, 56, 57, 97, 98, 99, 100, 101, 102]⟩) (some (.int .u64 ((m : Int) % 16))) (some (.int .u64 ((m : Int) % 16 + 1))) none).run Tryz.prog w = .ok (.string ⟨[digB (m % 16)].toArray⟩) w := by
  rw [show ((m : Int) % 16) = ((m % 16 : Nat) : Int) from by omega]
  exact cut_at _ (by omega) w

set_option maxRecDepth 100000 in
set_option maxHeartbeats 2000000 in
theorem refNumber_any (n : Nat) (w : World) (hn : (n : Int) ≤ 18446744073709551615) :
    Calls Tryz.prog 139 #[.int .u64 n] w fun r w' => r = .returned (.string ⟨(hexN 16 n).toArray⟩) ∧ w = w' := by
  go_enter Tryz.func139, Tryz.ntmps139
  go_wp2
  go_loopg [0, 3, 5] 16 (fun q m s i wr => ∃ j : Nat, j + q = 16 ∧ i = .int .i64 j ∧ m = .int .u64 ((n / 16 ^ j : Nat) : Int) ∧ s = .string ⟨(hexN j n).toArray⟩ ∧ w = wr)
  case atStart => exact ⟨0, by omega, rfl, by simp, rfl, rfl⟩
  case round =>
    obtain ⟨j, hk, rfl, rfl, rfl, rfl⟩ := hrel
    have HK := Lib.hid hk
    have hlen := hex_len j n
    have HF := Lib.hid (hex_front j n)
    have hdv : n / 16 ^ (j + 1) = n / 16 ^ j / 16 := by rw [Nat.div_div_eq_div_mul, Nat.pow_succ]
    have HD := Lib.hid hdv
    have hle : n / 16 ^ j ≤ n := Nat.div_le_self _ _
    clear hdv
    generalize n / 16 ^ j = m at *
    by_cases hj : j < 16
    · have hlt : decide ((j : Int) < 16) = true := by rw [decide_eq_true_iff]; omega
      have hcut := cut_mod m w
      have hl2 : (hexN j n).length ≤ 16 := by omega
      clear hk hlen
      go_wp2
      go_roundg (gk - 1)
      case measure => have := HK.out; omega
      case rel =>
        refine ⟨j + 1, by have := HK.out; omega, by go_num, ?_, ?_, rfl⟩
        · rw [HD.out]; go_num
        · rw [HF.out]
          exact congrArg Value.string (ba_cat [digB (m % 16)] (hexN j n))
    · have hlt : decide ((j : Int) < 16) = false := by rw [decide_eq_false_iff_not]; omega
      have hj' : j = 16 := by have := HK.out; omega
      subst hj'
      clear hk hlen
      go_wp2
      go_ret
      exact ⟨rfl, rfl⟩

/-- The number of a digit; 16: it is none. -/
def digOf (c : UInt8) : Nat := if 48 ≤ c.toNat ∧ c.toNat ≤ 57 then c.toNat - 48 else if 97 ≤ c.toNat ∧ c.toNat ≤ 102 then c.toNat - 87 else 16
theorem digOf_le (c : UInt8) : digOf c ≤ 16 := by
  unfold digOf
  split
  · omega
  · split <;> omega
theorem digB_nat (k : Nat) (h : k < 16) : (digB k).toNat = if k < 10 then 48 + k else 87 + k := by
  unfold digB
  split
  · rw [UInt8.toNat_ofNat']; omega
  · rw [UInt8.toNat_ofNat']; omega
theorem dig_iff (c : UInt8) (k : Nat) (h : k < 16) : (digB k).toNat = c.toNat ↔ digOf c = k := by
  rw [digB_nat k h]
  unfold digOf
  split <;> split <;> (try split) <;> omega
/-- What is known of a digit behind k looks. -/
def dAt (c : UInt8) (k : Nat) : Nat := if digOf c < k then digOf c else 16
theorem dAt_hit {c : UInt8} {k : Nat} (h : digOf c = k) : dAt c (k + 1) = k := by
  unfold dAt
  rw [if_pos (by omega), h]
theorem dAt_miss {c : UInt8} {k : Nat} (h : digOf c ≠ k) : dAt c (k + 1) = dAt c k := by
  unfold dAt
  by_cases h1 : digOf c < k
  · rw [if_pos h1, if_pos (by omega)]
  · rw [if_neg h1, if_neg (by omega)]
theorem dAt_end (c : UInt8) : dAt c 16 = digOf c := by
  have := digOf_le c
  unfold dAt
  split <;> omega

def hexValK (l : List UInt8) : Nat := l.foldl (fun a c => 16 * a + digOf c) 0
theorem hexValK_snoc (l : List UInt8) (c : UInt8) : hexValK (l ++ [c]) = 16 * hexValK l + digOf c := by simp [hexValK]
/-- The number of sixteen digits, and the error. -/
def digitsL (l : List UInt8) : Nat × Int := if l.length = 16 ∧ (l.all fun c => decide (digOf c < 16)) = true then (hexValK l, 0) else (0, 31)
theorem hexValK_lt : ∀ (l : List UInt8), (∀ c ∈ l, digOf c < 16) → hexValK l < 16 ^ l.length := by
  have : ∀ (l : List UInt8), (∀ c ∈ l, digOf c < 16) → ∀ a, l.foldl (fun a c => 16 * a + digOf c) a < (a + 1) * 16 ^ l.length := by
    intro l
    induction l with
    | nil => intro _ a; simp
    | cons c l ih =>
      intro h a
      have h1 := h c (List.mem_cons_self ..)
      have h2 := ih (fun d hd => h d (List.mem_cons_of_mem _ hd)) (16 * a + digOf c)
      rw [List.foldl_cons, List.length_cons, Nat.pow_succ]
      refine Nat.lt_of_lt_of_le h2 ?_
      rw [Nat.mul_comm (16 ^ l.length) 16, ← Nat.mul_assoc]
      exact Nat.mul_le_mul_right _ (by omega)
  intro l h
  have := this l h 0
  simpa [hexValK] using this
theorem look_0 (w : World) : (Instr.index 9 (.string ⟨#[48, 49, 50, 51, 52, 53, 54, 55, 56, 57, 97, 98, 99, 100, 101, 102]⟩) (.int .u64 0)).run Tryz.prog w = .ok (.int .u8 48) w := by kernel_rfl
theorem look_1 (w : World) : (Instr.index 9 (.string ⟨#[48, 49, 50, 51, 52, 53, 54, 55, 56, 57, 97, 98, 99, 100, 101, 102]⟩) (.int .u64 1)).run Tryz.prog w = .ok (.int .u8 49) w := by kernel_rfl
theorem look_2 (w : World) : (Instr.index 9 (.string ⟨#[48, 49, 50, 51, 52, 53, 54, 55, 56, 57, 97, 98, 99, 100, 101, 102]⟩) (.int .u64 2)).run Tryz.prog w = .ok (.int .u8 50) w := by kernel_rfl
theorem look_3 (w : World) : (Instr.index 9 (.string ⟨#[48, 49, 50, 51, 52, 53, 54, 55, 56, 57, 97, 98, 99, 100, 101, 102]⟩) (.int .u64 3)).run Tryz.prog w = .ok (.int .u8 51) w := by kernel_rfl
theorem look_4 (w : World) : (Instr.index 9 (.string ⟨#[48, 49, 50, 51, 52, 53, 54, 55, 56, 57, 97, 98, 99, 100, 101, 102]⟩) (.int .u64 4)).run Tryz.prog w = .ok (.int .u8 52) w := by kernel_rfl
theorem look_5 (w : World) : (Instr.index 9 (.string ⟨#[48, 49, 50, 51, 52, 53, 54, 55, 56, 57, 97, 98, 99, 100, 101, 102]⟩) (.int .u64 5)).run Tryz.prog w = .ok (.int .u8 53) w := by kernel_rfl
theorem look_6 (w : World) : (Instr.index 9 (.string ⟨#[48, 49, 50, 51, 52, 53, 54, 55, 56, 57, 97, 98, 99, 100, 101, 102]⟩) (.int .u64 6)).run Tryz.prog w = .ok (.int .u8 54) w := by kernel_rfl
theorem look_7 (w : World) : (Instr.index 9 (.string ⟨#[48, 49, 50, 51, 52, 53, 54, 55, 56, 57, 97, 98, 99, 100, 101, 102]⟩) (.int .u64 7)).run Tryz.prog w = .ok (.int .u8 55) w := by kernel_rfl
theorem look_8 (w : World) : (Instr.index 9 (.string ⟨#[48, 49, 50, 51, 52, 53, 54, 55, 56, 57, 97, 98, 99, 100, 101, 102]⟩) (.int .u64 8)).run Tryz.prog w = .ok (.int .u8 56) w := by kernel_rfl
theorem look_9 (w : World) : (Instr.index 9 (.string ⟨#[48, 49, 50, 51, 52, 53, 54, 55, 56, 57, 97, 98, 99, 100, 101, 102]⟩) (.int .u64 9)).run Tryz.prog w = .ok (.int .u8 57) w := by kernel_rfl
theorem look_10 (w : World) : (Instr.index 9 (.string ⟨#[48, 49, 50, 51, 52, 53, 54, 55, 56, 57, 97, 98, 99, 100, 101, 102]⟩) (.int .u64 10)).run Tryz.prog w = .ok (.int .u8 97) w := by kernel_rfl
theorem look_11 (w : World) : (Instr.index 9 (.string ⟨#[48, 49, 50, 51, 52, 53, 54, 55, 56, 57, 97, 98, 99, 100, 101, 102]⟩) (.int .u64 11)).run Tryz.prog w = .ok (.int .u8 98) w := by kernel_rfl
theorem look_12 (w : World) : (Instr.index 9 (.string ⟨#[48, 49, 50, 51, 52, 53, 54, 55, 56, 57, 97, 98, 99, 100, 101, 102]⟩) (.int .u64 12)).run Tryz.prog w = .ok (.int .u8 99) w := by kernel_rfl
theorem look_13 (w : World) : (Instr.index 9 (.string ⟨#[48, 49, 50, 51, 52, 53, 54, 55, 56, 57, 97, 98, 99, 100, 101, 102]⟩) (.int .u64 13)).run Tryz.prog w = .ok (.int .u8 100) w := by kernel_rfl
theorem look_14 (w : World) : (Instr.index 9 (.string ⟨#[48, 49, 50, 51, 52, 53, 54, 55, 56, 57, 97, 98, 99, 100, 101, 102]⟩) (.int .u64 14)).run Tryz.prog w = .ok (.int .u8 101) w := by kernel_rfl
theorem look_15 (w : World) : (Instr.index 9 (.string ⟨#[48, 49, 50, 51, 52, 53, 54, 55, 56, 57, 97, 98, 99, 100, 101, 102]⟩) (.int .u64 15)).run Tryz.prog w = .ok (.int .u8 102) w := by kernel_rfl
theorem look_at (d : Nat) (h : d < 16) (w : World) : (Instr.index 9 (.string ⟨#[48, 49, 50, 51, 52, 53, 54, 55, 56, 57, 97, 98, 99, 100, 101, 102]⟩) (.int .u64 (d : Int))).run Tryz.prog w = .ok (.int .u8 ((digB d).toNat : Int)) w := by
  have hd : d = 0 ∨ d = 1 ∨ d = 2 ∨ d = 3 ∨ d = 4 ∨ d = 5 ∨ d = 6 ∨ d = 7 ∨ d = 8 ∨ d = 9 ∨ d = 10 ∨ d = 11 ∨ d = 12 ∨ d = 13 ∨ d = 14 ∨ d = 15 := by omega
  rcases hd with rfl | rfl | rfl | rfl | rfl | rfl | rfl | rfl | rfl | rfl | rfl | rfl | rfl | rfl | rfl | rfl
  · exact look_0 w
  · exact look_1 w
  · exact look_2 w
  · exact look_3 w
  · exact look_4 w
  · exact look_5 w
  · exact look_6 w
  · exact look_7 w
  · exact look_8 w
  · exact look_9 w
  · exact look_10 w
  · exact look_11 w
  · exact look_12 w
  · exact look_13 w
  · exact look_14 w
  · exact look_15 w

end Go.Proofs.YtidomoibhjgkjaaGreatDoor
