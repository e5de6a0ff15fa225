import Derived.Test.YtidomoibhjgkjaaGreatDoorZC39
import Derived.Test.YtidomoibhjgkjaaGreatDoorZC41
import Derived.Test.YtidomoibhjgkjaaGreatDoorZC25
import Derived.IntWalk
import Derived.Test.YtidomoibhjgkjaaGreatDoorZC40
import Derived.Test.YtidomoibhjgkjaaGreatDoorZC03
import Derived.OpenShut
/-
  Values, the document's own answers: the text of a value.
-/
namespace Go.Proofs.YtidomoibhjgkjaaGreatDoor
open Go.RowKit

set_option maxRecDepth 100000 in
set_option maxHeartbeats 2000000 in
theorem refNat_any : ∀ (n : Nat), (n : Int) ≤ 18446744073709551615 → ∀ w : World, Calls Tryz.prog 125 #[.int .u64 (n : Int)] w fun r w' => r = .returned (.string ⟨(natL n).toArray⟩) ∧ Below w.heap.size w w' := by
  intro n
  induction n using Nat.strongRecOn with
  | ind n ih =>
    intro hn w
    have s1 : IntKind.u8.wrap (48 + (n : Int) % 10) = 48 + (n : Int) % 10 := IntWalk.u8_in _ (by omega)
    obtain ⟨cb, hcb⟩ : ∃ cb : UInt8, cb = UInt8.ofNat (48 + n % 10) := ⟨_, rfl⟩
    have hu : (48 + (n : Int) % 10) = (cb.toNat : Int) := by rw [hcb, UInt8.toNat_ofNat']; omega
    have hcv := conv_rd 143 9 5 Tryz.underlying143 Tryz.underlying5 Tryz.underlying9 (c := 1) (n := 1) rfl (Rd.one w 5 (48 + (n : Int) % 10) _ hu)
    have hb : Below w.heap.size w (w.alloc (.cells #[.int .u8 (48 + (n : Int) % 10)] 5)) := (Below.refl _ _).alloc (Nat.le_refl _) _
    have HB := Lib.hid hb
    clear hb hu
    by_cases h : n < 10
    · have d1 : decide ((n : Int) < 10) = true := by rw [decide_eq_true_iff]; omega
      have HN := Lib.hid (show natL n = [cb] by rw [hcb, natL_small h, show n % 10 = n from by omega])
      clear ih hcb
      go_enter Tryz.func125, Tryz.ntmps125
      go_wp2
      go_ret
      rw [HN.out]
      exact ⟨rfl, HB.out⟩
    · have d1 : decide ((n : Int) < 10) = false := by rw [decide_eq_false_iff_not]; omega
      have e10 : ((n / 10 : Nat) : Int) = (n : Int) / 10 := by omega
      have hi := ih (n / 10) (by omega) (by omega)
      rw [e10] at hi
      have HI := Lib.hid hi
      have HN := Lib.hid (show natL n = natL (n / 10) ++ [cb] by rw [hcb]; exact natL_big (n := n) (by omega))
      have hlen := natL_len 19 (n / 10) (by omega)
      generalize natL (n / 10) = q at *
      clear ih e10 hi hcb
      go_enter Tryz.func125, Tryz.ntmps125
      go_wp2_with fail
      refine (HI.out _).mono ?_
      rintro r w1 ⟨rfl, hb1⟩
      have HB1 := Lib.hid (HB.out.trans (hb1.mono HB.out.size))
      clear hb1
      go_wp2
      go_ret
      rw [HN.out, ← ba_catT]
      exact ⟨rfl, HB1.out⟩

set_option maxRecDepth 100000 in
set_option maxHeartbeats 2000000 in
theorem refNum4_any (n : Int) (h0 : -9223372036854775808 ≤ n) (h1 : n ≤ 9223372036854775807) (w : World) : Calls Tryz.prog 110 #[.int .i64 n] w fun r w' => r = .returned (.string ⟨(intL n).toArray⟩) ∧ Below w.heap.size w w' := by
  by_cases hn : n < 0
  · have d : decide (n < 0) = true := by simpa using hn
    have e : intL n = 45 :: natL (-n).toNat := if_pos hn
    obtain ⟨m, hm⟩ : ∃ m : Nat, m = (-n).toNat := ⟨_, rfl⟩
    have hmn : (0 : Int) - IntKind.u64.wrap n = (m : Int) - 18446744073709551616 := by rw [IntKind.wrap_u64]; omega
    have hw0 : IntKind.u64.wrap n = 18446744073709551616 - (m : Int) := by rw [IntKind.wrap_u64]; omega
    have hw1 : IntKind.u64.wrap (-(18446744073709551616 - (m : Int))) = (m : Int) := by rw [IntKind.wrap_u64]; omega
    have hlen := natL_len 19 m (by omega)
    have HN := Lib.hid (refNat_any m (by omega))
    rw [e, ← hm]
    generalize natL m = q at *
    clear e hm hmn
    go_enter Tryz.func110, Tryz.ntmps110
    go_wp2_with fail
    refine (HN.out _).mono ?_
    rintro r w1 ⟨rfl, hb1⟩
    go_wp2
    go_ret
    exact ⟨congrArg (fun z => Ending.returned (Value.string z)) (ba_catT [45] q), hb1⟩
  · have d : decide (n < 0) = false := by simpa using hn
    have e : intL n = natL n.toNat := if_neg hn
    obtain ⟨m, rfl⟩ : ∃ m : Nat, n = (m : Int) := ⟨n.toNat, by omega⟩
    have hw0 : IntKind.u64.wrap (m : Int) = (m : Int) := by rw [IntKind.wrap_u64]; omega
    have HN := Lib.hid (refNat_any m (by omega))
    rw [e, Int.toNat_natCast]
    clear e hn
    go_enter Tryz.func110, Tryz.ntmps110
    go_wp2_with fail
    refine (HN.out _).mono ?_
    rintro r w1 ⟨rfl, hb1⟩
    go_wp2
    go_ret
    exact ⟨rfl, hb1⟩
def plainR (c : UInt8) : Bool := decide (32 ≤ c.toNat) && decide (c.toNat ≤ 126) && decide (c ≠ 34) && decide (c ≠ 92)
set_option maxRecDepth 100000 in
set_option maxHeartbeats 2000000 in
theorem refPlain_any (c : UInt8) (w : World) : Calls Tryz.prog 126 #[.int .u8 (c.toNat : Int)] w fun r w' => r = .returned (.bool (plainR c)) ∧ w = w' := by
  have e34 : c = 34 ↔ c.toNat = 34 := ⟨fun h => by rw [h]; rfl, fun h => UInt8.toNat_inj.1 h⟩
  have e92 : c = 92 ↔ c.toNat = 92 := ⟨fun h => by rw [h]; rfl, fun h => UInt8.toNat_inj.1 h⟩
  by_cases h1 : 32 ≤ c.toNat
  · have d1 : decide ((32 : Int) ≤ (c.toNat : Int)) = true := by rw [decide_eq_true_iff]; omega
    by_cases h2 : c.toNat ≤ 126
    · have d2 : decide ((c.toNat : Int) ≤ 126) = true := by rw [decide_eq_true_iff]; omega
      by_cases h3 : c.toNat = 34
      · have d3 : ((c.toNat : Int) == 34) = true := by rw [beq_iff_eq]; omega
        have d3' : ((c.toNat : Int) != 34) = false := by rw [bne, d3]; rfl
        have e : plainR c = false := by unfold plainR; rw [decide_eq_false (p := c ≠ 34) (by rw [Ne, e34]; simpa using h3)]; simp
        rw [e]
        clear e e34 e92
        go_enter Tryz.func126, Tryz.ntmps126
        go_wp2
        go_ret
        exact ⟨rfl, rfl⟩
      · have d3 : ((c.toNat : Int) == 34) = false := by rw [beq_eq_false_iff_ne]; omega
        have d3' : ((c.toNat : Int) != 34) = true := by rw [bne, d3]; rfl
        by_cases h4 : c.toNat = 92
        · have d4 : ((c.toNat : Int) == 92) = true := by rw [beq_iff_eq]; omega
          have d4' : ((c.toNat : Int) != 92) = false := by rw [bne, d4]; rfl
          have e : plainR c = false := by unfold plainR; rw [decide_eq_false (p := c ≠ 92) (by rw [Ne, e92]; simpa using h4)]; simp
          rw [e]
          clear e e34 e92
          go_enter Tryz.func126, Tryz.ntmps126
          go_wp2
          go_ret
          exact ⟨rfl, rfl⟩
        · have d4 : ((c.toNat : Int) == 92) = false := by rw [beq_eq_false_iff_ne]; omega
          have d4' : ((c.toNat : Int) != 92) = true := by rw [bne, d4]; rfl
          have e : plainR c = true := by unfold plainR; rw [decide_eq_true h1, decide_eq_true h2, decide_eq_true (p := c ≠ 34) (by rw [Ne, e34]; exact h3), decide_eq_true (p := c ≠ 92) (by rw [Ne, e92]; exact h4)]; rfl
          rw [e]
          clear e e34 e92
          go_enter Tryz.func126, Tryz.ntmps126
          go_wp2
          go_ret
          exact ⟨rfl, rfl⟩
    · have d2 : decide ((c.toNat : Int) ≤ 126) = false := by rw [decide_eq_false_iff_not]; omega
      have e : plainR c = false := by unfold plainR; rw [decide_eq_false h2]; simp
      rw [e]
      clear e e34 e92
      go_enter Tryz.func126, Tryz.ntmps126
      go_wp2
      go_ret
      exact ⟨rfl, rfl⟩
  · have d1 : decide ((32 : Int) ≤ (c.toNat : Int)) = false := by rw [decide_eq_false_iff_not]; omega
    have e : plainR c = false := by unfold plainR; rw [decide_eq_false h1]; simp
    rw [e]
    clear e e34 e92
    go_enter Tryz.func126, Tryz.ntmps126
    go_wp2
    go_ret
    exact ⟨rfl, rfl⟩
theorem hex_two (n : Nat) : (hexN 16 n).drop 14 = [digB (n / 16 % 16), digB (n % 16)] := by
  rw [show (16 : Nat) = 14 + 2 from rfl]
  rw [hexN, hexN, List.append_assoc]
  have h := hex_len 14 (n / 16 / 16)
  exact List.drop_left' h
set_option maxRecDepth 100000 in
set_option maxHeartbeats 2000000 in
theorem refHex_any (c : UInt8) (w : World) : Calls Tryz.prog 127 #[.int .u8 (c.toNat : Int)] w fun r w' => r = .returned (.string ⟨#[digB (c.toNat / 16), digB (c.toNat % 16)]⟩) ∧ w = w' := by
  have hc : c.toNat < 256 := UInt8.toNat_lt c
  have HN := Lib.hid (refNumber_any c.toNat w (by omega))
  have hlen := hex_len 16 c.toNat
  have hx : (⟨(hexN 16 c.toNat).toArray⟩ : ByteArray).size = 16 := by
    show (hexN 16 c.toNat).toArray.size = _
    simpa using hlen
  have he : (⟨(hexN 16 c.toNat).toArray⟩ : ByteArray).extract 14 16 = ⟨#[digB (c.toNat / 16), digB (c.toNat % 16)]⟩ := by
    have h := ext_drop (⟨(hexN 16 c.toNat).toArray⟩ : ByteArray) 14
    rw [hx] at h
    rw [h]
    show (⟨((hexN 16 c.toNat).drop 14).toArray⟩ : ByteArray) = _
    rw [hex_two, Nat.mod_eq_of_lt (a := c.toNat / 16) (by omega)]
  have HE := Lib.hid he
  have w1 : IntKind.u64.wrap (c.toNat : Int) = (c.toNat : Int) := by rw [IntKind.wrap_u64]; omega
  clear hlen he
  generalize (⟨(hexN 16 c.toNat).toArray⟩ : ByteArray) = hs at *
  go_enter Tryz.func127, Tryz.ntmps127
  go_wp2_with (go_at_call 139; refine HN.out.mono ?_; rintro r w' ⟨rfl, rfl⟩)
  go_ret
  rw [← HE.out]
  exact ⟨rfl, rfl⟩

theorem esc_plain {c : UInt8} (h : plainR c = true) : escB c = [c] := by
  unfold plainR at h
  simp at h
  unfold escB
  rw [if_neg (by rintro (h1 | h1); exact h.1.2 h1; exact h.2 h1), if_pos h.1.1]
set_option maxRecDepth 100000 in
set_option maxHeartbeats 2000000 in
theorem refInner_any (c : UInt8) (w : World) : Calls Tryz.prog 111 #[.int .u8 (c.toNat : Int)] w fun r w' => r = .returned (.string ⟨(escB c).toArray⟩) ∧ Below w.heap.size w w' := by
  have HP := Lib.hid (refPlain_any c w)
  have HX := Lib.hid (refHex_any c w)
  have e34 : c = 34 ↔ c.toNat = 34 := ⟨fun h => by rw [h]; rfl, fun h => UInt8.toNat_inj.1 h⟩
  have e92 : c = 92 ↔ c.toNat = 92 := ⟨fun h => by rw [h]; rfl, fun h => UInt8.toNat_inj.1 h⟩
  have HB0 := Lib.hid (Below.refl w.heap.size w)
  cases hp : plainR c
  · rw [hp] at HP
    by_cases h3 : c.toNat = 34 ∨ c.toNat = 92
    · have e : escB c = [92, c] := by unfold escB; rw [if_pos (by rw [e34, e92]; exact h3)]
      rw [e]
      have hcv := conv_rd 143 9 5 Tryz.underlying143 Tryz.underlying5 Tryz.underlying9 (c := 2) (n := 2) rfl (Rd.two w 5 92 c)
      have hb : Below w.heap.size w (w.alloc (.cells #[.int .u8 92, .int .u8 (c.toNat : Int)] 5)) := (Below.refl _ _).alloc (Nat.le_refl _) _
      have HB := Lib.hid hb
      rw [show (((92 : UInt8).toNat : Nat) : Int) = 92 from rfl] at hcv
      clear hb e e34 e92 HX
      by_cases h34 : c.toNat = 34
      · have d3 : ((c.toNat : Int) == 34) = true := by rw [beq_iff_eq]; omega
        clear h34 h3
        go_enter Tryz.func111, Tryz.ntmps111
        go_wp2_with (go_at_call 126; refine HP.out.mono ?_; rintro r w' ⟨rfl, rfl⟩)
        go_ret
        exact ⟨rfl, HB.out⟩
      · have d3 : ((c.toNat : Int) == 34) = false := by rw [beq_eq_false_iff_ne]; omega
        have d4 : ((c.toNat : Int) == 92) = true := by rw [beq_iff_eq]; omega
        clear h34 h3
        go_enter Tryz.func111, Tryz.ntmps111
        go_wp2_with (go_at_call 126; refine HP.out.mono ?_; rintro r w' ⟨rfl, rfl⟩)
        go_ret
        exact ⟨rfl, HB.out⟩
    · have d3 : ((c.toNat : Int) == 34) = false := by rw [beq_eq_false_iff_ne]; omega
      have d4 : ((c.toNat : Int) == 92) = false := by rw [beq_eq_false_iff_ne]; omega
      have hout : ¬ (32 ≤ c.toNat ∧ c.toNat ≤ 126) := by
        intro ⟨a, b⟩
        have : plainR c = true := by
          unfold plainR
          rw [decide_eq_true a, decide_eq_true b, decide_eq_true (p := c ≠ 34) (by rw [Ne, e34]; omega), decide_eq_true (p := c ≠ 92) (by rw [Ne, e92]; omega)]
          rfl
        rw [hp] at this
        cases this
      have e : escB c = [92, digB (c.toNat / 16), digB (c.toNat % 16)] := by unfold escB; rw [if_neg (by rw [e34, e92]; exact h3), if_neg hout]
      rw [e]
      generalize digB (c.toNat / 16) = a at *
      generalize digB (c.toNat % 16) = b at *
      clear e e34 e92 hp hout h3
      go_enter Tryz.func111, Tryz.ntmps111
      go_wp2_with (first | (go_at_call 126; refine HP.out.mono ?_; rintro r w' ⟨rfl, rfl⟩) | (go_at_call 127; refine HX.out.mono ?_; rintro r w' ⟨rfl, rfl⟩))
      go_ret
      exact ⟨congrArg (fun z => Ending.returned (Value.string z)) (ba_catT [92] [a, b]), HB0.out⟩
  · rw [hp] at HP
    rw [esc_plain hp]
    have hcv := conv_rd 143 9 5 Tryz.underlying143 Tryz.underlying5 Tryz.underlying9 (c := 1) (n := 1) rfl (Rd.one w 5 (c.toNat : Int) c rfl)
    have hb : Below w.heap.size w (w.alloc (.cells #[.int .u8 (c.toNat : Int)] 5)) := (Below.refl _ _).alloc (Nat.le_refl _) _
    have HB := Lib.hid hb
    clear hb HX e34 e92 hp
    go_enter Tryz.func111, Tryz.ntmps111
    go_wp2_with (go_at_call 126; refine HP.out.mono ?_; rintro r w' ⟨rfl, rfl⟩)
    go_ret
    exact ⟨rfl, HB.out⟩

theorem escBp_len (c : UInt8) : (escB c).length ≤ 3 := by
  unfold escB
  split
  · simp
  · split <;> simp
theorem escLp_append (a b : List UInt8) : escL (a ++ b) = escL a ++ escL b := by simp [escL]
set_option maxRecDepth 100000 in
set_option maxHeartbeats 2000000 in
theorem refPrint4_any : RefPrintC := by
  intro v hr hn w
  obtain ⟨k, n, s⟩ := v
  simp only [V.val]
  have hb0 := box_below w #[.int .i64 k, .int .i64 n, .string s] 27
  rcases right_kind hr with hk | hk | hk
  · simp only at hk
    subst hk
    have HF := Lib.hid (refNum4_any n hn.1 hn.2)
    have HP := Lib.hid (show printV ⟨1, n, s⟩ = intL n from rfl)
    have HB := Lib.hid hb0
    clear hb0 hn hr
    go_enter Tryz.func79, Tryz.ntmps79
    go_wp2_with fail
    refine (HF.out _).mono ?_
    rintro r w1 ⟨rfl, hb⟩
    have HB1 := Lib.hid (HB.out.trans (hb.mono HB.out.size))
    clear hb
    go_wp2_with fail
    go_ret
    rw [HP.out]
    exact ⟨rfl, HB1.out⟩
  · simp only at hk
    subst hk
    have HB := Lib.hid hb0
    have ht := right_truth hr
    clear hb0 hn hr
    rcases ht with rfl | rfl
    · have HP := Lib.hid (show printV ⟨2, 0, s⟩ = [102, 97, 108, 115, 101] from rfl)
      go_enter Tryz.func79, Tryz.ntmps79
      go_wp2
      go_ret
      rw [HP.out]
      exact ⟨rfl, HB.out⟩
    · have HP := Lib.hid (show printV ⟨2, 1, s⟩ = [116, 114, 117, 101] from rfl)
      go_enter Tryz.func79, Tryz.ntmps79
      go_wp2
      go_ret
      rw [HP.out]
      exact ⟨rfl, HB.out⟩
  · simp only at hk
    subst hk
    have hs := (right_text hr rfl).1
    simp only at hs
    have HP := Lib.hid (show printV ⟨3, n, s⟩ = 34 :: (escL s.data.toList ++ [34]) from rfl)
    have HB := Lib.hid hb0
    clear hb0 hn hr
    go_enter Tryz.func79, Tryz.ntmps79
    go_wp2
    go_loopg [3, 32] s.size (fun q x i wr => ∃ j : Nat, j + q = s.size ∧ x = .string ⟨(34 :: escL (s.data.toList.take j)).toArray⟩ ∧ i = .int .i64 (j : Int) ∧ Below (w.heap.size + 1) (w.alloc (.cells #[.int .i64 3, .int .i64 n, .string s] 27)) wr)
    case atStart => exact ⟨0, by omega, rfl, rfl, by simpa using Below.refl _ _⟩
    case round =>
      obtain ⟨j, hkk, rfl, rfl, hb⟩ := hrel
      have HK := Lib.hid hkk
      have HBr := Lib.hid hb
      have c2 := (hb.cell (p := ⟨w.heap.size, 2, none⟩) (Nat.lt_succ_self _)).trans (show _ = some (Value.string s) by simp [go_sem])
      have hlen := escL_len (s.data.toList.take j)
      have hle : (s.data.toList.take j).length ≤ 64 := by rw [List.length_take]; have : s.data.toList.length = s.size := rfl; omega
      by_cases hj : j < s.size
      · have hlt : decide ((j : Int) < (s.size : Int)) = true := by simpa using hj
        have HI := Lib.hid (refInner_any s[j])
        have HT := Lib.hid (show escL (s.data.toList.take (j + 1)) = escL (s.data.toList.take j) ++ escB s[j] by rw [take_snocB s j hj, escLp_append]; simp [escL])
        have hl3 := escBp_len s[j]
        generalize escB s[j] = eb at *
        generalize escL (s.data.toList.take j) = el at *
        have z1 : (⟨(34 :: el).toArray⟩ : ByteArray).size ≤ 1000 := by
          show (34 :: el).toArray.size ≤ _
          simp; omega
        clear hb hkk
        go_wp2_with fail
        refine (HI.out _).mono ?_
        rintro r w1 ⟨rfl, hb1⟩
        have HB1 := Lib.hid (HBr.out.trans (hb1.mono (by simpa using HBr.out.size)))
        clear hb1
        go_wp2_with fail
        go_roundg (gk - 1)
        case measure => have := HK.out; omega
        case rel => exact ⟨j + 1, by have := HK.out; omega, by rw [HT.out]; exact congrArg Value.string (ba_catT (34 :: el) eb), by go_num, HB1.out⟩
      · have hlt : decide ((j : Int) < (s.size : Int)) = false := by simpa using hj
        have hj' : j = s.size := by omega
        have ht : s.data.toList.take j = s.data.toList := List.take_of_length_le (by rw [hj']; exact Nat.le_refl _)
        rw [ht] at hlen hle ⊢
        generalize escL s.data.toList = el at *
        have z1 : (⟨(34 :: el).toArray⟩ : ByteArray).size ≤ 1000 := by
          show (34 :: el).toArray.size ≤ _
          simp; omega
        clear hb hkk hj'
        go_wp2
        go_ret
        rw [HP.out]
        exact ⟨congrArg (fun z => Ending.returned (Value.string z)) (ba_catT (34 :: el) [34]), HB.out.trans (HBr.out.mono (Nat.le_succ _))⟩
end Go.Proofs.YtidomoibhjgkjaaGreatDoor

/-
  Expressions in plain words: terms that are right make a tree whose places hold what they may.
-/
namespace Go.Proofs.YtidomoibhjgkjaaGreatDoor
open Go.RowKit

theorem small_step {t : TM} (h : ownT t = 0) (hp : t.op = 0 → (printV t.v).length ≤ 1000) (hnm : t.nm.size ≤ 100) (hvn : -9223372036854775808 ≤ t.v.n ∧ t.v.n ≤ 9223372036854775807) {st : List Ex} (hn : takesT t.op ≤ st.length) (hst : ∀ x ∈ st, SmallT x) : ∀ x ∈ stepE st t, SmallT x := by
  obtain ⟨h0, h18, hv, hm⟩ := own_op h
  obtain ⟨op, v, nm⟩ := t
  simp only at h0 h18 hv hm hn hp hnm hvn
  unfold stepE
  simp only
  by_cases e0 : op = 0
  · subst e0
    rw [if_pos rfl]
    have hr : rightV v = 0 := by
      unfold ownT at h
      split at h
      · cases h
      · simp only [if_pos] at h
        by_cases hr : rightV v = 0
        · exact hr
        · rw [if_pos hr] at h
          exact absurd h hr
    intro x hx
    rcases List.mem_cons.1 hx with rfl | hx
    · exact ⟨hr, hvn, hp rfl⟩
    · exact hst x hx
  · rw [if_neg e0]
    by_cases e1 : op = 1
    · rw [if_pos e1]
      intro x hx
      rcases List.mem_cons.1 hx with rfl | hx
      · exact hnm
      · exact hst x hx
    · rw [if_neg e1]
      by_cases e2 : op = 2
      · rw [if_pos e2]
        intro x hx
        rcases List.mem_cons.1 hx with rfl | hx
        · exact hnm
        · exact hst x hx
      · rw [if_neg e2]
        by_cases e6 : op < 6
        · rw [if_pos e6]
          cases st with
          | nil => intro x hx; cases hx
          | cons a r =>
            intro x hx
            rcases List.mem_cons.1 hx with rfl | hx
            · exact ⟨by omega, hst a (List.mem_cons_self ..)⟩
            · exact hst x (List.mem_cons_of_mem _ hx)
        · rw [if_neg e6]
          match st, hst with
          | [], _ => intro x hx; cases hx
          | [a], _ => intro x hx; cases hx
          | b :: a :: r, hst =>
            intro x hx
            rcases List.mem_cons.1 hx with rfl | hx
            · exact ⟨by omega, hst a (by simp), hst b (by simp)⟩
            · exact hst x (by simp [hx])
theorem small_trees (hp : ∀ v : V, rightV v = 0 → -9223372036854775808 ≤ v.n → v.n ≤ 9223372036854775807 → (printV v).length ≤ 1000) : ∀ (l : List TM) (st : List Ex) (m : Nat), (∀ x ∈ l, x.nm.size ≤ 100 ∧ -9223372036854775808 ≤ x.v.n ∧ x.v.n ≤ 9223372036854775807) → checkGo st.length l = (0, m) → (∀ x ∈ st, SmallT x) → ∀ x ∈ treesE st l, SmallT x
  | [], st, m, _, _, hst => hst
  | t :: l, st, m, hl, h, hst => by
    rw [checkGo] at h
    by_cases hown : ownT t = 0
    · rw [if_neg (by simp [hown])] at h
      by_cases hlt : st.length < takesT t.op
      · rw [if_pos hlt] at h; cases h
      · rw [if_neg hlt] at h
        obtain ⟨e1, e2⟩ := step_post hown (st := st) (by omega)
        rw [← e2] at h
        obtain ⟨z1, z2, z3⟩ := hl t (List.mem_cons_self ..)
        have hr : t.op = 0 → (printV t.v).length ≤ 1000 := fun e => by
          refine hp t.v ?_ z2 z3
          unfold ownT at hown
          split at hown
          · cases hown
          · try rw [if_pos e] at hown
            by_cases hr : rightV t.v = 0
            · exact hr
            · rw [if_pos hr] at hown
              exact absurd hown hr
        exact small_trees hp l (stepE st t) m (fun x hx => hl x (List.mem_cons_of_mem _ hx)) h (small_step hown hr z1 ⟨z2, z3⟩ (by omega) hst)
    · rw [if_pos hown] at h
      simp only [Prod.mk.injEq] at h
      exact absurd h.1 hown
theorem small_tree (hp : ∀ v : V, rightV v = 0 → -9223372036854775808 ≤ v.n → v.n ≤ 9223372036854775807 → (printV v).length ≤ 1000) {l : List TM} (hl : ∀ x ∈ l, x.nm.size ≤ 100 ∧ -9223372036854775808 ≤ x.v.n ∧ x.v.n ≤ 9223372036854775807) (h : checkGo 0 l = (0, 1)) : SmallT (treeE l) := by
  have hs := small_trees hp l [] 1 hl h (fun x hx => by cases hx)
  obtain ⟨h1, _⟩ := check_trees l [] 1 h
  unfold treeE
  match hst : treesE [] l, h1 with
  | [t], _ => exact hs t (by rw [hst]; simp)
theorem small_any {l : List TM} (hl : ∀ x ∈ l, x.nm.size ≤ 100 ∧ -9223372036854775808 ≤ x.v.n ∧ x.v.n ≤ 9223372036854775807) (h : checkGo 0 l = (0, 1)) : SmallT (treeE l) := small_tree (fun _ hr h0 h1 => print_len hr h0 h1) hl h
end Go.Proofs.YtidomoibhjgkjaaGreatDoor

/-
  Arguments that are slices of numbers, opened to what the walks ask of bytes; and Equal of the document's own answers.
-/
namespace Go.Proofs.YtidomoibhjgkjaaGreatDoor
open Go.RowKit

/-- What is known of a slice of integers that came in: nil; or a row of cap cells, the first len of which are its elements. -/
def IsRow (k : IntKind) (w : World) (a : Option Addr) (len cap : Nat) (zs : List Int) : Prop :=
  (a = none ∧ len = 0 ∧ cap = 0 ∧ zs = []) ∨
  ∃ x, a = some x ∧ len ≤ cap ∧ cap ≤ maxLen ∧ zs.length = cap ∧ (∀ i, i < zs.length → w.cell? (x.add i) = some (.int k (zs.getD i 0))) ∧ ∀ n ∈ zs, (Lit.int k n).wf = true

theorem bytes_in {w : World} {a : Option Addr} {len cap : Nat} {zs : List Int} (h : IsRow .u8 w a len cap zs) :
    ∃ l : List UInt8, len = l.length ∧ len ≤ cap ∧ cap ≤ maxLen ∧ (a = none → cap = 0) ∧ Rd w 0 w.heap.size a l := by
  rcases h with ⟨rfl, rfl, rfl, rfl⟩ | ⟨x, rfl, h1, h2, h3, hc, hw⟩
  · exact ⟨[], rfl, Nat.le_refl _, Nat.zero_le _, fun _ => rfl, Rd.nil_⟩
  · refine ⟨(zs.take len).map fun n => UInt8.ofNat n.toNat, by rw [List.length_map, List.length_take]; omega, h1, h2, fun h => (by cases h), fun hp => ?_⟩
    rw [List.length_map, List.length_take] at hp
    obtain ⟨b, off, rfl, hc'⟩ := ints_at hc (by omega)
    refine ⟨b, off, rfl, Nat.zero_le _, World.block_lt_of_cell? w ⟨b, off + 0, none⟩ (hc' 0 (by omega)), fun j hj => ?_⟩
    rw [List.length_map, List.length_take] at hj
    have hjz : j < zs.length := by omega
    rw [hc' j hjz, List.getElem_map, List.getElem_take, List.getD_eq_getElem?_getD, List.getElem?_eq_getElem hjz]
    have hb := bounds_u8 (hw _ (List.getElem_mem hjz))
    have e : ((UInt8.ofNat (zs[j]).toNat).toNat : Int) = zs[j] := by rw [byte_nat _ (by omega)]; omega
    rw [e]
    rfl

/-- A slice at A holds the values vs. -/
def RowV (w : World) (hi : Nat) (A : Option Addr) (vs : List Value) : Prop :=
  0 < vs.length → ∃ b o, A = some ⟨b, o, none⟩ ∧ b < hi ∧ ∀ j (h : j < vs.length), w.cell? ⟨b, o + j, none⟩ = some (vs[j]'h)

theorem RowV.below {w w' : World} {hi B : Nat} {A : Option Addr} {vs : List Value} (h : RowV w hi A vs) (hb : Below B w w') (hB : hi ≤ B) : RowV w' hi A vs := fun hn => by
  obtain ⟨b, o, e, h1, hc⟩ := h hn
  exact ⟨b, o, e, h1, fun j hj => (hb.cell (p := ⟨b, o + j, none⟩) (Nat.lt_of_lt_of_le h1 hB)).trans (hc j hj)⟩

theorem RowV.at_ {w : World} {hi k : Nat} {A : Option Addr} {vs : List Value} (h : RowV w hi A vs) (hk : k < vs.length) : ∃ b o, A = some ⟨b, o, none⟩ ∧ w.cell? ⟨b, o + k, none⟩ = some (vs[k]'hk) := by
  obtain ⟨b, o, e, _, hc⟩ := h (by omega)
  exact ⟨b, o, e, hc k hk⟩

theorem nums_in {k : IntKind} {w : World} {a : Option Addr} {len cap : Nat} {zs : List Int} (h : IsRow k w a len cap zs) :
    ∃ l : List Int, len = l.length ∧ (∀ n ∈ l, (Lit.int k n).wf = true) ∧ len ≤ maxLen ∧ RowV w w.heap.size a (l.map (Value.int k)) := by
  rcases h with ⟨rfl, rfl, rfl, rfl⟩ | ⟨x, rfl, h1, h2, h3, hc, hw⟩
  · exact ⟨[], rfl, by simp, Nat.zero_le _, fun h => absurd h (by simp)⟩
  · refine ⟨zs.take len, by rw [List.length_take]; omega, fun n hn => hw n (List.mem_of_mem_take hn), by omega, fun hp => ?_⟩
    rw [List.length_map, List.length_take] at hp
    obtain ⟨b, off, rfl, hc'⟩ := ints_at hc (by omega)
    refine ⟨b, off, rfl, World.block_lt_of_cell? w ⟨b, off + 0, none⟩ (hc' 0 (by omega)), fun j hj => ?_⟩
    rw [List.length_map, List.length_take] at hj
    have hjz : j < zs.length := by omega
    rw [hc' j hjz, List.getElem_map, List.getElem_take, List.getD_eq_getElem?_getD, List.getElem?_eq_getElem hjz]
    rfl

/-- What is known of a slice of strings that came in. -/
def IsStrs (w : World) (a : Option Addr) (len cap : Nat) (ss : List ByteArray) : Prop :=
  (a = none ∧ len = 0 ∧ cap = 0 ∧ ss = []) ∨
  ∃ x, a = some x ∧ len ≤ cap ∧ cap ≤ maxLen ∧ ss.length = cap ∧ (∀ i, i < ss.length → w.cell? (x.add i) = some (.string (ss.getD i ByteArray.empty))) ∧ ∀ s ∈ ss, s.size ≤ maxLen

/-- The strings that are the slice's elements. -/
theorem strs_take {w : World} {a : Option Addr} {len cap : Nat} {ss : List ByteArray} {p : ByteArray → Prop} (h : IsStrs w a len cap ss) (hp : ∀ s ∈ ss.take len, p s) :
    ∃ l : List ByteArray, len = l.length ∧ (∀ s ∈ l, p s) ∧ RowV w w.heap.size a (l.map Value.string) := by
  rcases h with ⟨rfl, rfl, rfl, rfl⟩ | ⟨x, rfl, h1, h2, h3, hc, hw⟩
  · exact ⟨[], rfl, by simp, fun h => absurd h (by simp)⟩
  · refine ⟨ss.take len, by rw [List.length_take]; omega, hp, fun hp => ?_⟩
    rw [List.length_map, List.length_take] at hp
    have h0 := hc 0 (by omega)
    obtain ⟨b, off, spot⟩ := x
    have hspot : spot = none := by simpa [Addr.add] using World.cell?_spot h0
    subst hspot
    refine ⟨b, off, rfl, World.block_lt_of_cell? w _ h0, fun j hj => ?_⟩
    rw [List.length_map, List.length_take] at hj
    have hjz : j < ss.length := by omega
    have := hc j hjz
    rw [addr_add] at this
    rw [this, List.getElem_map, List.getElem_take, List.getD_eq_getElem?_getD, List.getElem?_eq_getElem hjz]
    rfl

theorem strs_in {w : World} {a : Option Addr} {len cap : Nat} {ss : List ByteArray} (h : IsStrs w a len cap ss) :
    ∃ l : List ByteArray, len = l.length ∧ (∀ s ∈ l, s.size ≤ maxLen) ∧ len ≤ maxLen ∧ RowV w w.heap.size a (l.map Value.string) := by
  have hs : ∀ s ∈ ss, s.size ≤ maxLen := by
    rcases h with ⟨_, _, _, rfl⟩ | ⟨_, _, _, _, _, _, hw⟩
    · simp
    · exact hw
  have hl : len ≤ maxLen := by
    rcases h with ⟨_, rfl, _, _⟩ | ⟨_, _, h1, h2, _⟩
    · exact Nat.zero_le _
    · omega
  obtain ⟨l, h1, h2, h3⟩ := strs_take h (p := fun s => s.size ≤ maxLen) (fun s hm => hs s (List.mem_of_mem_take hm))
  exact ⟨l, h1, h2, hl, h3⟩

end Go.Proofs.YtidomoibhjgkjaaGreatDoor
