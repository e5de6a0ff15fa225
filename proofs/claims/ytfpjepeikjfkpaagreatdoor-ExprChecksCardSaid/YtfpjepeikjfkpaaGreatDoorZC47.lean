import Derived.Test.YtfpjepeikjfkpaaGreatDoorZC35
import Derived.Test.YtfpjepeikjfkpaaGreatDoorZC46
import Derived.Test.YtfpjepeikjfkpaaGreatDoorZC14
import Derived.IntWalk
import Derived.Test.YtfpjepeikjfkpaaGreatDoorZC42
import Derived.Test.YtfpjepeikjfkpaaGreatDoorZC43
import Derived.Test.YtfpjepeikjfkpaaGreatDoorZC44
/-
  Values, the document's own answers: the text of a value.
-/
namespace Go.Proofs.YtfpjepeikjfkpaaGreatDoor
open Go.RowKit

set_option maxRecDepth 100000 in
set_option maxHeartbeats 2000000 in
theorem refNat_any : ∀ (n : Nat), (n : Int) ≤ 18446744073709551615 → ∀ w : World, Calls Tryz.prog 114 #[.int .u64 (n : Int)] w fun r w' => r = .returned (.string ⟨(natL n).toArray⟩) ∧ Below w.heap.size w w' := by
  intro n
  induction n using Nat.strongRecOn with
  | ind n ih =>
    intro hn w
    have s1 : IntKind.u8.wrap (48 + (n : Int) % 10) = 48 + (n : Int) % 10 := IntWalk.u8_in _ (by omega)
    obtain ⟨cb, hcb⟩ : ∃ cb : UInt8, cb = UInt8.ofNat (48 + n % 10) := ⟨_, rfl⟩
    have hu : (48 + (n : Int) % 10) = (cb.toNat : Int) := by rw [hcb, UInt8.toNat_ofNat']; omega
    have hcv := conv_rd 152 9 5 Tryz.underlying152 Tryz.underlying5 Tryz.underlying9 (c := 1) (n := 1) rfl (Rd.one w 5 (48 + (n : Int) % 10) _ hu)
    have hb : Below w.heap.size w (w.alloc (.cells #[.int .u8 (48 + (n : Int) % 10)] 5)) := (Below.refl _ _).alloc (Nat.le_refl _) _
    have HB := Lib.hid hb
    clear hb hu
    by_cases h : n < 10
    · have d1 : decide ((n : Int) < 10) = true := by rw [decide_eq_true_iff]; omega
      have HN := Lib.hid (show natL n = [cb] by rw [hcb, natL_small h, show n % 10 = n from by omega])
      clear ih hcb
      go_enter Tryz.func114, Tryz.ntmps114
      go_wp2
      go_ret
      rw [HN.out]
      exact ⟨rfl, HB.out⟩
    · have d1 : decide ((n : Int) < 10) = false := by rw [decide_eq_false_iff_not]; omega
      have e10 : ((n / 10 : Nat) : Int) = (n : Int) / 10 := by omega
      have hi := ih (n / 10) (by omega) (by omega)
      rw [e10] at hi
      have HI := Lib.hid hi
      have HN := Lib.hid (show natL n = natL (n / 10) ++ [cb] by rw [hcb]; exact natL_big (n := n) (by omega))
      have hlen := natL_len 19 (n / 10) (by omega)
      generalize natL (n / 10) = q at *
      clear ih e10 hi hcb
      go_enter Tryz.func114, Tryz.ntmps114
      go_wp2_with fail
      refine (HI.out _).mono ?_
      rintro r w1 ⟨rfl, hb1⟩
      have HB1 := Lib.hid (HB.out.trans (hb1.mono HB.out.size))
      clear hb1
      go_wp2
      go_ret
      rw [HN.out, ← ba_catT]
      exact ⟨rfl, HB1.out⟩

set_option maxRecDepth 100000 in
set_option maxHeartbeats 2000000 in
theorem refNum4_any (n : Int) (h0 : -9223372036854775808 ≤ n) (h1 : n ≤ 9223372036854775807) (w : World) : Calls Tryz.prog 82 #[.int .i64 n] w fun r w' => r = .returned (.string ⟨(intL n).toArray⟩) ∧ Below w.heap.size w w' := by
  by_cases hn : n < 0
  · have d : decide (n < 0) = true := by simpa using hn
    have e : intL n = 45 :: natL (-n).toNat := if_pos hn
    obtain ⟨m, hm⟩ : ∃ m : Nat, m = (-n).toNat := ⟨_, rfl⟩
    have hmn : (0 : Int) - IntKind.u64.wrap n = (m : Int) - 18446744073709551616 := by rw [IntKind.wrap_u64]; omega
    have hw0 : IntKind.u64.wrap n = 18446744073709551616 - (m : Int) := by rw [IntKind.wrap_u64]; omega
    have hw1 : IntKind.u64.wrap (-(18446744073709551616 - (m : Int))) = (m : Int) := by rw [IntKind.wrap_u64]; omega
    have hlen := natL_len 19 m (by omega)
    have HN := Lib.hid (refNat_any m (by omega))
    rw [e, ← hm]
    generalize natL m = q at *
    clear e hm hmn
    go_enter Tryz.func82, Tryz.ntmps82
    go_wp2_with fail
    refine (HN.out _).mono ?_
    rintro r w1 ⟨rfl, hb1⟩
    go_wp2
    go_ret
    exact ⟨congrArg (fun z => Ending.returned (Value.string z)) (ba_catT [45] q), hb1⟩
  · have d : decide (n < 0) = false := by simpa using hn
    have e : intL n = natL n.toNat := if_neg hn
    obtain ⟨m, rfl⟩ : ∃ m : Nat, n = (m : Int) := ⟨n.toNat, by omega⟩
    have hw0 : IntKind.u64.wrap (m : Int) = (m : Int) := by rw [IntKind.wrap_u64]; omega
    have HN := Lib.hid (refNat_any m (by omega))
    rw [e, Int.toNat_natCast]
    clear e hn
    go_enter Tryz.func82, Tryz.ntmps82
    go_wp2_with fail
    refine (HN.out _).mono ?_
    rintro r w1 ⟨rfl, hb1⟩
    go_wp2
    go_ret
    exact ⟨rfl, hb1⟩
def plainR (c : UInt8) : Bool := decide (32 ≤ c.toNat) && decide (c.toNat ≤ 126) && decide (c ≠ 34) && decide (c ≠ 92)
set_option maxRecDepth 100000 in
set_option maxHeartbeats 2000000 in
theorem refPlain_any (c : UInt8) (w : World) : Calls Tryz.prog 115 #[.int .u8 (c.toNat : Int)] w fun r w' => r = .returned (.bool (plainR c)) ∧ w = w' := by
  have e34 : c = 34 ↔ c.toNat = 34 := ⟨fun h => by rw [h]; rfl, fun h => UInt8.toNat_inj.1 h⟩
  have e92 : c = 92 ↔ c.toNat = 92 := ⟨fun h => by rw [h]; rfl, fun h => UInt8.toNat_inj.1 h⟩
  by_cases h1 : 32 ≤ c.toNat
  · have d1 : decide ((32 : Int) ≤ (c.toNat : Int)) = true := by rw [decide_eq_true_iff]; omega
    by_cases h2 : c.toNat ≤ 126
    · have d2 : decide ((c.toNat : Int) ≤ 126) = true := by rw [decide_eq_true_iff]; omega
      by_cases h3 : c.toNat = 34
      · have d3 : ((c.toNat : Int) == 34) = true := by rw [beq_iff_eq]; omega
        have d3' : ((c.toNat : Int) != 34) = false := by rw [bne, d3]; rfl
        have e : plainR c = false := by unfold plainR; rw [decide_eq_false (p := c ≠ 34) (by rw [Ne, e34]; simpa using h3)]; simp
        rw [e]
        clear e e34 e92
        go_enter Tryz.func115, Tryz.ntmps115
        go_wp2
        go_ret
        exact ⟨rfl, rfl⟩
      · have d3 : ((c.toNat : Int) == 34) = false := by rw [beq_eq_false_iff_ne]; omega
        have d3' : ((c.toNat : Int) != 34) = true := by rw [bne, d3]; rfl
        by_cases h4 : c.toNat = 92
        · have d4 : ((c.toNat : Int) == 92) = true := by rw [beq_iff_eq]; omega
          have d4' : ((c.toNat : Int) != 92) = false := by rw [bne, d4]; rfl
          have e : plainR c = false := by unfold plainR; rw [decide_eq_false (p := c ≠ 92) (by rw [Ne, e92]; simpa using h4)]; simp
          rw [e]
          clear e e34 e92
          go_enter Tryz.func115, Tryz.ntmps115
          go_wp2
          go_ret
          exact ⟨rfl, rfl⟩
        · have d4 : ((c.toNat : Int) == 92) = false := by rw [beq_eq_false_iff_ne]; omega
          have d4' : ((c.toNat : Int) != 92) = true := by rw [bne, d4]; rfl
          have e : plainR c = true := by unfold plainR; rw [decide_eq_true h1, decide_eq_true h2, decide_eq_true (p := c ≠ 34) (by rw [Ne, e34]; exact h3), decide_eq_true (p := c ≠ 92) (by rw [Ne, e92]; exact h4)]; rfl
          rw [e]
          clear e e34 e92
          go_enter Tryz.func115, Tryz.ntmps115
          go_wp2
          go_ret
          exact ⟨rfl, rfl⟩
    · have d2 : decide ((c.toNat : Int) ≤ 126) = false := by rw [decide_eq_false_iff_not]; omega
      have e : plainR c = false := by unfold plainR; rw [decide_eq_false h2]; simp
      rw [e]
      clear e e34 e92
      go_enter Tryz.func115, Tryz.ntmps115
      go_wp2
      go_ret
      exact ⟨rfl, rfl⟩
  · have d1 : decide ((32 : Int) ≤ (c.toNat : Int)) = false := by rw [decide_eq_false_iff_not]; omega
    have e : plainR c = false := by unfold plainR; rw [decide_eq_false h1]; simp
    rw [e]
    clear e e34 e92
    go_enter Tryz.func115, Tryz.ntmps115
    go_wp2
    go_ret
    exact ⟨rfl, rfl⟩
theorem hex_two (n : Nat) : (hexN 16 n).drop 14 = [digB (n / 16 % 16), digB (n % 16)] := by
  rw [show (16 : Nat) = 14 + 2 from rfl]
  rw [hexN, hexN, List.append_assoc]
  have h := hex_len 14 (n / 16 / 16)
  exact List.drop_left' h
set_option maxRecDepth 100000 in
set_option maxHeartbeats 2000000 in
theorem refHex_any (c : UInt8) (w : World) : Calls Tryz.prog 116 #[.int .u8 (c.toNat : Int)] w fun r w' => r = .returned (.string ⟨#[digB (c.toNat / 16), digB (c.toNat % 16)]⟩) ∧ w = w' := by
  have hc : c.toNat < 256 := UInt8.toNat_lt c
  have HN := Lib.hid (refNumber_any c.toNat w (by omega))
  have hlen := hex_len 16 c.toNat
  have hx : (⟨(hexN 16 c.toNat).toArray⟩ : ByteArray).size = 16 := by
    show (hexN 16 c.toNat).toArray.size = _
    simpa using hlen
  have he : (⟨(hexN 16 c.toNat).toArray⟩ : ByteArray).extract 14 16 = ⟨#[digB (c.toNat / 16), digB (c.toNat % 16)]⟩ := by
    have h := ext_drop (⟨(hexN 16 c.toNat).toArray⟩ : ByteArray) 14
    rw [hx] at h
    rw [h]
    show (⟨((hexN 16 c.toNat).drop 14).toArray⟩ : ByteArray) = _
    rw [hex_two, Nat.mod_eq_of_lt (a := c.toNat / 16) (by omega)]
  have HE := Lib.hid he
  have w1 : IntKind.u64.wrap (c.toNat : Int) = (c.toNat : Int) := by rw [IntKind.wrap_u64]; omega
  clear hlen he
  generalize (⟨(hexN 16 c.toNat).toArray⟩ : ByteArray) = hs at *
  go_enter Tryz.func116, Tryz.ntmps116
  go_wp2_with (go_at_call 134; refine HN.out.mono ?_; rintro r w' ⟨rfl, rfl⟩)
  go_ret
  rw [← HE.out]
  exact ⟨rfl, rfl⟩

theorem esc_plain {c : UInt8} (h : plainR c = true) : escB c = [c] := by
  unfold plainR at h
  simp at h
  unfold escB
  rw [if_neg (by rintro (h1 | h1); exact h.1.2 h1; exact h.2 h1), if_pos h.1.1]
set_option maxRecDepth 100000 in
set_option maxHeartbeats 2000000 in
theorem refInner_any (c : UInt8) (w : World) : Calls Tryz.prog 83 #[.int .u8 (c.toNat : Int)] w fun r w' => r = .returned (.string ⟨(escB c).toArray⟩) ∧ Below w.heap.size w w' := by
  have HP := Lib.hid (refPlain_any c w)
  have HX := Lib.hid (refHex_any c w)
  have e34 : c = 34 ↔ c.toNat = 34 := ⟨fun h => by rw [h]; rfl, fun h => UInt8.toNat_inj.1 h⟩
  have e92 : c = 92 ↔ c.toNat = 92 := ⟨fun h => by rw [h]; rfl, fun h => UInt8.toNat_inj.1 h⟩
  have HB0 := Lib.hid (Below.refl w.heap.size w)
  cases hp : plainR c
  · rw [hp] at HP
    by_cases h3 : c.toNat = 34 ∨ c.toNat = 92
    · have e : escB c = [92, c] := by unfold escB; rw [if_pos (by rw [e34, e92]; exact h3)]
      rw [e]
      have hcv := conv_rd 152 9 5 Tryz.underlying152 Tryz.underlying5 Tryz.underlying9 (c := 2) (n := 2) rfl (Rd.two w 5 92 c)
      have hb : Below w.heap.size w (w.alloc (.cells #[.int .u8 92, .int .u8 (c.toNat : Int)] 5)) := (Below.refl _ _).alloc (Nat.le_refl _) _
      have HB := Lib.hid hb
      rw [show (((92 : UInt8).toNat : Nat) : Int) = 92 from rfl] at hcv
      clear hb e e34 e92 HX
      by_cases h34 : c.toNat = 34
      · have d3 : ((c.toNat : Int) == 34) = true := by rw [beq_iff_eq]; omega
        clear h34 h3
        go_enter Tryz.func83, Tryz.ntmps83
        go_wp2_with (go_at_call 115; refine HP.out.mono ?_; rintro r w' ⟨rfl, rfl⟩)
        go_ret
        exact ⟨rfl, HB.out⟩
      · have d3 : ((c.toNat : Int) == 34) = false := by rw [beq_eq_false_iff_ne]; omega
        have d4 : ((c.toNat : Int) == 92) = true := by rw [beq_iff_eq]; omega
        clear h34 h3
        go_enter Tryz.func83, Tryz.ntmps83
        go_wp2_with (go_at_call 115; refine HP.out.mono ?_; rintro r w' ⟨rfl, rfl⟩)
        go_ret
        exact ⟨rfl, HB.out⟩
    · have d3 : ((c.toNat : Int) == 34) = false := by rw [beq_eq_false_iff_ne]; omega
      have d4 : ((c.toNat : Int) == 92) = false := by rw [beq_eq_false_iff_ne]; omega
      have hout : ¬ (32 ≤ c.toNat ∧ c.toNat ≤ 126) := by
        intro ⟨a, b⟩
        have : plainR c = true := by
          unfold plainR
          rw [decide_eq_true a, decide_eq_true b, decide_eq_true (p := c ≠ 34) (by rw [Ne, e34]; omega), decide_eq_true (p := c ≠ 92) (by rw [Ne, e92]; omega)]
          rfl
        rw [hp] at this
        cases this
      have e : escB c = [92, digB (c.toNat / 16), digB (c.toNat % 16)] := by unfold escB; rw [if_neg (by rw [e34, e92]; exact h3), if_neg hout]
      rw [e]
      generalize digB (c.toNat / 16) = a at *
      generalize digB (c.toNat % 16) = b at *
      clear e e34 e92 hp hout h3
      go_enter Tryz.func83, Tryz.ntmps83
      go_wp2_with (first | (go_at_call 115; refine HP.out.mono ?_; rintro r w' ⟨rfl, rfl⟩) | (go_at_call 116; refine HX.out.mono ?_; rintro r w' ⟨rfl, rfl⟩))
      go_ret
      exact ⟨congrArg (fun z => Ending.returned (Value.string z)) (ba_catT [92] [a, b]), HB0.out⟩
  · rw [hp] at HP
    rw [esc_plain hp]
    have hcv := conv_rd 152 9 5 Tryz.underlying152 Tryz.underlying5 Tryz.underlying9 (c := 1) (n := 1) rfl (Rd.one w 5 (c.toNat : Int) c rfl)
    have hb : Below w.heap.size w (w.alloc (.cells #[.int .u8 (c.toNat : Int)] 5)) := (Below.refl _ _).alloc (Nat.le_refl _) _
    have HB := Lib.hid hb
    clear hb HX e34 e92 hp
    go_enter Tryz.func83, Tryz.ntmps83
    go_wp2_with (go_at_call 115; refine HP.out.mono ?_; rintro r w' ⟨rfl, rfl⟩)
    go_ret
    exact ⟨rfl, HB.out⟩

theorem escBp_len (c : UInt8) : (escB c).length ≤ 3 := by
  unfold escB
  split
  · simp
  · split <;> simp
theorem escLp_append (a b : List UInt8) : escL (a ++ b) = escL a ++ escL b := by simp [escL]
set_option maxRecDepth 100000 in
set_option maxHeartbeats 2000000 in
theorem refPrint4_any : RefPrintC := by
  intro v hr hn w
  obtain ⟨k, n, s⟩ := v
  simp only [V.val]
  have hb0 := box_below w #[.int .i64 k, .int .i64 n, .string s] 42
  rcases right_kind hr with hk | hk | hk
  · simp only at hk
    subst hk
    have HF := Lib.hid (refNum4_any n hn.1 hn.2)
    have HP := Lib.hid (show printV ⟨1, n, s⟩ = intL n from rfl)
    have HB := Lib.hid hb0
    clear hb0 hn hr
    go_enter Tryz.func50, Tryz.ntmps50
    go_wp2_with fail
    refine (HF.out _).mono ?_
    rintro r w1 ⟨rfl, hb⟩
    have HB1 := Lib.hid (HB.out.trans (hb.mono HB.out.size))
    clear hb
    go_wp2_with fail
    go_ret
    rw [HP.out]
    exact ⟨rfl, HB1.out⟩
  · simp only at hk
    subst hk
    have HB := Lib.hid hb0
    have ht := right_truth hr
    clear hb0 hn hr
    rcases ht with rfl | rfl
    · have HP := Lib.hid (show printV ⟨2, 0, s⟩ = [102, 97, 108, 115, 101] from rfl)
      go_enter Tryz.func50, Tryz.ntmps50
      go_wp2
      go_ret
      rw [HP.out]
      exact ⟨rfl, HB.out⟩
    · have HP := Lib.hid (show printV ⟨2, 1, s⟩ = [116, 114, 117, 101] from rfl)
      go_enter Tryz.func50, Tryz.ntmps50
      go_wp2
      go_ret
      rw [HP.out]
      exact ⟨rfl, HB.out⟩
  · simp only at hk
    subst hk
    have hs := (right_text hr rfl).1
    simp only at hs
    have HP := Lib.hid (show printV ⟨3, n, s⟩ = 34 :: (escL s.data.toList ++ [34]) from rfl)
    have HB := Lib.hid hb0
    clear hb0 hn hr
    go_enter Tryz.func50, Tryz.ntmps50
    go_wp2
    go_loopg [3, 32] s.size (fun q x i wr => ∃ j : Nat, j + q = s.size ∧ x = .string ⟨(34 :: escL (s.data.toList.take j)).toArray⟩ ∧ i = .int .i64 (j : Int) ∧ Below (w.heap.size + 1) (w.alloc (.cells #[.int .i64 3, .int .i64 n, .string s] 42)) wr)
    case atStart => exact ⟨0, by omega, rfl, rfl, by simpa using Below.refl _ _⟩
    case round =>
      obtain ⟨j, hkk, rfl, rfl, hb⟩ := hrel
      have HK := Lib.hid hkk
      have HBr := Lib.hid hb
      have c2 := (hb.cell (p := ⟨w.heap.size, 2, none⟩) (Nat.lt_succ_self _)).trans (show _ = some (Value.string s) by simp [go_sem])
      have hlen := escL_len (s.data.toList.take j)
      have hle : (s.data.toList.take j).length ≤ 64 := by rw [List.length_take]; have : s.data.toList.length = s.size := rfl; omega
      by_cases hj : j < s.size
      · have hlt : decide ((j : Int) < (s.size : Int)) = true := by simpa using hj
        have HI := Lib.hid (refInner_any s[j])
        have HT := Lib.hid (show escL (s.data.toList.take (j + 1)) = escL (s.data.toList.take j) ++ escB s[j] by rw [take_snocB s j hj, escLp_append]; simp [escL])
        have hl3 := escBp_len s[j]
        generalize escB s[j] = eb at *
        generalize escL (s.data.toList.take j) = el at *
        have z1 : (⟨(34 :: el).toArray⟩ : ByteArray).size ≤ 1000 := by
          show (34 :: el).toArray.size ≤ _
          simp; omega
        clear hb hkk
        go_wp2_with fail
        refine (HI.out _).mono ?_
        rintro r w1 ⟨rfl, hb1⟩
        have HB1 := Lib.hid (HBr.out.trans (hb1.mono (by simpa using HBr.out.size)))
        clear hb1
        go_wp2_with fail
        go_roundg (gk - 1)
        case measure => have := HK.out; omega
        case rel => exact ⟨j + 1, by have := HK.out; omega, by rw [HT.out]; exact congrArg Value.string (ba_catT (34 :: el) eb), by go_num, HB1.out⟩
      · have hlt : decide ((j : Int) < (s.size : Int)) = false := by simpa using hj
        have hj' : j = s.size := by omega
        have ht : s.data.toList.take j = s.data.toList := List.take_of_length_le (by rw [hj']; exact Nat.le_refl _)
        rw [ht] at hlen hle ⊢
        generalize escL s.data.toList = el at *
        have z1 : (⟨(34 :: el).toArray⟩ : ByteArray).size ≤ 1000 := by
          show (34 :: el).toArray.size ≤ _
          simp; omega
        clear hb hkk hj'
        go_wp2
        go_ret
        rw [HP.out]
        exact ⟨congrArg (fun z => Ending.returned (Value.string z)) (ba_catT (34 :: el) [34]), HB.out.trans (HBr.out.mono (Nat.le_succ _))⟩
end Go.Proofs.YtfpjepeikjfkpaaGreatDoor

/-
  ExprPrints: the text of any terms, or what is wrong with them.
-/
namespace Go.Proofs.YtfpjepeikjfkpaaGreatDoor
open Go.RowKit

theorem refName5_any : RefNameC := fun s w hs => (refName_any s w hs).mono fun _ _ h => h

namespace exprPrints
set_option maxRecDepth 100000 in
set_option maxHeartbeats 4000000 in
theorem walk (l : List TM) (A : Option Addr) (c : Nat) (hl : l.length ≤ maxLen) (hn : ∀ x ∈ l, TermIn x) (w : World) (hr : RowT w 0 w.heap.size A l) (hG : GlobE w) :
    Calls Tryz.prog 4 #[.slice A l.length c] w fun r w' => r = .returned (.bool true) ∧ Below w.heap.size w w' := by
  have hl' : l.length ≤ 9223372036854775807 := hl
  have HL := Lib.hid (fun wx (hb : Below w.heap.size w wx) => liveE_any wx (hG.below hb))
  have HB0 := Lib.hid (Below.refl w.heap.size w)
  have HG := Lib.hid (fun wx hb => hG.below (w' := wx) hb)
  have HR := Lib.hid (fun wx (hb : Below w.heap.size w wx) => ((hr.below hb (Nat.le_refl _)).wide (Nat.le_refl _) hb.size : RowT wx 0 wx.heap.size A l))
  have HF := Lib.hid (fun wx hb => fewT_any l A c 0 wx.heap.size wx hl' (fun x hx => ⟨(hn x hx).2, (hn x hx).1.2.2⟩) (HR.out wx hb) (Nat.le_refl _))
  clear hl hr hG
  cases hf : fewT l
  · rw [hf] at HF
    clear hf hn
    go_enter Tryz.func4, Tryz.ntmps4
    go_wp2_with (first | (go_at_call 9; refine (HF.out _ hb1).mono ?_; rintro r w2 ⟨rfl, hb2'⟩; have hb2 := hb1.trans (hb2'.mono hb1.size)) | (go_at_call 8; (first | (refine (HL.out _ HB0.out).mono ?_; rintro r w1 ⟨rfl, hb1⟩) | (refine (HL.out _ hb2).mono ?_; rintro r w3 ⟨rfl, hb3⟩))))
    go_ret
    exact ⟨rfl, hb2.trans (hb3.mono hb2.size)⟩
  · rw [hf] at HF
    obtain ⟨hs, h100⟩ := fewT_yes hf
    have hnm : ∀ x ∈ l, x.nm.size ≤ 100 ∧ -9223372036854775808 ≤ x.v.n ∧ x.v.n ≤ 9223372036854775807 := fun x hx => ⟨(hs x hx).1, (hn x hx).1.1, (hn x hx).1.2.1⟩
    have HPt := Lib.hid (fun wx hb => dPrint_any l A c hnm (by omega) wx (HR.out wx hb) (HG.out wx hb))
    have HQt := Lib.hid (fun wx hb => printE_any refName5_any refPrint4_any l A c (fun x hx => (hnm x hx).1) (by omega) (small_any hnm) wx (HR.out wx hb))
    simp only [retPrint] at HPt
    clear hf hn hs hnm hl'
    generalize printE l = q at *
    obtain ⟨t, x⟩ := q
    simp only at HPt HQt
    generalize (⟨t.toArray⟩ : ByteArray) = tb at *
    go_enter Tryz.func4, Tryz.ntmps4
    go_wp2_with (first | (go_at_call 8; refine (HL.out _ HB0.out).mono ?_; rintro r w1 ⟨rfl, hb1⟩) | (go_at_call 9; refine (HF.out _ hb1).mono ?_; rintro r w2 ⟨rfl, hb2'⟩; have hb2 := hb1.trans (hb2'.mono hb1.size)) | (go_at_call 17; refine (HPt.out _ hb2).mono ?_; rintro r w3 ⟨rfl, hb3'⟩; have hb3 := hb2.trans (hb3'.mono hb2.size)) | (go_at_call 18; refine (HQt.out _ hb3).mono ?_; rintro r w4 ⟨rfl, hb4'⟩; have hb4 := hb3.trans (hb4'.mono hb3.size)))
    go_ret
    exact ⟨by simp [go_sem], hb4⟩
end exprPrints
end Go.Proofs.YtfpjepeikjfkpaaGreatDoor
