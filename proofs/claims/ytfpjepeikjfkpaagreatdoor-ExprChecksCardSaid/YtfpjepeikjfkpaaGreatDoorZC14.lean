import Derived.Test.YtfpjepeikjfkpaaGreatDoorZC13
import Derived.IntWalk
import Derived.Deep.RegionHeld3
import Derived.Deep.AppendLies
/-
  Package value: Print.
-/
namespace Go.Proofs.YtfpjepeikjfkpaaGreatDoor
open Go.RowKit

def plainB (c : UInt8) : Bool := decide (32 ≤ c.toNat) && decide (c.toNat ≤ 126)
theorem digit_any (c : UInt8) (w : World) : Calls Tryz.prog 99 #[.int .u8 (c.toNat : Int)] w fun r w' => r = .returned (.bool (isNum c)) ∧ w' = w := by
  by_cases h1 : 48 ≤ c.toNat
  · have b1 : decide ((48 : Int) ≤ (c.toNat : Int)) = true := by rw [decide_eq_true_iff]; omega
    by_cases h2 : c.toNat ≤ 57
    · have b2 : decide ((c.toNat : Int) ≤ 57) = true := by rw [decide_eq_true_iff]; omega
      have HL := Lib.hid (show isNum c = true by simp [isNum, h1, h2])
      go_enter Tryz.func99, Tryz.ntmps99
      go_wp2
      go_ret
      exact ⟨by rw [HL.out]; rfl, rfl⟩
    · have b2 : decide ((c.toNat : Int) ≤ 57) = false := by rw [decide_eq_false_iff_not]; omega
      have HL := Lib.hid (show isNum c = false by simp [isNum, h2])
      go_enter Tryz.func99, Tryz.ntmps99
      go_wp2
      go_ret
      exact ⟨by rw [HL.out]; rfl, rfl⟩
  · have b1 : decide ((48 : Int) ≤ (c.toNat : Int)) = false := by rw [decide_eq_false_iff_not]; omega
    have HL := Lib.hid (show isNum c = false by simp [isNum, h1])
    go_enter Tryz.func99, Tryz.ntmps99
    go_wp2
    go_ret
    exact ⟨by rw [HL.out]; rfl, rfl⟩
theorem plain_any (c : UInt8) (w : World) : Calls Tryz.prog 124 #[.int .u8 (c.toNat : Int)] w fun r w' => r = .returned (.bool (plainB c)) ∧ w' = w := by
  by_cases h1 : 32 ≤ c.toNat
  · have b1 : decide ((32 : Int) ≤ (c.toNat : Int)) = true := by rw [decide_eq_true_iff]; omega
    by_cases h2 : c.toNat ≤ 126
    · have b2 : decide ((c.toNat : Int) ≤ 126) = true := by rw [decide_eq_true_iff]; omega
      have HL := Lib.hid (show plainB c = true by simp [plainB, h1, h2])
      go_enter Tryz.func124, Tryz.ntmps124
      go_wp2
      go_ret
      exact ⟨by rw [HL.out]; rfl, rfl⟩
    · have b2 : decide ((c.toNat : Int) ≤ 126) = false := by rw [decide_eq_false_iff_not]; omega
      have HL := Lib.hid (show plainB c = false by simp [plainB, h2])
      go_enter Tryz.func124, Tryz.ntmps124
      go_wp2
      go_ret
      exact ⟨by rw [HL.out]; rfl, rfl⟩
  · have b1 : decide ((32 : Int) ≤ (c.toNat : Int)) = false := by rw [decide_eq_false_iff_not]; omega
    have HL := Lib.hid (show plainB c = false by simp [plainB, h1])
    go_enter Tryz.func124, Tryz.ntmps124
    go_wp2
    go_ret
    exact ⟨by rw [HL.out]; rfl, rfl⟩
theorem look8_0 (w : World) : (Instr.index 9 (.string ⟨#[48, 49, 50, 51, 52, 53, 54, 55, 56, 57, 97, 98, 99, 100, 101, 102]⟩) (.int .u8 0)).run Tryz.prog w = .ok (.int .u8 48) w := by kernel_rfl
theorem look8_1 (w : World) : (Instr.index 9 (.string ⟨#[48, 49, 50, 51, 52, 53, 54, 55, 56, 57, 97, 98, 99, 100, 101, 102]⟩) (.int .u8 1)).run Tryz.prog w = .ok (.int .u8 49) w := by kernel_rfl
theorem look8_2 (w : World) : (Instr.index 9 (.string ⟨#[48, 49, 50, 51, 52, 53, 54, 55, 56, 57, 97, 98, 99, 100, 101, 102]⟩) (.int .u8 2)).run Tryz.prog w = .ok (.int .u8 50) w := by kernel_rfl
theorem look8_3 (w : World) : (Instr.index 9 (.string ⟨#[48, 49, 50, 51, 52, 53, 54, 55, 56, 57, 97, 98, 99, 100, 101, 102]⟩) (.int .u8 3)).run Tryz.prog w = .ok (.int .u8 51) w := by kernel_rfl
theorem look8_4 (w : World) : (Instr.index 9 (.string ⟨#[48, 49, 50, 51, 52, 53, 54, 55, 56, 57, 97, 98, 99, 100, 101, 102]⟩) (.int .u8 4)).run Tryz.prog w = .ok (.int .u8 52) w := by kernel_rfl
theorem look8_5 (w : World) : (Instr.index 9 (.string ⟨#[48, 49, 50, 51, 52, 53, 54, 55, 56, 57, 97, 98, 99, 100, 101, 102]⟩) (.int .u8 5)).run Tryz.prog w = .ok (.int .u8 53) w := by kernel_rfl
theorem look8_6 (w : World) : (Instr.index 9 (.string ⟨#[48, 49, 50, 51, 52, 53, 54, 55, 56, 57, 97, 98, 99, 100, 101, 102]⟩) (.int .u8 6)).run Tryz.prog w = .ok (.int .u8 54) w := by kernel_rfl
theorem look8_7 (w : World) : (Instr.index 9 (.string ⟨#[48, 49, 50, 51, 52, 53, 54, 55, 56, 57, 97, 98, 99, 100, 101, 102]⟩) (.int .u8 7)).run Tryz.prog w = .ok (.int .u8 55) w := by kernel_rfl
theorem look8_8 (w : World) : (Instr.index 9 (.string ⟨#[48, 49, 50, 51, 52, 53, 54, 55, 56, 57, 97, 98, 99, 100, 101, 102]⟩) (.int .u8 8)).run Tryz.prog w = .ok (.int .u8 56) w := by kernel_rfl
theorem look8_9 (w : World) : (Instr.index 9 (.string ⟨#[48, 49, 50, 51, 52, 53, 54, 55, 56, 57, 97, 98, 99, 100, 101, 102]⟩) (.int .u8 9)).run Tryz.prog w = .ok (.int .u8 57) w := by kernel_rfl
theorem look8_10 (w : World) : (Instr.index 9 (.string ⟨#[48, 49, 50, 51, 52, 53, 54, 55, 56, 57, 97, 98, 99, 100, 101, 102]⟩) (.int .u8 10)).run Tryz.prog w = .ok (.int .u8 97) w := by kernel_rfl
theorem look8_11 (w : World) : (Instr.index 9 (.string ⟨#[48, 49, 50, 51, 52, 53, 54, 55, 56, 57, 97, 98, 99, 100, 101, 102]⟩) (.int .u8 11)).run Tryz.prog w = .ok (.int .u8 98) w := by kernel_rfl
theorem look8_12 (w : World) : (Instr.index 9 (.string ⟨#[48, 49, 50, 51, 52, 53, 54, 55, 56, 57, 97, 98, 99, 100, 101, 102]⟩) (.int .u8 12)).run Tryz.prog w = .ok (.int .u8 99) w := by kernel_rfl
theorem look8_13 (w : World) : (Instr.index 9 (.string ⟨#[48, 49, 50, 51, 52, 53, 54, 55, 56, 57, 97, 98, 99, 100, 101, 102]⟩) (.int .u8 13)).run Tryz.prog w = .ok (.int .u8 100) w := by kernel_rfl
theorem look8_14 (w : World) : (Instr.index 9 (.string ⟨#[48, 49, 50, 51, 52, 53, 54, 55, 56, 57, 97, 98, 99, 100, 101, 102]⟩) (.int .u8 14)).run Tryz.prog w = .ok (.int .u8 101) w := by kernel_rfl
theorem look8_15 (w : World) : (Instr.index 9 (.string ⟨#[48, 49, 50, 51, 52, 53, 54, 55, 56, 57, 97, 98, 99, 100, 101, 102]⟩) (.int .u8 15)).run Tryz.prog w = .ok (.int .u8 102) w := by kernel_rfl
theorem look8 (w : World) : ∀ (d : Nat), d < 16 → (Instr.index 9 (.string ⟨#[48, 49, 50, 51, 52, 53, 54, 55, 56, 57, 97, 98, 99, 100, 101, 102]⟩) (.int .u8 (d : Int))).run Tryz.prog w = .ok (.int .u8 ((digB d).toNat : Int)) w
  | 0, _ => look8_0 w
  | 1, _ => look8_1 w
  | 2, _ => look8_2 w
  | 3, _ => look8_3 w
  | 4, _ => look8_4 w
  | 5, _ => look8_5 w
  | 6, _ => look8_6 w
  | 7, _ => look8_7 w
  | 8, _ => look8_8 w
  | 9, _ => look8_9 w
  | 10, _ => look8_10 w
  | 11, _ => look8_11 w
  | 12, _ => look8_12 w
  | 13, _ => look8_13 w
  | 14, _ => look8_14 w
  | 15, _ => look8_15 w
  | n + 16, h => absurd h (by omega)

/-- A new block of some bytes. -/
theorem Rd.lits (w : World) (e : TypeId) (l : List UInt8) : Rd (w.alloc (.cells (bvs l).toArray e)) w.heap.size (w.heap.size + 1) (some ⟨w.heap.size, 0, none⟩) l := fun _ => by
  refine ⟨w.heap.size, 0, rfl, Nat.le_refl _, by omega, fun j hj => ?_⟩
  rw [cell_of_row _ w.heap.size _ _ e (0, 0) (heap_alloc_new w _)]
  simp [bvs, hj]
theorem news_lits (w : World) (e : TypeId) (l : List UInt8) : ∀ j u, (bvs l)[j]? = some u → (w.alloc (.cells (bvs l).toArray e)).cell? ((⟨w.heap.size, 0, none⟩ : Addr).add j) = some u := fun j u hu => by
  rw [addr_add, Nat.zero_add, cell_of_row _ w.heap.size _ _ e (0, 0) (heap_alloc_new w _)]
  simpa using hu
theorem escL_take (s : ByteArray) (j : Nat) (h : j < s.size) : escL (s.data.toList.take (j + 1)) = escL (s.data.toList.take j) ++ escB s[j] := by
  have hj : j < s.data.toList.length := h
  rw [List.take_succ_eq_append_getElem hj]
  simp [escL]
  rfl
theorem escL_take_len (s : ByteArray) (j : Nat) : (escL (s.data.toList.take j)).length ≤ 3 * s.size := by
  have h1 := escL_len (s.data.toList.take j)
  have h2 : (s.data.toList.take j).length ≤ s.size := by rw [List.length_take]; exact Nat.min_le_right _ _
  omega

set_option maxRecDepth 100000 in
set_option maxHeartbeats 4000000 in
theorem quoted_any (s : ByteArray) (hs : s.size ≤ 64) (w : World) :
    Calls Tryz.prog 97 #[.string s] w fun r w' => r = .returned (.string ⟨(34 :: (escL s.data.toList ++ [34])).toArray⟩) ∧ Below w.heap.size w w' := by
  obtain ⟨i0, hi, hz0, hz1, hz2⟩ := info_parts info_byte
  have hw1 : Below w.heap.size w (w.alloc (.cells #[.int .u8 34] 5)) := box_below _ _ _
  have hown0 : (w.alloc (.cells #[.int .u8 34] 5)).ownsRow w.heap.size 5 1 (.slice (some ⟨w.heap.size, 0, none⟩) 1 1) 1 (bvs [34]) := ⟨rfl, .inr ⟨w.heap.size, 1, #[.int .u8 34], rfl, Nat.le_refl _, heap_alloc_new w _, Nat.le_refl _, by unfold maxLen; omega, rfl, rfl⟩⟩
  go_enter Tryz.func97, Tryz.ntmps97
  go_wp2
  go_loopw [3, 9] (fun v i wr => ∃ j : Nat, j ≤ s.size ∧ i = .int .i64 j ∧ (∃ n, wr.ownsRow w.heap.size 5 1 v n (bvs (34 :: escL (s.data.toList.take j)))) ∧ Below w.heap.size w wr) (fun _ i _ => s.size - (intOf i).toNat)
  case atStart => exact ⟨0, Nat.zero_le _, rfl, ⟨1, hown0⟩, hw1⟩
  case round =>
    clear hown0 hw1
    obtain ⟨j, hj, rfl, ⟨n, hown⟩, hb⟩ := hrel
    have hbs := hb.size
    have hel := escL_take_len s j
    by_cases hlt : j < s.size
    · have hlt2 : decide ((j : Int) < (s.size : Int)) = true := by simpa using hlt
      have HE := Lib.hid (escL_take s j hlt)
      have hcl := s[j].toNat_lt
      have hcat : ∀ m : List UInt8, escB s[j] = m → bvs ((34 :: escL (s.data.toList.take j)) ++ m) = bvs (34 :: escL (s.data.toList.take (j + 1))) := fun m hm => by rw [HE.out, hm]; rfl
      have HC := Lib.hid hcat
      clear hcat
      generalize hc : s[j] = c at *
      by_cases hq : c = 34 ∨ c = 92
      · have HX := Lib.hid (HC.out [92, c] (if_pos hq))
        have key : (((c.toNat : Int) == 34) = true ∧ True) ∨ (((c.toNat : Int) == 34) = false ∧ ((c.toNat : Int) == 92) = true) := by
          rcases hq with rfl | rfl
          · exact .inl ⟨rfl, trivial⟩
          · exact .inr ⟨rfl, rfl⟩
        clear hq
        rcases key with ⟨k1, k2⟩ | ⟨k1, k2⟩
        all_goals
          go_wp2_with (at_builtin; refine append_rd _ rfl _ _ 152 rfl w.heap.size 5 i0 (.int .u8 0) Tryz.underlying152 hi hz0 hz1 hz2 rfl _ _ _ rfl (hown.alloc _) _ _ _ 2 _ [92, c] rfl rfl (by intro h; cases h) (Rd.lits _ _ _) (by simp; omega) (by simp; omega) ?_; intro v' w1 hown' hgrow)
          have hb' : Below w.heap.size w w1 := (hb.alloc hbs _).grown hgrow (by simp; omega) (fun g hg => (hown.lt g hg).1)
          rw [HX.out] at hown'
          clear hown hgrow hb
          go_wp2
          go_roundw
          case rel => exact ⟨j + 1, by omega, by go_num, ⟨_, hown'⟩, hb'⟩
          case measure => simp [intOf]; omega
      · have k1 : ((c.toNat : Int) == 34) = false := v8_ne (n := 34) (by omega) (fun h => hq (.inl h))
        have k2 : ((c.toNat : Int) == 92) = false := v8_ne (n := 92) (by omega) (fun h => hq (.inr h))
        have HPl := Lib.hid (plain_any c)
        cases hp : plainB c
        · have hnp : ¬ (32 ≤ c.toNat ∧ c.toNat ≤ 126) := by
            intro h
            unfold plainB at hp
            simp [h.1, h.2] at hp
          have HX := Lib.hid (HC.out [92, digB (c.toNat / 16), digB (c.toNat % 16)] (by unfold escB; rw [if_neg hq, if_neg hnp]))
          rw [hp] at HPl
          have l1 : ∀ w, (Instr.index 9 (.string ⟨#[48, 49, 50, 51, 52, 53, 54, 55, 56, 57, 97, 98, 99, 100, 101, 102]⟩) (.int .u8 ((c.toNat : Int) / 16))).run Tryz.prog w = .ok (.int .u8 ((digB (c.toNat / 16)).toNat : Int)) w := fun w => look8 w (c.toNat / 16) (by omega)
          have l2 : ∀ w, (Instr.index 9 (.string ⟨#[48, 49, 50, 51, 52, 53, 54, 55, 56, 57, 97, 98, 99, 100, 101, 102]⟩) (.int .u8 ((c.toNat : Int) % 16))).run Tryz.prog w = .ok (.int .u8 ((digB (c.toNat % 16)).toNat : Int)) w := fun w => look8 w (c.toNat % 16) (by omega)
          have q1 : IntKind.u8.wrap ((c.toNat : Int) / 16) = (c.toNat : Int) / 16 := by rw [← IntWalk.u8_quo (c.toNat : Int) 16 (by omega)]; exact (by rw [IntWalk.u8_quo (c.toNat : Int) 16 (by omega)]; exact IntWalk.u8_in _ (by omega))
          have q2 : ((c.toNat : Int)).tmod 16 = (c.toNat : Int) % 16 := Int.tmod_eq_emod_of_nonneg (by omega)
          clear hq hnp hp
          go_upto_region 6 with (go_at_call 124; refine (HPl.out _).mono ?_; rintro r w' ⟨rfl, rfl⟩)
          have hnl : n ≤ 1000 := by have := hown.1; rw [bvs_length, List.length_cons] at this; omega
          go_region_held3 (fun _ => True) (trivial) ((refine step_append_lies _ (by rfl) _ _ 152 (by rfl) w.heap.size 5 i0 (.int .u8 0) 1 1 Tryz.underlying152 hi hz0 hz1 hz2 rfl (by omega) _ n (bvs (34 :: escL (s.data.toList.take j))) (by rfl) (by first | exact hown.drew.alloc _ | exact (hown.alloc _).drew) ⟨w'.heap.size, 0, none⟩ 3 3 (bvs [92, digB (c.toNat / 16), digB (c.toNat % 16)]) (by rfl) (by rfl) (news_lits _ _ _) (bvs_one _) (by omega) (by unfold maxLen; omega) (by omega) (by simp; omega) _ rfl ?_; intro g cap w1 hown' hgrow hat hlt'))
          all_goals
            have hb' : Below w.heap.size w w1 := (Below.alloc hb.drew hbs _).grown hgrow (by simp; omega) (fun g hg => (hown.lt g hg).1)
            rw [← bvs_append, HX.out] at hown'
            clear hown hgrow hb
            go_wp2
            go_roundw
            case rel => exact ⟨j + 1, by omega, by go_num, ⟨_, hown'⟩, hb'⟩
            case measure => simp [intOf]; omega
        · have HX := Lib.hid (HC.out [c] (by
            unfold escB
            rw [if_neg hq, if_pos (by simpa [plainB] using hp)]))
          rw [hp] at HPl
          clear hq hp
          go_wp2_with (first
            | (go_at_call 124; refine (HPl.out _).mono ?_; rintro r w' ⟨rfl, rfl⟩)
            | (at_builtin; refine append_rd _ rfl _ _ 152 rfl w.heap.size 5 i0 (.int .u8 0) Tryz.underlying152 hi hz0 hz1 hz2 rfl _ _ _ rfl (hown.alloc _) _ _ _ 1 _ [c] rfl rfl (by intro h; cases h) (Rd.lits _ _ _) (by simp; omega) (by simp; omega) ?_; intro v' w1 hown' hgrow))
          have hb' : Below w.heap.size w w1 := (hb.alloc hbs _).grown hgrow (by simp; omega) (fun g hg => (hown.lt g hg).1)
          rw [HX.out] at hown'
          clear hown hgrow hb
          go_wp2
          go_roundw
          case rel => exact ⟨j + 1, by omega, by go_num, ⟨_, hown'⟩, hb'⟩
          case measure => simp [intOf]; omega
    · have hlt2 : decide ((j : Int) < (s.size : Int)) = false := by simpa using hlt
      have hjs : s.data.toList.take j = s.data.toList := List.take_of_length_le (by show s.size ≤ j; omega)
      rw [hjs] at hown hel
      go_wp2_with (at_builtin; refine append_rd _ rfl _ _ 152 rfl w.heap.size 5 i0 (.int .u8 0) Tryz.underlying152 hi hz0 hz1 hz2 rfl _ _ _ rfl (hown.alloc _) _ _ _ 1 _ [34] rfl rfl (by intro h; cases h) (Rd.lits _ _ _) (by simp; omega) (by simp; omega) ?_; intro v' w1 hown' hgrow; obtain ⟨A, cc, rfl⟩ := own_slice hown'; obtain ⟨hn, _, _, _, hr⟩ := Rd.own hown'; have hcv := conv_rd (P := Tryz.prog) (w := w1) (c := cc) (n := (escL s.data.toList).length + 1 + 1) 152 9 5 Tryz.underlying152 Tryz.underlying5 Tryz.underlying9 (by simp) hr)
      have hb' : Below w.heap.size w w1 := (hb.alloc hbs _).grown hgrow (by simp; omega) (fun g hg => (hown.lt g hg).1)
      go_ret
      exact ⟨rfl, hb'⟩
end Go.Proofs.YtfpjepeikjfkpaaGreatDoor

/-
  Package value: Print; and what Parse asks of texts.
-/
namespace Go.Proofs.YtfpjepeikjfkpaaGreatDoor
open Go.RowKit

theorem right_truth {n : Int} {s : ByteArray} (h : rightV ⟨2, n, s⟩ = 0) : n = 0 ∨ n = 1 := by
  unfold rightV at h
  rw [if_neg (by simp), if_neg (by simp)] at h
  split at h
  · cases h
  · next h1 =>
    simp at h1
    omega

set_option maxRecDepth 100000 in
set_option maxHeartbeats 1000000 in
theorem vPrint_any : PrintC := by
  intro v w hT hr h0 h1
  obtain ⟨k, n, s⟩ := v
  show Calls Tryz.prog 56 #[.agg #[.int .i64 k, .int .i64 n, .string s]] w _
  simp only at h0 h1 hT
  have hb0 := box_below w #[.int .i64 k, .int .i64 n, .string s] 42
  rcases right_kind hr with hk | hk | hk
  · simp only at hk
    subst hk
    have HF := Lib.hid (format_any n h0 h1 _ ((hT rfl).below hb0))
    have HP := Lib.hid (show printV ⟨1, n, s⟩ = intL n from rfl)
    have HB := Lib.hid hb0
    clear hb0 hT
    go_enter Tryz.func56, Tryz.ntmps56
    go_wp2_with fail
    refine HF.out.mono ?_
    rintro r w1 ⟨rfl, hb⟩
    have HB1 := Lib.hid (HB.out.trans (hb.mono HB.out.size))
    clear hb
    go_wp2_with fail
    go_ret
    rw [HP.out]
    exact ⟨rfl, HB1.out⟩
  · simp only at hk
    subst hk
    have HB := Lib.hid hb0
    clear hb0 hT
    rcases right_truth hr with rfl | rfl
    · have HP := Lib.hid (show printV ⟨2, 0, s⟩ = [102, 97, 108, 115, 101] from rfl)
      go_enter Tryz.func56, Tryz.ntmps56
      go_wp2
      go_ret
      rw [HP.out]
      exact ⟨rfl, HB.out⟩
    · have HP := Lib.hid (show printV ⟨2, 1, s⟩ = [116, 114, 117, 101] from rfl)
      go_enter Tryz.func56, Tryz.ntmps56
      go_wp2
      go_ret
      rw [HP.out]
      exact ⟨rfl, HB.out⟩
  · simp only at hk
    subst hk
    have hs := (right_text hr rfl).1
    simp only at hs
    have HQ := Lib.hid (quoted_any s hs (w.alloc (.cells #[.int .i64 3, .int .i64 n, .string s] 42)))
    have HP := Lib.hid (show printV ⟨3, n, s⟩ = 34 :: (escL s.data.toList ++ [34]) from rfl)
    have HB := Lib.hid hb0
    clear hb0 hT
    go_enter Tryz.func56, Tryz.ntmps56
    go_wp2_with fail
    refine HQ.out.mono ?_
    rintro r w1 ⟨rfl, hb⟩
    have HB1 := Lib.hid (HB.out.trans (hb.mono HB.out.size))
    clear hb
    go_wp2_with fail
    go_ret
    rw [HP.out]
    exact ⟨rfl, HB1.out⟩

/-! ### texts -/
theorem ext_drop (s : ByteArray) (k : Nat) : s.extract k s.size = ⟨(s.data.toList.drop k).toArray⟩ := by
  apply ByteArray.ext
  rw [ByteArray.data_extract]
  apply Array.toList_inj.1
  rw [Array.toList_extract]
  show List.extract _ _ _ = _
  unfold List.extract
  have : s.data.size = s.data.toList.length := (Array.length_toList).symm
  rw [show s.size = s.data.toList.length from rfl, List.take_of_length_le (by rw [List.length_drop]; omega)]
theorem ext_take (s : ByteArray) (k : Nat) : s.extract 0 k = ⟨(s.data.toList.take k).toArray⟩ := by
  apply ByteArray.ext
  rw [ByteArray.data_extract]
  apply Array.toList_inj.1
  rw [Array.toList_extract]
  show List.extract _ _ _ = _
  unfold List.extract
  simp

theorem pre_yes (s p : ByteArray) (r : List UInt8) (hs : s.data.toList = p.data.toList ++ r) (hn : s.size ≤ 4611686018427387904) (w : World) :
    Calls Tryz.prog 127 #[.string s, .string p] w fun e w' => e = .returned (.bool true) ∧ w' = w := by
  have hl : s.size = p.size + r.length := by
    show s.data.toList.length = p.data.toList.length + r.length
    rw [hs, List.length_append]
  have b1 : decide ((p.size : Int) ≤ (s.size : Int)) = true := by rw [decide_eq_true_iff]; omega
  have hpi : (p.size : Int) ≤ (s.size : Int) := by omega
  have he : s.extract 0 p.size = p := by
    rw [ext_take, hs]
    apply ba_list
    simp only [List.toList_toArray]
    exact List.take_left
  clear hl hs
  go_enter Tryz.func127, Tryz.ntmps127
  go_wp2
  go_ret
  exact ⟨by simp, rfl⟩
theorem pre_no (s p : ByteArray) (hs : s.data.toList.take p.size ≠ p.data.toList) (hn : s.size ≤ 4611686018427387904) (w : World) :
    Calls Tryz.prog 127 #[.string s, .string p] w fun e w' => e = .returned (.bool false) ∧ w' = w := by
  have he : ((s.extract 0 p.size).toList == p.toList) = false := by
    rw [beq_eq_false_iff_ne, ByteArray.toList_eq, ByteArray.toList_eq, ext_take]
    exact hs
  clear hs
  by_cases hl : p.size ≤ s.size
  · have b1 : decide ((p.size : Int) ≤ (s.size : Int)) = true := by rw [decide_eq_true_iff]; omega
    have hpi : (p.size : Int) ≤ (s.size : Int) := by omega
    go_enter Tryz.func127, Tryz.ntmps127
    go_wp2
    go_ret
    exact ⟨by simp [he], rfl⟩
  · have b1 : decide ((p.size : Int) ≤ (s.size : Int)) = false := by rw [decide_eq_false_iff_not]; omega
    go_enter Tryz.func127, Tryz.ntmps127
    go_wp2
    go_ret
    exact ⟨rfl, rfl⟩
theorem has_yes (s p : ByteArray) (r : List UInt8) (hs : s.data.toList = p.data.toList ++ r) (hn : s.size ≤ 4611686018427387904) (w : World) :
    Calls Tryz.prog 101 #[.string s, .string p] w fun e w' => e = .returned (.bool true) ∧ w' = w := by
  have H := Lib.hid (pre_yes s p r hs hn w)
  clear hs
  go_enter Tryz.func101, Tryz.ntmps101
  go_wp2_with (go_at_call 127; refine H.out.mono ?_; rintro r w' ⟨rfl, rfl⟩)
  go_ret
  exact ⟨rfl, rfl⟩
theorem has_no (s p : ByteArray) (hs : s.data.toList.take p.size ≠ p.data.toList) (hn : s.size ≤ 4611686018427387904) (w : World) :
    Calls Tryz.prog 101 #[.string s, .string p] w fun e w' => e = .returned (.bool false) ∧ w' = w := by
  have H := Lib.hid (pre_no s p hs hn w)
  clear hs
  go_enter Tryz.func101, Tryz.ntmps101
  go_wp2_with (go_at_call 127; refine H.out.mono ?_; rintro r w' ⟨rfl, rfl⟩)
  go_ret
  exact ⟨rfl, rfl⟩
theorem trim_yes (s p : ByteArray) (r : List UInt8) (hs : s.data.toList = p.data.toList ++ r) (hn : s.size ≤ 4611686018427387904) (w : World) :
    Calls Tryz.prog 98 #[.string s, .string p] w fun e w' => e = .returned (.string ⟨r.toArray⟩) ∧ w' = w := by
  have H := Lib.hid (pre_yes s p r hs hn w)
  have he : s.extract p.size s.size = ⟨r.toArray⟩ := by
    rw [ext_drop, hs]
    congr 2
    exact List.drop_left
  have hl : s.size = p.size + r.length := by
    show s.data.toList.length = p.data.toList.length + r.length
    rw [hs, List.length_append]
  have hpi : (p.size : Int) ≤ (s.size : Int) := by omega
  have HE := Lib.hid he
  clear hs hl he
  have H2 : Hid (Calls Tryz.prog 125 #[.string s, .string p] w fun e w' => e = .returned (.string (s.extract p.size s.size)) ∧ w' = w) := Lib.hid (by
    go_enter Tryz.func125, Tryz.ntmps125
    go_wp2_with (go_at_call 127; refine H.out.mono ?_; rintro r w' ⟨rfl, rfl⟩)
    go_ret
    exact ⟨rfl, rfl⟩)
  go_enter Tryz.func98, Tryz.ntmps98
  go_wp2_with (go_at_call 125; refine H2.out.mono ?_; rintro r w' ⟨rfl, rfl⟩)
  go_ret
  rw [HE.out]
  exact ⟨rfl, rfl⟩
theorem trim_no (s p : ByteArray) (hs : s.data.toList.take p.size ≠ p.data.toList) (hn : s.size ≤ 4611686018427387904) (w : World) :
    Calls Tryz.prog 98 #[.string s, .string p] w fun e w' => e = .returned (.string s) ∧ w' = w := by
  have H := Lib.hid (pre_no s p hs hn w)
  clear hs
  have H2 : Hid (Calls Tryz.prog 125 #[.string s, .string p] w fun e w' => e = .returned (.string s) ∧ w' = w) := Lib.hid (by
    go_enter Tryz.func125, Tryz.ntmps125
    go_wp2_with (go_at_call 127; refine H.out.mono ?_; rintro r w' ⟨rfl, rfl⟩)
    go_ret
    exact ⟨rfl, rfl⟩)
  go_enter Tryz.func98, Tryz.ntmps98
  go_wp2_with (go_at_call 125; refine H2.out.mono ?_; rintro r w' ⟨rfl, rfl⟩)
  go_ret
  exact ⟨rfl, rfl⟩
theorem cut_yes (s p : ByteArray) (r : List UInt8) (hs : s.data.toList = p.data.toList ++ r) (hn : s.size ≤ 4611686018427387904) (w : World) :
    Calls Tryz.prog 129 #[.string s, .string p] w fun e w' => e = .returned (.tuple #[.string ⟨r.toArray⟩, .bool true]) ∧ w' = w := by
  have H := Lib.hid (pre_yes s p r hs hn w)
  have he : s.extract p.size s.size = ⟨r.toArray⟩ := by
    rw [ext_drop, hs]
    congr 2
    exact List.drop_left
  have hl : s.size = p.size + r.length := by
    show s.data.toList.length = p.data.toList.length + r.length
    rw [hs, List.length_append]
  have hpi : (p.size : Int) ≤ (s.size : Int) := by omega
  have HE := Lib.hid he
  clear hs hl he
  have H2 : Hid (Calls Tryz.prog 139 #[.string s, .string p] w fun e w' => e = .returned (.tuple #[.string (s.extract p.size s.size), .bool true]) ∧ w' = w) := Lib.hid (by
    go_enter Tryz.func139, Tryz.ntmps139
    go_wp2_with (go_at_call 127; refine H.out.mono ?_; rintro r w' ⟨rfl, rfl⟩)
    go_ret2
    exact ⟨rfl, rfl⟩)
  rw [HE.out] at H2
  go_enter Tryz.func129, Tryz.ntmps129
  go_wp2_with (go_at_call 139; refine H2.out.mono ?_; rintro r w' ⟨rfl, rfl⟩)
  go_ret2
  exact ⟨rfl, rfl⟩
theorem cut_no (s p : ByteArray) (hs : s.data.toList.take p.size ≠ p.data.toList) (hn : s.size ≤ 4611686018427387904) (w : World) :
    Calls Tryz.prog 129 #[.string s, .string p] w fun e w' => e = .returned (.tuple #[.string s, .bool false]) ∧ w' = w := by
  have H := Lib.hid (pre_no s p hs hn w)
  clear hs
  have H2 : Hid (Calls Tryz.prog 139 #[.string s, .string p] w fun e w' => e = .returned (.tuple #[.string s, .bool false]) ∧ w' = w) := Lib.hid (by
    go_enter Tryz.func139, Tryz.ntmps139
    go_wp2_with (go_at_call 127; refine H.out.mono ?_; rintro r w' ⟨rfl, rfl⟩)
    go_ret2
    exact ⟨rfl, rfl⟩)
  go_enter Tryz.func129, Tryz.ntmps129
  go_wp2_with (go_at_call 139; refine H2.out.mono ?_; rintro r w' ⟨rfl, rfl⟩)
  go_ret2
  exact ⟨rfl, rfl⟩
end Go.Proofs.YtfpjepeikjfkpaaGreatDoor
