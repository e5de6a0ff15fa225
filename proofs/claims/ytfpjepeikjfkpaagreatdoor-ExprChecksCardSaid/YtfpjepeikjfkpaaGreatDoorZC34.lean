import Derived.Test.YtfpjepeikjfkpaaGreatDoorZC33
import Derived.Test.YtfpjepeikjfkpaaGreatDoorZC06
import Derived.Test.YtfpjepeikjfkpaaGreatDoorZC28
import Derived.Test.YtfpjepeikjfkpaaGreatDoorZC27
/-
  The examples of the statements on expressions.
-/
namespace Go.Proofs.YtfpjepeikjfkpaaGreatDoor
open Go.RowKit

def opsE : List TM ⊕ (Int × Option Nat) → List Int
  | .inl o => o.map (·.op)
  | .inr _ => []
theorem live_a : opsE (parseE [97, 32, 43, 32, 50, 32, 42, 32, 98]) = [1, 0, 1, 6, 9] := by kernel_rfl
theorem live_b : parseE [49, 32, 43] = .inr (6, some 3) := by kernel_rfl
theorem live_c : placeW 3 = ⟨#[97, 116, 32, 51]⟩ := by
  unfold placeW
  rw [natL_small (by decide)]
  rfl
theorem live_d : ∃ o, parseE [97, 32, 43, 32, 50, 32, 42, 32, 98] = .inl o ∧ ∃ t0 t1 t2 t3 t4, o = [t0, t1, t2, t3, t4] ∧ t3.op = 6 ∧ t4.op = 9 := by
  have h := live_a
  cases hp : parseE [97, 32, 43, 32, 50, 32, 42, 32, 98] with
  | inr e => rw [hp] at h; cases h
  | inl o =>
    rw [hp] at h
    refine ⟨o, rfl, ?_⟩
    have h : o.map (·.op) = [1, 0, 1, 6, 9] := h
    match o, h with
    | [t0, t1, t2, t3, t4], h =>
      simp only [List.map_cons, List.map_nil, List.cons.injEq] at h
      exact ⟨t0, t1, t2, t3, t4, rfl, h.2.2.2.1, h.2.2.2.2.1⟩

set_option maxRecDepth 100000 in
set_option maxHeartbeats 4000000 in
theorem liveE_any (w : World) (hG : GlobE w) : Calls Tryz.prog 8 #[] w fun r w' => r = .returned (.bool true) ∧ Below w.heap.size w w' := by
  obtain ⟨o, ho, t0, t1, t2, t3, t4, rfl, h3, h4⟩ := live_d
  have HA := Lib.hid (dParse_any ⟨#[97, 32, 43, 32, 50, 32, 42, 32, 98]⟩ (by decide) w hG)
  rw [show (⟨#[97, 32, 43, 32, 50, 32, 42, 32, 98]⟩ : ByteArray).data.toList = [97, 32, 43, 32, 50, 32, 42, 32, 98] from rfl, ho] at HA
  have HG := Lib.hid hG
  clear ho hG
  go_enter Tryz.func8, Tryz.ntmps8
  go_wp2_with fail
  refine HA.out.mono ?_
  rintro r w1 ⟨hb1, A, c, rfl, hrow⟩
  have HB1 := Lib.hid hb1
  have HR1 := Lib.hid hrow
  have HBt := Lib.hid (dParse_any ⟨#[49, 32, 43]⟩ (by decide) w1 (HG.out.below hb1))
  rw [show (⟨#[49, 32, 43]⟩ : ByteArray).data.toList = [49, 32, 43] from rfl, live_b] at HBt
  clear hb1 hrow
  go_wp2_with fail
  refine HBt.out.mono ?_
  rintro r w2 ⟨hb2, v, rfl, hE⟩
  have HB2 := Lib.hid (HB1.out.trans (hb2.mono HB1.out.size))
  have HB12 := Lib.hid hb2
  have hE' : Err w2 w2.heap.size (End.num 6) [⟨#[97, 116, 32, 51]⟩] v := by
    have h : Err w2 w2.heap.size (End.num 6) [placeW 3] v := hE
    rwa [live_c] at h
  have HE := Lib.hid hE'
  have HTr := Lib.hid (trail_any [⟨#[97, 116, 32, 51]⟩] v (End.num 6) _ w2 hE' (Nat.le_refl _) (by simp) (HG.out.below HB2.out).g)
  clear hb2 hE hE'
  go_wp2_with fail
  refine HTr.out.mono ?_
  rintro r w3 ⟨sv, rfl, hown, hb3⟩
  obtain ⟨A3, c3, rfl, _, _, _, hrs⟩ := RowS.own (l := [⟨#[97, 116, 32, 51]⟩]) hown
  have HB3 := Lib.hid (HB2.out.trans (hb3.mono HB2.out.size))
  have HB13 := Lib.hid (HB12.out.trans (hb3.mono HB12.out.size))
  have HCd := Lib.hid (code_any [⟨#[97, 116, 32, 51]⟩] v (End.num 6) _ w3 (HE.out.below hb3 (Nat.le_refl _)) (.inl (by simp)) hb3.size (HG.out.below HB3.out).g)
  obtain ⟨b3, o3, rfl, hc3⟩ := hrs.at_ (k := 0) (by simp)
  have HC3 := Lib.hid hc3
  obtain ⟨b1, o1, e1, m3⟩ := (HR1.out.below HB13.out (Nat.le_refl _)).at_ (k := 3) (by simp)
  subst e1
  obtain ⟨b1', o1', e1, m4⟩ := (HR1.out.below HB13.out (Nat.le_refl _)).at_ (k := 4) (by simp)
  injection e1 with e1
  injection e1 with e1 e2
  subst e1 e2
  have k3 := m3.1
  have k4 := m4.1
  simp only [List.getElem_cons_succ, List.getElem_cons_zero, h3, h4] at k3 k4
  rw [Nat.add_zero] at hc3
  simp only [List.getElem_cons_zero] at hc3
  clear hown hb3 hrs m3 m4
  go_wp2_with (go_at_call 20; refine HCd.out.mono ?_; rintro r w4 ⟨rfl, hb4⟩; have k5 := (hb4.cell (p := ⟨b3, o3, none⟩) (World.block_lt_of_cell? w3 _ hc3)).trans hc3; have HB4 := Lib.hid hb4; clear hb4)
  go_ret
  exact ⟨rfl, HB3.out.trans (HB4.out.mono HB3.out.size)⟩
end Go.Proofs.YtfpjepeikjfkpaaGreatDoor

/-
  Expressions, the document's own answers: whether two lists of terms are the same.
-/
namespace Go.Proofs.YtfpjepeikjfkpaaGreatDoor
open Go.RowKit

set_option maxRecDepth 100000 in
set_option maxHeartbeats 2000000 in
theorem sameT_any (l m : List TM) (A B : Option Addr) (c d : Nat) (w : World) (hl : l.length ≤ 1000000) (hm : m.length ≤ 1000000) (hr : RowT w 0 w.heap.size A l) (hrm : RowT w 0 w.heap.size B m) :
    Calls Tryz.prog 16 #[.slice A l.length c, .slice B m.length d] w fun r w' => r = .returned (.bool (sameT l m)) ∧ Below w.heap.size w w' := by
  by_cases hlen : l.length = m.length
  · have HR := Lib.hid hr
    have HRM := Lib.hid hrm
    rw [hlen]
    have HLen := Lib.hid hlen
    clear hr hrm hlen hl
    go_enter Tryz.func16, Tryz.ntmps16
    go_wp2
    go_loopg [13] m.length (fun q i wr => ∃ j : Nat, j + q = m.length ∧ i = .int .i64 j ∧ l.take j = m.take j ∧ Below w.heap.size w wr)
    case atStart => exact ⟨0, by omega, rfl, rfl, Below.refl _ _⟩
    case round =>
      obtain ⟨j, hk, rfl, hall, hb⟩ := hrel
      have HK := Lib.hid hk
      have HA := Lib.hid hall
      have HB := Lib.hid hb
      clear hall hb hk
      by_cases hjm : j < m.length
      · have hlt : decide ((j : Int) < (m.length : Int)) = true := by simpa using hjm
        have hlt3 : decide (j < m.length) = true := by simpa using hjm
        have hj : j < l.length := by rw [HLen.out]; exact hjm
        obtain ⟨b, o, rfl, c0, c1, c2, c3, c4⟩ := (HR.out.below HB.out (Nat.le_refl _)).at_ hj
        obtain ⟨b', o', rfl, e0, e1, e2, e3, e4⟩ := (HRM.out.below HB.out (Nat.le_refl _)).at_ hjm
        have HT1 := Lib.hid (show l.take (j + 1) = l.take j ++ [l[j]] from by rw [List.take_succ_eq_append_getElem hj])
        have HT2 := Lib.hid (show m.take (j + 1) = m.take j ++ [m[j]] from by rw [List.take_succ_eq_append_getElem hjm])
        have HNe := Lib.hid (fun (h : l[j] ≠ m[j]) => (show sameT l m = false by
          unfold sameT
          rw [decide_eq_false_iff_not]
          intro e
          subst e
          exact h rfl))
        generalize l[j] = x at *
        generalize m[j] = y at *
        obtain ⟨op, ⟨k, n, s⟩, nm⟩ := x
        obtain ⟨op', ⟨k', n', s'⟩, nm'⟩ := y
        simp only at c0 c1 c2 c3 c4 e0 e1 e2 e3 e4
        by_cases hE : (⟨op, ⟨k, n, s⟩, nm⟩ : TM) = ⟨op', ⟨k', n', s'⟩, nm'⟩
        · have HE := Lib.hid hE
          simp only [TM.mk.injEq, V.mk.injEq] at hE
          obtain ⟨rfl, ⟨rfl, rfl, rfl⟩, rfl⟩ := hE
          go_wp2
          go_region
          go_wp2
          go_roundg (gk - 1)
          case measure => have := HK.out; omega
          case rel => exact ⟨j + 1, by have := HK.out; omega, by go_num, by rw [HT1.out, HT2.out, HA.out], HB.out.drew⟩
        · have HF := Lib.hid (HNe.out hE)
          have q : ∀ x y : ByteArray, x.toList = y.toList ↔ x = y := fun x y => ⟨fun h => by rw [ByteArray.toList_eq, ByteArray.toList_eq] at h; exact ba_list h, fun h => by rw [h]⟩
          have hfirst : ¬ op = op' ∨ (op = op' ∧ ¬ k = k') ∨ (op = op' ∧ k = k' ∧ ¬ n = n') ∨ (op = op' ∧ k = k' ∧ n = n' ∧ ¬ s.toList = s'.toList) ∨ (op = op' ∧ k = k' ∧ n = n' ∧ s = s' ∧ ¬ nm.toList = nm'.toList) := by
            rw [q, q]
            simp only [TM.mk.injEq, V.mk.injEq] at hE
            by_cases h1 : op = op'
            · by_cases h2 : k = k'
              · by_cases h3 : n = n'
                · by_cases h4 : s = s'
                  · by_cases h5 : nm = nm'
                    · exact absurd ⟨h1, ⟨h2, h3, h4⟩, h5⟩ hE
                    · exact .inr (.inr (.inr (.inr ⟨h1, h2, h3, h4, h5⟩)))
                  · exact .inr (.inr (.inr (.inl ⟨h1, h2, h3, h4⟩)))
                · exact .inr (.inr (.inl ⟨h1, h2, h3⟩))
              · exact .inr (.inl ⟨h1, h2⟩)
            · exact .inl h1
          clear hE q
          rcases hfirst with h | ⟨rfl, h⟩ | ⟨rfl, rfl, h⟩ | ⟨rfl, rfl, rfl, h⟩ | ⟨rfl, rfl, rfl, rfl, h⟩
          all_goals
            go_wp2
            go_region
            go_wp2
            go_ret
            rw [HF.out]
            exact ⟨rfl, HB.out.drew⟩
      · have hj' : j = m.length := by have := HK.out; omega
        have hlt : decide ((j : Int) < (m.length : Int)) = false := by simpa using hjm
        have HF := Lib.hid (show sameT l m = true by
          have h := HA.out
          rw [hj', List.take_length, ← HLen.out, List.take_length] at h
          unfold sameT
          rw [decide_eq_true_iff]
          exact h)
        clear hj'
        go_wp2
        go_ret
        rw [HF.out]
        exact ⟨rfl, HB.out⟩
  · have hle : ((l.length : Int) == (m.length : Int)) = false := by rw [beq_eq_false_iff_ne]; omega
    have hle2 : ((l.length : Int) != (m.length : Int)) = true := by rw [bne, hle]; rfl
    have e : sameT l m = false := by unfold sameT; rw [decide_eq_false_iff_not]; intro e; exact hlen (by rw [e])
    rw [e]
    clear e hlen hr hrm
    go_enter Tryz.func16, Tryz.ntmps16
    go_wp2
    go_ret
    exact ⟨rfl, Below.refl _ _⟩
end Go.Proofs.YtfpjepeikjfkpaaGreatDoor

/-
  Package expr: what is wrong with a term by itself.
-/
namespace Go.Proofs.YtfpjepeikjfkpaaGreatDoor
open Go.RowKit

theorem eqT_name {op k n : Int} {s m : ByteArray} : eqT ⟨op, ⟨k, n, s⟩, m⟩ ⟨op, ⟨k, n, s⟩, ⟨#[]⟩⟩ = decide (m = mtS) := by
  rw [Bool.eq_iff_iff, eqT_iff, decide_eq_true_iff]
  simp [mtS]
theorem eqT_val {op k n : Int} {s m : ByteArray} : eqT ⟨op, ⟨k, n, s⟩, m⟩ ⟨op, ⟨0, 0, ⟨#[]⟩⟩, m⟩ = decide ((⟨k, n, s⟩ : V) = V0) := by
  rw [Bool.eq_iff_iff, eqT_iff, decide_eq_true_iff]
  simp [V0]
theorem eqT_both {op k n : Int} {s m : ByteArray} : eqT ⟨op, ⟨k, n, s⟩, m⟩ ⟨op, ⟨0, 0, ⟨#[]⟩⟩, ⟨#[]⟩⟩ = decide ((⟨k, n, s⟩ : V) = V0 ∧ m = mtS) := by
  rw [Bool.eq_iff_iff, eqT_iff, decide_eq_true_iff]
  simp [V0, mtS]

set_option maxRecDepth 100000 in
set_option maxHeartbeats 2000000 in
theorem dRight_out (op k n : Int) (s m : ByteArray) (hop : op < 0 ∨ 18 < op) (w : World) :
    Calls Tryz.prog 22 #[.agg #[.int .i64 op, .int .i64 k, .int .i64 n, .string s, .string m]] w fun r w' => r = .returned (.int .i64 1) ∧ Below w.heap.size w w' := by
  have b0 : (op == 0) = false := by rw [beq_eq_false_iff_ne]; omega
  have b1 : (op == 1) = false := by rw [beq_eq_false_iff_ne]; omega
  have b2 : (op == 2) = false := by rw [beq_eq_false_iff_ne]; omega
  have hT : takesD op = -1 := by unfold takesD; rw [if_pos hop]
  have HTk := Lib.hid (fun w => (dTakes_any op w).mono fun _ _ h => And.intro h.1 h.2.symm)
  rw [hT] at HTk
  have hb := box_below w #[.int .i64 op, .int .i64 k, .int .i64 n, .string s, .string m] 44
  have HB := Lib.hid (hb.alloc hb.size (.cells #[.int .i64 op, .int .i64 0, .int .i64 0, .string ⟨#[]⟩, .string ⟨#[]⟩] 44))
  clear hop hT hb
  go_enter Tryz.func22, Tryz.ntmps22
  go_wp2_with (go_at_call 23; refine (HTk.out _).mono ?_; rintro r w' ⟨rfl, rfl⟩)
  go_ret
  exact ⟨rfl, HB.out⟩

set_option maxRecDepth 100000 in
set_option maxHeartbeats 2000000 in
/-- An operation that has neither a value nor a name. -/
theorem dRight_op (op k n : Int) (s m : ByteArray) (b : Bool) (hop : 3 ≤ op ∧ op ≤ 18) (hb : eqT ⟨op, ⟨k, n, s⟩, m⟩ ⟨op, ⟨0, 0, ⟨#[]⟩⟩, ⟨#[]⟩⟩ = b) (w : World) :
    Calls Tryz.prog 22 #[.agg #[.int .i64 op, .int .i64 k, .int .i64 n, .string s, .string m]] w fun r w' => r = .returned (.int .i64 (if b = true then 0 else 1)) ∧ Below w.heap.size w w' := by
  have b0 : (op == 0) = false := by rw [beq_eq_false_iff_ne]; omega
  have b1 : (op == 1) = false := by rw [beq_eq_false_iff_ne]; omega
  have b2 : (op == 2) = false := by rw [beq_eq_false_iff_ne]; omega
  obtain ⟨tk, hT, hT0⟩ : ∃ tk : Int, takesD op = tk ∧ 0 ≤ tk := ⟨_, rfl, by unfold takesD; rw [if_neg (by omega), if_neg (by omega)]; split <;> decide⟩
  have dT : decide (tk < 0) = false := by rw [decide_eq_false_iff_not]; omega
  have HTk := Lib.hid (fun w => (dTakes_any op w).mono fun _ _ h => And.intro h.1 h.2.symm)
  rw [hT] at HTk
  have q : ∀ w, (Op.equalIn 10000 44 (.agg #[.int .i64 op, .int .i64 k, .int .i64 n, .string s, .string m]) (.agg #[.int .i64 op, .int .i64 0, .int .i64 0, .string ⟨#[]⟩, .string ⟨#[]⟩])).run Tryz.prog w = .ok b w := fun w => by rw [eq_inT, hb]
  have hbl := box_below w #[.int .i64 op, .int .i64 k, .int .i64 n, .string s, .string m] 44
  have HB := Lib.hid (hbl.alloc hbl.size (.cells #[.int .i64 op, .int .i64 0, .int .i64 0, .string ⟨#[]⟩, .string ⟨#[]⟩] 44))
  clear hop hT hbl hb hT0
  cases b
  all_goals
    go_enter Tryz.func22, Tryz.ntmps22
    go_wp2_with (go_at_call 23; refine (HTk.out _).mono ?_; rintro r w' ⟨rfl, rfl⟩)
    go_ret
    exact ⟨rfl, HB.out⟩

set_option maxRecDepth 100000 in
set_option maxHeartbeats 2000000 in
/-- A value. -/
theorem dRight_val (k n : Int) (s m : ByteArray) (b : Bool) (hb : eqT ⟨0, ⟨k, n, s⟩, m⟩ ⟨0, ⟨k, n, s⟩, ⟨#[]⟩⟩ = b) (w : World) :
    Calls Tryz.prog 22 #[.agg #[.int .i64 0, .int .i64 k, .int .i64 n, .string s, .string m]] w fun r w' => r = .returned (.int .i64 (if b = true then (if rightV ⟨k, n, s⟩ ≠ 0 then rightV ⟨k, n, s⟩ else if k = 1 ∧ n < 0 then 1 else 0) else 1)) ∧ Below w.heap.size w w' := by
  have hT : takesD 0 = 0 := rfl
  have HTk := Lib.hid (fun w => (dTakes_any 0 w).mono fun _ _ h => And.intro h.1 h.2.symm)
  rw [hT] at HTk
  have q : ∀ w, (Op.equalIn 10000 44 (.agg #[.int .i64 0, .int .i64 k, .int .i64 n, .string s, .string m]) (.agg #[.int .i64 0, .int .i64 k, .int .i64 n, .string s, .string ⟨#[]⟩])).run Tryz.prog w = .ok b w := fun w => by rw [eq_inT, hb]
  have HRt := Lib.hid (vRight_any ⟨k, n, s⟩)
  generalize rightV ⟨k, n, s⟩ = z at *
  have hbl := box_below w #[.int .i64 0, .int .i64 k, .int .i64 n, .string s, .string m] 44
  have HB := Lib.hid (hbl.alloc hbl.size (.cells #[.int .i64 0, .int .i64 k, .int .i64 n, .string s, .string ⟨#[]⟩] 44))
  clear hT hbl hb
  cases b
  · go_enter Tryz.func22, Tryz.ntmps22
    go_wp2_with (go_at_call 23; refine (HTk.out _).mono ?_; rintro r w' ⟨rfl, rfl⟩)
    go_ret
    exact ⟨rfl, HB.out⟩
  · obtain ⟨bz, hbz⟩ : ∃ b : Bool, (z == 0) = b := ⟨_, rfl⟩
    obtain ⟨bk, hbk⟩ : ∃ b : Bool, (k == 1) = b := ⟨_, rfl⟩
    obtain ⟨bn, hbn⟩ : ∃ b : Bool, decide (n < 0) = b := ⟨_, rfl⟩
    obtain ⟨y, hy⟩ : ∃ y : Int, (if true = true then (if z ≠ 0 then z else if k = 1 ∧ n < 0 then 1 else 0) else 1) = y := ⟨_, rfl⟩
    rw [hy]
    have HY : (y = 1 ∧ bz = true ∧ bk = true ∧ bn = true) ∨ (y = z ∧ ((bz = true ∧ bk = true ∧ bn = false) ∨ (bz = true ∧ bk = false) ∨ bz = false)) := by
      rw [if_pos rfl] at hy
      by_cases h0 : z = 0
      · rw [if_neg (by simpa using h0)] at hy
        have : bz = true := by rw [← hbz, h0]; rfl
        by_cases h1 : k = 1
        · have h1b : bk = true := by rw [← hbk, h1]; rfl
          by_cases h2 : n < 0
          · rw [if_pos ⟨h1, h2⟩] at hy
            exact .inl ⟨hy.symm, this, h1b, by rw [← hbn]; simpa using h2⟩
          · rw [if_neg fun h => h2 h.2] at hy
            exact .inr ⟨by rw [← hy, h0], .inl ⟨this, h1b, by rw [← hbn]; simpa using h2⟩⟩
        · rw [if_neg fun h => h1 h.1] at hy
          exact .inr ⟨by rw [← hy, h0], .inr (.inl ⟨this, by rw [← hbk]; simpa using h1⟩)⟩
      · rw [if_pos h0] at hy
        exact .inr ⟨hy.symm, .inr (.inr (by rw [← hbz]; simpa using h0))⟩
    clear hy
    rcases HY with ⟨rfl, rfl, rfl, rfl⟩ | ⟨rfl, ⟨rfl, rfl, rfl⟩ | ⟨rfl, rfl⟩ | rfl⟩
    all_goals
      go_enter Tryz.func22, Tryz.ntmps22
      go_wp2_with (go_at_call 23; refine (HTk.out _).mono ?_; rintro r w' ⟨rfl, rfl⟩)
      refine (HRt.out _).mono ?_
      rintro r w1 ⟨rfl, hb1⟩
      have c0 := (hb1.cell (p := ⟨w.heap.size, 0, none⟩) (by simp; omega)).trans (show _ = some (Value.int .i64 0) by simp [go_sem])
      have c1 := (hb1.cell (p := ⟨w.heap.size, 1, none⟩) (by simp; omega)).trans (show _ = some (Value.int .i64 k) by simp [go_sem])
      have c2 := (hb1.cell (p := ⟨w.heap.size, 2, none⟩) (by simp; omega)).trans (show _ = some (Value.int .i64 n) by simp [go_sem])
      have HB1 := Lib.hid (HB.out.trans (hb1.mono HB.out.size))
      clear hb1
      go_wp2
      go_ret
      exact ⟨rfl, HB1.out⟩

set_option maxRecDepth 100000 in
set_option maxHeartbeats 4000000 in
/-- A name. -/
theorem dRight_name (op k n : Int) (s m : ByteArray) (hop : op = 1 ∨ op = 2) (hm : m.size ≤ 5000) (b : Bool) (hb : eqT ⟨op, ⟨k, n, s⟩, m⟩ ⟨op, ⟨0, 0, ⟨#[]⟩⟩, m⟩ = b) (w : World) :
    Calls Tryz.prog 22 #[.agg #[.int .i64 op, .int .i64 k, .int .i64 n, .string s, .string m]] w fun r w' => r = .returned (.int .i64 (if b = true then (if nm.nameOk m = false ∨ reservedB m = true then 30 else 0) else 1)) ∧ Below w.heap.size w w' := by
  have hT : takesD op = 0 := by rcases hop with rfl | rfl <;> rfl
  have HTk := Lib.hid (fun w => (dTakes_any op w).mono fun _ _ h => And.intro h.1 h.2.symm)
  rw [hT] at HTk
  have q : ∀ w, (Op.equalIn 10000 44 (.agg #[.int .i64 op, .int .i64 k, .int .i64 n, .string s, .string m]) (.agg #[.int .i64 op, .int .i64 0, .int .i64 0, .string ⟨#[]⟩, .string m])).run Tryz.prog w = .ok b w := fun w => by rw [eq_inT, hb]
  have HNm := Lib.hid (fun w => nm.name_any m w hm)
  have HKp := Lib.hid (fun w => (dKept_any m w).mono fun _ _ h => And.intro h.1 h.2.symm)
  have hbl := box_below w #[.int .i64 op, .int .i64 k, .int .i64 n, .string s, .string m] 44
  have HB := Lib.hid (hbl.alloc hbl.size (.cells #[.int .i64 op, .int .i64 0, .int .i64 0, .string ⟨#[]⟩, .string m] 44))
  clear hT hbl hb
  generalize nm.nameOk m = b1 at *
  generalize reservedB m = b2 at *
  rcases hop with rfl | rfl
  all_goals
    cases b
    · go_enter Tryz.func22, Tryz.ntmps22
      go_wp2_with (go_at_call 23; refine (HTk.out _).mono ?_; rintro r w' ⟨rfl, rfl⟩)
      go_ret
      exact ⟨rfl, HB.out⟩
    · cases b1
      · go_enter Tryz.func22, Tryz.ntmps22
        go_wp2_with (first | (go_at_call 23; refine (HTk.out _).mono ?_; rintro r w' ⟨rfl, rfl⟩) | (go_at_call 44; refine (HNm.out _).mono ?_; rintro r w' ⟨rfl, rfl⟩))
        go_ret
        exact ⟨rfl, HB.out⟩
      · cases b2
        all_goals
          go_enter Tryz.func22, Tryz.ntmps22
          go_wp2_with (first | (go_at_call 23; refine (HTk.out _).mono ?_; rintro r w' ⟨rfl, rfl⟩) | (go_at_call 44; refine (HNm.out _).mono ?_; rintro r w' ⟨rfl, rfl⟩) | (go_at_call 45; refine (HKp.out _).mono ?_; rintro r w' ⟨rfl, rfl⟩))
          go_ret
          exact ⟨rfl, HB.out⟩

theorem ownT_one {op : Int} {v : V} {m : ByteArray} (h : op < 0 ∨ 18 < op ∨ (op ≠ 0 ∧ v ≠ V0) ∨ (op ≠ 1 ∧ op ≠ 2 ∧ m ≠ mtS)) : ownT ⟨op, v, m⟩ = 1 := if_pos h
theorem ownT_no {op : Int} {v : V} {m : ByteArray} (h : ¬ (op < 0 ∨ 18 < op ∨ (op ≠ 0 ∧ v ≠ V0) ∨ (op ≠ 1 ∧ op ≠ 2 ∧ m ≠ mtS))) :
    ownT ⟨op, v, m⟩ = if op = 0 then (if rightV v ≠ 0 then rightV v else if v.k = 1 ∧ v.n < 0 then 1 else 0) else if op = 1 ∨ op = 2 then (if nm.nameOk m = false ∨ reservedB m = true then 30 else 0) else 0 := if_neg h

/-- right of any term. -/
theorem dRight_any (x : TM) (hm : x.nm.size ≤ 5000) (w : World) :
    Calls Tryz.prog 22 #[termVal x] w fun r w' => r = .returned (.int .i64 (ownT x)) ∧ Below w.heap.size w w' := by
  obtain ⟨op, ⟨k, n, s⟩, m⟩ := x
  simp only at hm
  by_cases hr : op < 0 ∨ 18 < op
  · have e : ownT ⟨op, ⟨k, n, s⟩, m⟩ = 1 := by unfold ownT; rw [if_pos (by rcases hr with h | h; exact .inl h; exact .inr (.inl h))]
    rw [e]
    exact dRight_out op k n s m hr w
  by_cases h0 : op = 0
  · subst h0
    have h := dRight_val k n s m _ rfl w
    rw [eqT_name] at h
    have e : (if decide (m = mtS) = true then (if rightV ⟨k, n, s⟩ ≠ 0 then rightV ⟨k, n, s⟩ else if k = 1 ∧ n < 0 then 1 else 0) else 1) = ownT ⟨0, ⟨k, n, s⟩, m⟩ := by
      by_cases hmt : m = mtS
      · rw [if_pos (by simpa using hmt), ownT_no (by rintro (h | h | h | h) <;> simp_all), if_pos rfl]
      · rw [if_neg (by simpa using hmt), ownT_one (.inr (.inr (.inr ⟨by simp, by simp, hmt⟩)))]
    rw [← e]
    exact h
  by_cases h1 : op = 1 ∨ op = 2
  · have h := dRight_name op k n s m h1 hm _ rfl w
    rw [eqT_val] at h
    have e : (if decide ((⟨k, n, s⟩ : V) = V0) = true then (if nm.nameOk m = false ∨ reservedB m = true then (30 : Int) else 0) else 1) = ownT ⟨op, ⟨k, n, s⟩, m⟩ := by
      by_cases hv : (⟨k, n, s⟩ : V) = V0
      · have hno : ¬ (op < 0 ∨ 18 < op ∨ (op ≠ 0 ∧ (⟨k, n, s⟩ : V) ≠ V0) ∨ (op ≠ 1 ∧ op ≠ 2 ∧ m ≠ mtS)) := by
          rintro (h | h | h | h)
          · omega
          · omega
          · exact h.2 hv
          · omega
        rw [if_pos (by simpa using hv), ownT_no hno, if_neg h0, if_pos h1]
      · rw [if_neg (by simpa using hv), ownT_one (.inr (.inr (.inl ⟨h0, hv⟩)))]
    rw [← e]
    exact h
  · have h := dRight_op op k n s m _ (by omega) rfl w
    rw [eqT_both] at h
    have e : (if decide ((⟨k, n, s⟩ : V) = V0 ∧ m = mtS) = true then (0 : Int) else 1) = ownT ⟨op, ⟨k, n, s⟩, m⟩ := by
      by_cases hv : (⟨k, n, s⟩ : V) = V0
      · by_cases hmt : m = mtS
        · have hno : ¬ (op < 0 ∨ 18 < op ∨ (op ≠ 0 ∧ (⟨k, n, s⟩ : V) ≠ V0) ∨ (op ≠ 1 ∧ op ≠ 2 ∧ m ≠ mtS)) := by
            rintro (h | h | h | h)
            · omega
            · omega
            · exact h.2 hv
            · exact h.2.2 hmt
          rw [if_pos (by simpa using And.intro hv hmt), ownT_no hno, if_neg h0, if_neg h1]
        · rw [if_neg (by simpa using fun _ => hmt), ownT_one (.inr (.inr (.inr ⟨fun e => h1 (.inl e), fun e => h1 (.inr e), hmt⟩)))]
      · rw [if_neg (by simpa using fun h => absurd h hv), ownT_one (.inr (.inr (.inl ⟨h0, hv⟩)))]
    rw [← e]
    exact h
end Go.Proofs.YtfpjepeikjfkpaaGreatDoor
