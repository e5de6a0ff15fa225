import Derived.Test.YtfpjepeikjfkpaaGreatDoorZC11
import Derived.Test.YtfpjepeikjfkpaaGreatDoorZC22
import Derived.Test.YtfpjepeikjfkpaaGreatDoorZC25
/-
  Package expr: signs, by their texts; how long a word, and a sign, is.
-/
namespace Go.Proofs.YtfpjepeikjfkpaaGreatDoor
open Go.RowKit

/-- What the package-level variables that are read hold. -/
structure GlobE (w : World) : Prop where
  g : Glob w
  r : RangeW w
  s : ∃ t fz, w.heap[0]? = some (.cells #[.string ⟨#[]⟩, .string ⟨#[]⟩, .string ⟨#[]⟩, .string ⟨#[45]⟩, .string ⟨#[33]⟩, .string ⟨#[]⟩, .string ⟨#[42]⟩, .string ⟨#[47]⟩, .string ⟨#[37]⟩, .string ⟨#[43]⟩, .string ⟨#[45]⟩, .string ⟨#[60]⟩, .string ⟨#[60, 61]⟩, .string ⟨#[62]⟩, .string ⟨#[62, 61]⟩, .string ⟨#[61, 61]⟩, .string ⟨#[33, 61]⟩, .string ⟨#[38, 38]⟩, .string ⟨#[124, 124]⟩] t fz)
theorem GlobE.below {w w' : World} (h : GlobE w) (hb : Below w.heap.size w w') : GlobE w' := by
  obtain ⟨t, fz, hs⟩ := h.s
  exact ⟨h.g.below hb h.g.big, h.r.below hb, t, fz, (hb.block _ (Array.getElem?_eq_some_iff.1 hs).1).trans hs⟩
theorem GlobE.foot {w w' : World} {b lo : Nat} (h : GlobE w) (hf : Foot b lo w w') (hb : 8 ≤ b) (hl : 8 ≤ lo) : GlobE w' := by
  have hB := hf.below hb hl
  obtain ⟨t, fz, hs⟩ := h.s
  obtain ⟨tp, p, hr⟩ := h.r
  exact ⟨h.g.below hB (Nat.le_refl _), ⟨tp, p, (hB.cell (p := ⟨4, 0, none⟩) (by show 4 < 8; omega)).trans hr⟩, t, fz, (hB.block _ (by omega)).trans hs⟩
theorem GlobE.tab {w : World} (h : GlobE w) : TabW w := h.g.tab
theorem sgn0 {w : World} (h : GlobE w) : w.cell? ⟨0, 0, none⟩ = some (.string ⟨#[]⟩) := by
  obtain ⟨t, fz, hs⟩ := h.s
  simp [World.cell?, hs]
theorem sgn1 {w : World} (h : GlobE w) : w.cell? ⟨0, 1, none⟩ = some (.string ⟨#[]⟩) := by
  obtain ⟨t, fz, hs⟩ := h.s
  simp [World.cell?, hs]
theorem sgn2 {w : World} (h : GlobE w) : w.cell? ⟨0, 2, none⟩ = some (.string ⟨#[]⟩) := by
  obtain ⟨t, fz, hs⟩ := h.s
  simp [World.cell?, hs]
theorem sgn3 {w : World} (h : GlobE w) : w.cell? ⟨0, 3, none⟩ = some (.string ⟨#[45]⟩) := by
  obtain ⟨t, fz, hs⟩ := h.s
  simp [World.cell?, hs]
theorem sgn4 {w : World} (h : GlobE w) : w.cell? ⟨0, 4, none⟩ = some (.string ⟨#[33]⟩) := by
  obtain ⟨t, fz, hs⟩ := h.s
  simp [World.cell?, hs]
theorem sgn5 {w : World} (h : GlobE w) : w.cell? ⟨0, 5, none⟩ = some (.string ⟨#[]⟩) := by
  obtain ⟨t, fz, hs⟩ := h.s
  simp [World.cell?, hs]
theorem sgn6 {w : World} (h : GlobE w) : w.cell? ⟨0, 6, none⟩ = some (.string ⟨#[42]⟩) := by
  obtain ⟨t, fz, hs⟩ := h.s
  simp [World.cell?, hs]
theorem sgn7 {w : World} (h : GlobE w) : w.cell? ⟨0, 7, none⟩ = some (.string ⟨#[47]⟩) := by
  obtain ⟨t, fz, hs⟩ := h.s
  simp [World.cell?, hs]
theorem sgn8 {w : World} (h : GlobE w) : w.cell? ⟨0, 8, none⟩ = some (.string ⟨#[37]⟩) := by
  obtain ⟨t, fz, hs⟩ := h.s
  simp [World.cell?, hs]
theorem sgn9 {w : World} (h : GlobE w) : w.cell? ⟨0, 9, none⟩ = some (.string ⟨#[43]⟩) := by
  obtain ⟨t, fz, hs⟩ := h.s
  simp [World.cell?, hs]
theorem sgn10 {w : World} (h : GlobE w) : w.cell? ⟨0, 10, none⟩ = some (.string ⟨#[45]⟩) := by
  obtain ⟨t, fz, hs⟩ := h.s
  simp [World.cell?, hs]
theorem sgn11 {w : World} (h : GlobE w) : w.cell? ⟨0, 11, none⟩ = some (.string ⟨#[60]⟩) := by
  obtain ⟨t, fz, hs⟩ := h.s
  simp [World.cell?, hs]
theorem sgn12 {w : World} (h : GlobE w) : w.cell? ⟨0, 12, none⟩ = some (.string ⟨#[60, 61]⟩) := by
  obtain ⟨t, fz, hs⟩ := h.s
  simp [World.cell?, hs]
theorem sgn13 {w : World} (h : GlobE w) : w.cell? ⟨0, 13, none⟩ = some (.string ⟨#[62]⟩) := by
  obtain ⟨t, fz, hs⟩ := h.s
  simp [World.cell?, hs]
theorem sgn14 {w : World} (h : GlobE w) : w.cell? ⟨0, 14, none⟩ = some (.string ⟨#[62, 61]⟩) := by
  obtain ⟨t, fz, hs⟩ := h.s
  simp [World.cell?, hs]
theorem sgn15 {w : World} (h : GlobE w) : w.cell? ⟨0, 15, none⟩ = some (.string ⟨#[61, 61]⟩) := by
  obtain ⟨t, fz, hs⟩ := h.s
  simp [World.cell?, hs]
theorem sgn16 {w : World} (h : GlobE w) : w.cell? ⟨0, 16, none⟩ = some (.string ⟨#[33, 61]⟩) := by
  obtain ⟨t, fz, hs⟩ := h.s
  simp [World.cell?, hs]
theorem sgn17 {w : World} (h : GlobE w) : w.cell? ⟨0, 17, none⟩ = some (.string ⟨#[38, 38]⟩) := by
  obtain ⟨t, fz, hs⟩ := h.s
  simp [World.cell?, hs]
theorem sgn18 {w : World} (h : GlobE w) : w.cell? ⟨0, 18, none⟩ = some (.string ⟨#[124, 124]⟩) := by
  obtain ⟨t, fz, hs⟩ := h.s
  simp [World.cell?, hs]
theorem sgn_at {w : World} (h : GlobE w) : ∀ j : Nat, j < 19 → w.cell? ⟨0, j, none⟩ = some (.string (signS j))
  | 0, _ => sgn0 h
  | 1, _ => sgn1 h
  | 2, _ => sgn2 h
  | 3, _ => sgn3 h
  | 4, _ => sgn4 h
  | 5, _ => sgn5 h
  | 6, _ => sgn6 h
  | 7, _ => sgn7 h
  | 8, _ => sgn8 h
  | 9, _ => sgn9 h
  | 10, _ => sgn10 h
  | 11, _ => sgn11 h
  | 12, _ => sgn12 h
  | 13, _ => sgn13 h
  | 14, _ => sgn14 h
  | 15, _ => sgn15 h
  | 16, _ => sgn16 h
  | 17, _ => sgn17 h
  | 18, _ => sgn18 h
  | n + 19, h => absurd h (by omega)
def signsC : List Value := [.string ⟨#[]⟩, .string ⟨#[]⟩, .string ⟨#[]⟩, .string ⟨#[45]⟩, .string ⟨#[33]⟩, .string ⟨#[]⟩, .string ⟨#[42]⟩, .string ⟨#[47]⟩, .string ⟨#[37]⟩, .string ⟨#[43]⟩, .string ⟨#[45]⟩, .string ⟨#[60]⟩, .string ⟨#[60, 61]⟩, .string ⟨#[62]⟩, .string ⟨#[62, 61]⟩, .string ⟨#[61, 61]⟩, .string ⟨#[33, 61]⟩, .string ⟨#[38, 38]⟩, .string ⟨#[124, 124]⟩]
/-- All signs, by their Ops. -/
def signsV : Value := .agg signsC.toArray
theorem lks0 (w : World) : (Instr.index 82 signsV (.int .i64 0)).run Tryz.prog w = .ok (.string ⟨#[]⟩) w := by kernel_rfl
theorem lks1 (w : World) : (Instr.index 82 signsV (.int .i64 1)).run Tryz.prog w = .ok (.string ⟨#[]⟩) w := by kernel_rfl
theorem lks2 (w : World) : (Instr.index 82 signsV (.int .i64 2)).run Tryz.prog w = .ok (.string ⟨#[]⟩) w := by kernel_rfl
theorem lks3 (w : World) : (Instr.index 82 signsV (.int .i64 3)).run Tryz.prog w = .ok (.string ⟨#[45]⟩) w := by kernel_rfl
theorem lks4 (w : World) : (Instr.index 82 signsV (.int .i64 4)).run Tryz.prog w = .ok (.string ⟨#[33]⟩) w := by kernel_rfl
theorem lks5 (w : World) : (Instr.index 82 signsV (.int .i64 5)).run Tryz.prog w = .ok (.string ⟨#[]⟩) w := by kernel_rfl
theorem lks6 (w : World) : (Instr.index 82 signsV (.int .i64 6)).run Tryz.prog w = .ok (.string ⟨#[42]⟩) w := by kernel_rfl
theorem lks7 (w : World) : (Instr.index 82 signsV (.int .i64 7)).run Tryz.prog w = .ok (.string ⟨#[47]⟩) w := by kernel_rfl
theorem lks8 (w : World) : (Instr.index 82 signsV (.int .i64 8)).run Tryz.prog w = .ok (.string ⟨#[37]⟩) w := by kernel_rfl
theorem lks9 (w : World) : (Instr.index 82 signsV (.int .i64 9)).run Tryz.prog w = .ok (.string ⟨#[43]⟩) w := by kernel_rfl
theorem lks10 (w : World) : (Instr.index 82 signsV (.int .i64 10)).run Tryz.prog w = .ok (.string ⟨#[45]⟩) w := by kernel_rfl
theorem lks11 (w : World) : (Instr.index 82 signsV (.int .i64 11)).run Tryz.prog w = .ok (.string ⟨#[60]⟩) w := by kernel_rfl
theorem lks12 (w : World) : (Instr.index 82 signsV (.int .i64 12)).run Tryz.prog w = .ok (.string ⟨#[60, 61]⟩) w := by kernel_rfl
theorem lks13 (w : World) : (Instr.index 82 signsV (.int .i64 13)).run Tryz.prog w = .ok (.string ⟨#[62]⟩) w := by kernel_rfl
theorem lks14 (w : World) : (Instr.index 82 signsV (.int .i64 14)).run Tryz.prog w = .ok (.string ⟨#[62, 61]⟩) w := by kernel_rfl
theorem lks15 (w : World) : (Instr.index 82 signsV (.int .i64 15)).run Tryz.prog w = .ok (.string ⟨#[61, 61]⟩) w := by kernel_rfl
theorem lks16 (w : World) : (Instr.index 82 signsV (.int .i64 16)).run Tryz.prog w = .ok (.string ⟨#[33, 61]⟩) w := by kernel_rfl
theorem lks17 (w : World) : (Instr.index 82 signsV (.int .i64 17)).run Tryz.prog w = .ok (.string ⟨#[38, 38]⟩) w := by kernel_rfl
theorem lks18 (w : World) : (Instr.index 82 signsV (.int .i64 18)).run Tryz.prog w = .ok (.string ⟨#[124, 124]⟩) w := by kernel_rfl
theorem lks (w : World) : ∀ j : Nat, j < 19 → (Instr.index 82 signsV (.int .i64 (j : Int))).run Tryz.prog w = .ok (.string (signS j)) w
  | 0, _ => lks0 w
  | 1, _ => lks1 w
  | 2, _ => lks2 w
  | 3, _ => lks3 w
  | 4, _ => lks4 w
  | 5, _ => lks5 w
  | 6, _ => lks6 w
  | 7, _ => lks7 w
  | 8, _ => lks8 w
  | 9, _ => lks9 w
  | 10, _ => lks10 w
  | 11, _ => lks11 w
  | 12, _ => lks12 w
  | 13, _ => lks13 w
  | 14, _ => lks14 w
  | 15, _ => lks15 w
  | 16, _ => lks16 w
  | 17, _ => lks17 w
  | 18, _ => lks18 w
  | n + 19, h => absurd h (by omega)

theorem wpList_load {P : Program} {w : World} {ops : Array Oper} {rest : List Oper} {o : Oper} {a : Act} {Q : Exit → Act → World → Prop} (hgd : o.guard = none) (t : TypeId) (x : Operand) (ho : o.op = .load t x) (v : Value)
    (hr : (Instr.loadAt t (a.eval x)).run P w = .ok v w) (h : wpList P ops Q rest (a.put o.dst v) w) : wpList P ops Q (o :: rest) a w := by
  refine wpList_plain hgd fun K hK => ?_
  unfold Oper.wp execOp
  simp only [ho, Sem.run_bind, Sem.run_pure, Result.andThen_ok, hr]
  exact hK _ _ h
theorem load_signs {w : World} (h : GlobE w) : (Instr.loadAt 82 (.pointer (some ⟨0, 0, none⟩))).run Tryz.prog w = .ok signsV w := by
  have hl := run_loadCells_list (P := Tryz.prog) w ⟨0, 0, none⟩ signsC (fun j v hv => by
    obtain ⟨t, fz, hs⟩ := h.s
    have e : (⟨0, 0, none⟩ : Addr).add j = ⟨0, j, none⟩ := by unfold Addr.add; split <;> simp_all
    rw [e]
    simp only [World.cell?, hs]
    unfold signsC at hv
    simpa using hv)
  rw [show signsC.length = 19 from rfl] at hl
  have ha : (isAgg 82).run Tryz.prog w = .ok true w := by kernel_rfl
  have hz : (sizeOf 82).run Tryz.prog w = .ok 19 w := by kernel_rfl
  unfold Instr.loadAt
  simp [Instr.sureAddr, loadVar, ha, hz, hl]
  rfl
/-- Of so many Ops from one on, the first one of which a text is the sign. -/
def signedF : Nat → Nat → List UInt8 → Int × Bool
  | 0, _, _ => (0, false)
  | n + 1, op, l => if signL op = l then (op, true) else signedF n (op + 1) l
set_option maxHeartbeats 2000000 in
theorem signed_any (s : ByteArray) (a b : Nat) (hab : a ≤ b + 1) (hb : b < 19) (w : World) (hG : GlobE w) :
    Calls Tryz.prog 105 #[.string s, .int .i64 (a : Int), .int .i64 (b : Int)] w fun r w' => r = .returned (.tuple #[.int .i64 (signedF (b + 1 - a) a s.data.toList).1, .bool (signedF (b + 1 - a) a s.data.toList).2]) ∧ w = w' := by
  have HG := Lib.hid hG
  clear hG
  go_enter Tryz.func105, Tryz.ntmps105
  go_wp2
  go_loopg [8] (b + 1 - a) (fun q i wr => ∃ j : Nat, j + q = b + 1 ∧ i = .int .i64 (j : Int) ∧ signedF (b + 1 - a) a s.data.toList = signedF q j s.data.toList ∧ wr = w)
  case atStart => exact ⟨a, by omega, rfl, rfl, rfl⟩
  case round =>
    obtain ⟨j, hk, rfl, hs, rfl⟩ := hrel
    have HS := Lib.hid hs
    have HK := Lib.hid hk
    clear hs hk
    by_cases hj : j ≤ b
    · have d1 : decide ((j : Int) ≤ (b : Int)) = true := by rw [decide_eq_true_iff]; omega
      have d2 : decide (j ≤ b) = true := by simpa using hj
      have hj19 : j < 19 := by omega
      have c := sgn_at HG.out j hj19
      obtain ⟨q, rfl⟩ : ∃ q, gk = q + 1 := ⟨gk - 1, by have := HK.out; omega⟩
      by_cases he : signL j = s.data.toList
      · have d3 : ((signS j).toList == s.toList) = true := by
          rw [beq_iff_eq, ByteArray.toList_eq, ByteArray.toList_eq]
          exact he
        have HE := Lib.hid (show signedF (b + 1 - a) a s.data.toList = ((j : Int), true) by rw [HS.out, signedF, if_pos he])
        clear he
        generalize signS j = sj at *
        go_wp2
        rw [HE.out]
        exact bodyPost_ret (v := .tuple #[.int .i64 (j : Int), .bool true]) (by simp [results, Tryz.results105, go_sem]) rfl ⟨rfl, rfl⟩
      · have d3 : ((signS j).toList == s.toList) = false := by
          rw [beq_eq_false_iff_ne, ByteArray.toList_eq, ByteArray.toList_eq]
          exact he
        have HE := Lib.hid (show signedF (b + 1 - a) a s.data.toList = signedF q (j + 1) s.data.toList by rw [HS.out, signedF, if_neg he])
        clear he
        generalize signS j = sj at *
        go_wp2
        go_roundg q
        case measure => omega
        case rel => exact ⟨j + 1, by have := HK.out; omega, by go_num, HE.out, rfl⟩
    · have d1 : decide ((j : Int) ≤ (b : Int)) = false := by rw [decide_eq_false_iff_not]; omega
      have d2 : decide (j ≤ b) = false := by simpa using hj
      have hq : gk = 0 := by have := HK.out; omega
      have HE := Lib.hid (show signedF (b + 1 - a) a s.data.toList = (0, false) by rw [HS.out, hq]; rfl)
      clear hq
      go_wp2
      rw [HE.out]
      exact bodyPost_ret (v := .tuple #[.int .i64 0, .bool false]) (by simp [results, Tryz.results105, go_sem]) rfl ⟨rfl, rfl⟩

theorem hasP_any (s p : ByteArray) (hn : s.size ≤ 4611686018427387904) (w : World) :
    Calls Tryz.prog 101 #[.string s, .string p] w fun e w' => e = .returned (.bool (isPre p.data.toList s.data.toList)) ∧ w' = w := by
  by_cases h : s.data.toList.take p.size = p.data.toList
  · have e : isPre p.data.toList s.data.toList = true := by unfold isPre; rw [decide_eq_true_iff]; exact h
    rw [e]
    refine has_yes s p (s.data.toList.drop p.size) ?_ hn w
    rw [← h]
    exact (List.take_append_drop ..).symm
  · have e : isPre p.data.toList s.data.toList = false := by unfold isPre; rw [decide_eq_false_iff_not]; exact h
    rw [e]
    exact has_no s p h hn w
/-- The longest of the first so many signs at the front. -/
def szL (l : List UInt8) : Nat → Nat
  | 0 => if isPre [40] l = true ∨ isPre [41] l = true then 1 else 0
  | j + 1 => if isPre (signL j) l = true then max (szL l j) (signL j).length else szL l j
theorem signL_len (j : Nat) (hj : j < 19) : (signL j).length ≤ 2 := (by decide : ∀ j : Fin 19, (signL (j.val : Int)).length ≤ 2) ⟨j, hj⟩
theorem szL_le (l : List UInt8) : ∀ j : Nat, j ≤ 19 → szL l j ≤ 2
  | 0, _ => by unfold szL; split <;> omega
  | j + 1, h => by
    have ih := szL_le l j (by omega)
    have hs : (signL j).length ≤ 2 := signL_len j (by omega)
    unfold szL
    split
    · omega
    · exact ih
set_option maxRecDepth 100000 in
set_option maxHeartbeats 4000000 in
theorem signSize_a (s : ByteArray) (hn : s.size ≤ 1000000) (hb0 : isPre [40] s.data.toList = true) (w : World) (hG : GlobE w) :
    Calls Tryz.prog 62 #[.string s] w fun r w' => r = .returned (.int .i64 (szL s.data.toList 19 : Int)) ∧ w = w' := by
  obtain ⟨l, hl⟩ : ∃ l, l = s.data.toList := ⟨_, rfl⟩
  have HP := Lib.hid (fun (p : ByteArray) => hasP_any s p (by omega))
  rw [← hl] at HP ⊢
  rw [← hl] at hb0
  clear hl
  have L := Lib.hid lks
  have LE := Lib.hid (szL_le l)
  have HG := Lib.hid hG
  clear hG
  have h40 := Lib.hid (show ∀ w, Calls Tryz.prog 101 #[.string s, .string ⟨#[40]⟩] w fun e w' => e = .returned (.bool true) ∧ w' = w from fun w => by rw [← hb0]; exact HP.out ⟨#[40]⟩ w)
  have BA := Lib.hid (show szL l 0 = 1 from by
    show (if isPre [40] l = true ∨ isPre [41] l = true then 1 else 0) = _
    rw [hb0]; rfl)
  clear hb0
  go_enter Tryz.func62, Tryz.ntmps62
  go_upto_region 4 with (go_at_call 101; refine (h40.out _).mono ?_; rintro r w' ⟨rfl, rfl⟩)
  apply wp_region_lit
  refine wpList_load rfl 82 (.global 0) rfl signsV (load_signs HG.out) ?_
  go_wp2
  clear h40
  generalize signsV = V at *
  go_loopg [3, 5, 13] 19 (fun q sz sg i wr => ∃ j : Nat, j + q = 19 ∧ sz = .int .i64 (szL l j : Int) ∧ i = .int .i64 (j : Int) ∧ wr = w')
  case atStart => exact ⟨0, by omega, by rw [BA.out]; rfl, rfl, rfl⟩
  case round =>
    obtain ⟨j, hk, rfl, rfl, rfl⟩ := hrel
    have HK := Lib.hid hk
    clear hk
    by_cases hj : j < 19
    · have d1 : decide ((j : Int) < 19) = true := by rw [decide_eq_true_iff]; omega
      have d2 : decide (j < 19) = true := by simpa using hj
      have lk : ∀ w, (Instr.index 82 V (.int .i64 (j : Int))).run Tryz.prog w = .ok (.string (signS j)) w := fun w => L.out w j hj
      have hle := LE.out j (by omega)
      have hstep : szL l (j + 1) = if isPre (signL j) l = true then max (szL l j) (signL j).length else szL l j := rfl
      have hps := HP.out (signS j)
      have e1 : (signS j).data.toList = signL j := rfl
      rw [e1] at hps
      have hsz : (signS j).size = (signL j).length := rfl
      have hsl : (signL j).length ≤ 2 := signL_len j hj
      cases hp : isPre (signL j) l
      · rw [hp] at hstep hps
        rw [if_neg (by simp)] at hstep
        have HS := Lib.hid hstep
        have HPs := Lib.hid hps
        clear hstep hps hp
        generalize signS j = sj at *
        go_wp2_with (go_at_call 101; refine (HPs.out _).mono ?_; rintro r w' ⟨rfl, rfl⟩)
        go_roundg (gk - 1)
        case measure => have := HK.out; omega
        case rel => exact ⟨j + 1, by have := HK.out; omega, by rw [HS.out], by go_num, rfl⟩
      · rw [hp] at hstep hps
        rw [if_pos rfl] at hstep
        have HPs := Lib.hid hps
        clear hps hp
        have HS := Lib.hid (show szL l (j + 1) = max (szL l j) (signS j).size by rw [hstep, hsz])
        rw [← hsz] at hsl
        clear hstep hsz
        generalize signS j = sj at *
        generalize hz : szL l j = z at *
        clear hz
        go_wp2_with (go_at_call 101; refine (HPs.out _).mono ?_; rintro r w' ⟨rfl, rfl⟩)
        go_roundg (gk - 1)
        case measure => have := HK.out; omega
        case rel => exact ⟨j + 1, by have := HK.out; omega, by rw [HS.out]; congr 1; omega, by go_num, rfl⟩
    · have d1 : decide ((j : Int) < 19) = false := by rw [decide_eq_false_iff_not]; omega
      have d2 : decide (j < 19) = false := by simpa using hj
      obtain rfl : j = 19 := by have := HK.out; omega
      go_wp2
      go_ret
      exact ⟨rfl, rfl⟩
set_option maxRecDepth 100000 in
set_option maxHeartbeats 4000000 in
theorem signSize_b (s : ByteArray) (hn : s.size ≤ 1000000) (hb0 : isPre [40] s.data.toList = false) (hb1 : isPre [41] s.data.toList = true) (w : World) (hG : GlobE w) :
    Calls Tryz.prog 62 #[.string s] w fun r w' => r = .returned (.int .i64 (szL s.data.toList 19 : Int)) ∧ w = w' := by
  obtain ⟨l, hl⟩ : ∃ l, l = s.data.toList := ⟨_, rfl⟩
  have HP := Lib.hid (fun (p : ByteArray) => hasP_any s p (by omega))
  rw [← hl] at HP ⊢
  rw [← hl] at hb0
  rw [← hl] at hb1
  clear hl
  have L := Lib.hid lks
  have LE := Lib.hid (szL_le l)
  have HG := Lib.hid hG
  clear hG
  have h40 := Lib.hid (show ∀ w, Calls Tryz.prog 101 #[.string s, .string ⟨#[40]⟩] w fun e w' => e = .returned (.bool false) ∧ w' = w from fun w => by rw [← hb0]; exact HP.out ⟨#[40]⟩ w)
  have h41 := Lib.hid (show ∀ w, Calls Tryz.prog 101 #[.string s, .string ⟨#[41]⟩] w fun e w' => e = .returned (.bool true) ∧ w' = w from fun w => by rw [← hb1]; exact HP.out ⟨#[41]⟩ w)
  have BA := Lib.hid (show szL l 0 = 1 from by
    show (if isPre [40] l = true ∨ isPre [41] l = true then 1 else 0) = _
    rw [hb0, hb1]; rfl)
  clear hb0 hb1
  go_enter Tryz.func62, Tryz.ntmps62
  go_upto_region 4 with (go_at_call 101; (first | (refine (h40.out _).mono ?_; rintro r w' ⟨rfl, rfl⟩) | (refine (h41.out _).mono ?_; rintro r w' ⟨rfl, rfl⟩)))
  apply wp_region_lit
  refine wpList_load rfl 82 (.global 0) rfl signsV (load_signs HG.out) ?_
  go_wp2
  clear h40 h41
  generalize signsV = V at *
  go_loopg [3, 5, 13] 19 (fun q sz sg i wr => ∃ j : Nat, j + q = 19 ∧ sz = .int .i64 (szL l j : Int) ∧ i = .int .i64 (j : Int) ∧ wr = w')
  case atStart => exact ⟨0, by omega, by rw [BA.out]; rfl, rfl, rfl⟩
  case round =>
    obtain ⟨j, hk, rfl, rfl, rfl⟩ := hrel
    have HK := Lib.hid hk
    clear hk
    by_cases hj : j < 19
    · have d1 : decide ((j : Int) < 19) = true := by rw [decide_eq_true_iff]; omega
      have d2 : decide (j < 19) = true := by simpa using hj
      have lk : ∀ w, (Instr.index 82 V (.int .i64 (j : Int))).run Tryz.prog w = .ok (.string (signS j)) w := fun w => L.out w j hj
      have hle := LE.out j (by omega)
      have hstep : szL l (j + 1) = if isPre (signL j) l = true then max (szL l j) (signL j).length else szL l j := rfl
      have hps := HP.out (signS j)
      have e1 : (signS j).data.toList = signL j := rfl
      rw [e1] at hps
      have hsz : (signS j).size = (signL j).length := rfl
      have hsl : (signL j).length ≤ 2 := signL_len j hj
      cases hp : isPre (signL j) l
      · rw [hp] at hstep hps
        rw [if_neg (by simp)] at hstep
        have HS := Lib.hid hstep
        have HPs := Lib.hid hps
        clear hstep hps hp
        generalize signS j = sj at *
        go_wp2_with (go_at_call 101; refine (HPs.out _).mono ?_; rintro r w' ⟨rfl, rfl⟩)
        go_roundg (gk - 1)
        case measure => have := HK.out; omega
        case rel => exact ⟨j + 1, by have := HK.out; omega, by rw [HS.out], by go_num, rfl⟩
      · rw [hp] at hstep hps
        rw [if_pos rfl] at hstep
        have HPs := Lib.hid hps
        clear hps hp
        have HS := Lib.hid (show szL l (j + 1) = max (szL l j) (signS j).size by rw [hstep, hsz])
        rw [← hsz] at hsl
        clear hstep hsz
        generalize signS j = sj at *
        generalize hz : szL l j = z at *
        clear hz
        go_wp2_with (go_at_call 101; refine (HPs.out _).mono ?_; rintro r w' ⟨rfl, rfl⟩)
        go_roundg (gk - 1)
        case measure => have := HK.out; omega
        case rel => exact ⟨j + 1, by have := HK.out; omega, by rw [HS.out]; congr 1; omega, by go_num, rfl⟩
    · have d1 : decide ((j : Int) < 19) = false := by rw [decide_eq_false_iff_not]; omega
      have d2 : decide (j < 19) = false := by simpa using hj
      obtain rfl : j = 19 := by have := HK.out; omega
      go_wp2
      go_ret
      exact ⟨rfl, rfl⟩
set_option maxRecDepth 100000 in
set_option maxHeartbeats 4000000 in
theorem signSize_c (s : ByteArray) (hn : s.size ≤ 1000000) (hb0 : isPre [40] s.data.toList = false) (hb1 : isPre [41] s.data.toList = false) (w : World) (hG : GlobE w) :
    Calls Tryz.prog 62 #[.string s] w fun r w' => r = .returned (.int .i64 (szL s.data.toList 19 : Int)) ∧ w = w' := by
  obtain ⟨l, hl⟩ : ∃ l, l = s.data.toList := ⟨_, rfl⟩
  have HP := Lib.hid (fun (p : ByteArray) => hasP_any s p (by omega))
  rw [← hl] at HP ⊢
  rw [← hl] at hb0
  rw [← hl] at hb1
  clear hl
  have L := Lib.hid lks
  have LE := Lib.hid (szL_le l)
  have HG := Lib.hid hG
  clear hG
  have h40 := Lib.hid (show ∀ w, Calls Tryz.prog 101 #[.string s, .string ⟨#[40]⟩] w fun e w' => e = .returned (.bool false) ∧ w' = w from fun w => by rw [← hb0]; exact HP.out ⟨#[40]⟩ w)
  have h41 := Lib.hid (show ∀ w, Calls Tryz.prog 101 #[.string s, .string ⟨#[41]⟩] w fun e w' => e = .returned (.bool false) ∧ w' = w from fun w => by rw [← hb1]; exact HP.out ⟨#[41]⟩ w)
  have BA := Lib.hid (show szL l 0 = 0 from by
    show (if isPre [40] l = true ∨ isPre [41] l = true then 1 else 0) = _
    rw [hb0, hb1]; rfl)
  clear hb0 hb1
  go_enter Tryz.func62, Tryz.ntmps62
  go_upto_region 4 with (go_at_call 101; (first | (refine (h40.out _).mono ?_; rintro r w' ⟨rfl, rfl⟩) | (refine (h41.out _).mono ?_; rintro r w' ⟨rfl, rfl⟩)))
  apply wp_region_lit
  refine wpList_load rfl 82 (.global 0) rfl signsV (load_signs HG.out) ?_
  go_wp2
  clear h40 h41
  generalize signsV = V at *
  go_loopg [3, 5, 13] 19 (fun q sz sg i wr => ∃ j : Nat, j + q = 19 ∧ sz = .int .i64 (szL l j : Int) ∧ i = .int .i64 (j : Int) ∧ wr = w')
  case atStart => exact ⟨0, by omega, by rw [BA.out]; rfl, rfl, rfl⟩
  case round =>
    obtain ⟨j, hk, rfl, rfl, rfl⟩ := hrel
    have HK := Lib.hid hk
    clear hk
    by_cases hj : j < 19
    · have d1 : decide ((j : Int) < 19) = true := by rw [decide_eq_true_iff]; omega
      have d2 : decide (j < 19) = true := by simpa using hj
      have lk : ∀ w, (Instr.index 82 V (.int .i64 (j : Int))).run Tryz.prog w = .ok (.string (signS j)) w := fun w => L.out w j hj
      have hle := LE.out j (by omega)
      have hstep : szL l (j + 1) = if isPre (signL j) l = true then max (szL l j) (signL j).length else szL l j := rfl
      have hps := HP.out (signS j)
      have e1 : (signS j).data.toList = signL j := rfl
      rw [e1] at hps
      have hsz : (signS j).size = (signL j).length := rfl
      have hsl : (signL j).length ≤ 2 := signL_len j hj
      cases hp : isPre (signL j) l
      · rw [hp] at hstep hps
        rw [if_neg (by simp)] at hstep
        have HS := Lib.hid hstep
        have HPs := Lib.hid hps
        clear hstep hps hp
        generalize signS j = sj at *
        go_wp2_with (go_at_call 101; refine (HPs.out _).mono ?_; rintro r w' ⟨rfl, rfl⟩)
        go_roundg (gk - 1)
        case measure => have := HK.out; omega
        case rel => exact ⟨j + 1, by have := HK.out; omega, by rw [HS.out], by go_num, rfl⟩
      · rw [hp] at hstep hps
        rw [if_pos rfl] at hstep
        have HPs := Lib.hid hps
        clear hps hp
        have HS := Lib.hid (show szL l (j + 1) = max (szL l j) (signS j).size by rw [hstep, hsz])
        rw [← hsz] at hsl
        clear hstep hsz
        generalize signS j = sj at *
        generalize hz : szL l j = z at *
        clear hz
        go_wp2_with (go_at_call 101; refine (HPs.out _).mono ?_; rintro r w' ⟨rfl, rfl⟩)
        go_roundg (gk - 1)
        case measure => have := HK.out; omega
        case rel => exact ⟨j + 1, by have := HK.out; omega, by rw [HS.out]; congr 1; omega, by go_num, rfl⟩
    · have d1 : decide ((j : Int) < 19) = false := by rw [decide_eq_false_iff_not]; omega
      have d2 : decide (j < 19) = false := by simpa using hj
      obtain rfl : j = 19 := by have := HK.out; omega
      go_wp2
      go_ret
      exact ⟨rfl, rfl⟩
theorem signSize_any (s : ByteArray) (hn : s.size ≤ 1000000) (w : World) (hG : GlobE w) :
    Calls Tryz.prog 62 #[.string s] w fun r w' => r = .returned (.int .i64 (szL s.data.toList 19 : Int)) ∧ w = w' := by
  cases h0 : isPre [40] s.data.toList
  · cases h1 : isPre [41] s.data.toList
    · exact signSize_c s hn h0 h1 w hG
    · exact signSize_b s hn h0 h1 w hG
  · exact signSize_a s hn h0 w hG
end Go.Proofs.YtfpjepeikjfkpaaGreatDoor
