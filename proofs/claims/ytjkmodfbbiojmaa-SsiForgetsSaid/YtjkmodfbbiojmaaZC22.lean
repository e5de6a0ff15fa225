import Derived.Test.YtjkmodfbbiojmaaZC20
import Derived.Test.YtjkmodfbbiojmaaZC21
import Derived.Lib.AppendZerosOnto
/-
  Package span, as it landed: what slices.Grow and slices.Concat do for it.
-/
namespace Go.Proofs.Ytjkmodfbbiojmaa
open Go.RowKit

theorem infoFull : ∃ i z, Try.prog.info? 58 = some i ∧ i.zero = some z ∧ z.cells.size = 2 ∧ i.size = 2 ∧ i.bytes = 32 := spInfo
set_option maxHeartbeats 4000000 in
set_option maxRecDepth 100000 in
theorem dGrow_any (n : Nat) (w : World) (hn : n ≤ 1000000) : Calls Try.prog 71 #[.slice none 0 0, .int .i64 n] w fun e w' => ∃ v, e = .returned v ∧ OwnG 58 2 spCells w' w.heap.size v ([] : List Sp) ∧ Below w.heap.size w w' := by
  by_cases h0 : n = 0
  · subst h0
    go_enter Try.func71, Try.ntmps71
    go_wp2
    go_ret
    exact ⟨_, rfl, OwnG.none_ _ _ _ _ _, Below.refl _ _⟩
  · obtain ⟨i0, z, hi0, hz0, hzs, hs2, hb2⟩ := infoFull
    have h1 : ¬ ((n : Int) < 0) := by omega
    have h4 : (n : Int) > 0 := by omega
    have hold : (Builtin.firstCells i0.size 0 (.slice none 0 0)).run Try.prog w.drew = .ok #[] w.drew := run_firstCells_none w.drew i0.size 0 0 0
    obtain ⟨G, hG⟩ : ∃ G, G = grownCap w n 0 58 := ⟨_, rfl⟩
    have hGn : n ≤ G := by rw [hG]; exact grownCap_ge w _ _ _
    have hG63 : G ≤ maxLen := by rw [hG]; exact grownCap_le_maxLen w n 0 58 (by unfold maxLen; omega)
    have hrz : ∀ ty, (Builtin.append_ #[27, 3] ty #[.slice none 0 0, .int .i64 (n : Int)]).run Try.prog w =
        .ok (.slice (some ⟨w.heap.size, 0, none⟩) n G) (w.drew.alloc (.cells (#[] ++ Builtin.zeroCells z.cells n ++ Builtin.zeroCells z.cells (G - n)) 58)) := fun ty => by
      have h := Lib.run_append_grow_zeros w 27 3 ty 58 i0 z .i64 .i64 Try.underlying27 Try.underlying3 hi0 hz0 none 0 0 [] hold n (by omega) (by omega) (by omega) (by omega)
        (by rw [hb2]; omega)
        (by rw [Nat.zero_add]; exact growslice_fits (by omega) (by rw [hb2]; omega))
      rw [Nat.zero_add, ← hG] at h
      simpa using h
    have HOw := Lib.hid (show OwnG 58 2 spCells (w.drew.alloc (.cells (#[] ++ Builtin.zeroCells z.cells n ++ Builtin.zeroCells z.cells (G - n)) 58)) w.heap.size (.slice (some ⟨w.heap.size, 0, none⟩) 0 G) ([] : List Sp) from by
      refine ⟨rfl, .inr ⟨w.heap.size, G, _, rfl, Nat.le_refl _, heap_alloc_new w.drew _, Nat.zero_le _, hG63, ?_, by simp [flatG]⟩⟩
      simp [Builtin.zeroCells, hzs]
      omega)
    have HBw := Lib.hid (show Below w.heap.size w (w.drew.alloc (.cells (#[] ++ Builtin.zeroCells z.cells n ++ Builtin.zeroCells z.cells (G - n)) 58)) from (Below.refl _ w).drew.alloc (Nat.le_refl _) _)
    have hG63' : G ≤ 9223372036854775807 := by unfold maxLen at hG63; omega
    generalize Obj.cells (#[] ++ Builtin.zeroCells z.cells n ++ Builtin.zeroCells z.cells (G - n)) 58 = ob at *
    clear hold hG hi0 hz0 hzs hs2 hb2
    go_enter Try.func71, Try.ntmps71
    go_wp2_with (at_builtin; refine Lib.wpList_append_run _ rfl _ _ _ _ rfl _ _ rfl rfl _ _ (hrz _) ?_)
    go_ret
    exact ⟨_, rfl, HOw.out, HBw.out⟩
end Go.Proofs.Ytjkmodfbbiojmaa

/-
  Package span, as it landed: slices.Concat of lists of stretches.
-/
namespace Go.Proofs.Ytjkmodfbbiojmaa
open Go.RowKit

/-- A list, and where it lies. -/
structure ML where
  A : Option Addr
  c : Nat
  l : List Sp
def mlCells (x : ML) : List Value := [.slice x.A x.l.length x.c]
theorem mlF : Fixed 1 mlCells := ⟨by decide, fun _ => rfl, fun x v hv => by
  simp only [mlCells, List.mem_cons, List.not_mem_nil, or_false] at hv
  rcases hv with rfl
  rfl⟩
def allL (ms : List ML) : List Sp := ms.flatMap ML.l
theorem allL_take {ms : List ML} {j : Nat} (hj : j < ms.length) : allL (ms.take (j + 1)) = allL (ms.take j) ++ (ms[j]'hj).l := by
  unfold allL
  rw [List.take_succ_eq_append_getElem hj, List.flatMap_append]
  simp
theorem allL_take_le (ms : List ML) (j : Nat) : (allL (ms.take j)).length ≤ (allL ms).length := by
  have : allL ms = allL (ms.take j) ++ allL (ms.drop j) := by
    unfold allL
    rw [← List.flatMap_append, List.take_append_drop]
  rw [this, List.length_append]
  omega
/-- The lists ms lie at A, below hi. -/
def ChL (w : World) (hi : Nat) (A : Option Addr) (ms : List ML) : Prop := RowG mlCells w 0 hi A ms ∧ ∀ x ∈ ms, ChI w hi x.A x.c x.l
theorem ChL.below {w w' : World} {hi B : Nat} {A : Option Addr} {ms : List ML} (h : ChL w hi A ms) (hb : Below B w w') (hB : hi ≤ B) : ChL w' hi A ms := ⟨h.1.below hb hB, fun x hx => (h.2 x hx).below hb hB (Nat.le_refl _)⟩
set_option maxHeartbeats 4000000 in
set_option maxRecDepth 100000 in
theorem dConcat_any (ms : List ML) (A : Option Addr) (c : Nat) (w : World) (hm : ms.length ≤ 100) (hl : (allL ms).length ≤ 1000000) (hr : ChL w w.heap.size A ms) :
    Calls Try.prog 62 #[.slice A ms.length c] w fun e w' => ∃ v, e = .returned v ∧ OwnG 58 2 spCells w' w.heap.size v (allL ms) ∧ Below w.heap.size w w' := by
  have HR := Lib.hid hr
  have HL := Lib.hid hl
  clear hr hl
  go_enter Try.func62, Try.ntmps62
  go_wp2
  go_loopg [3, 5, 11] ms.length (fun q n _ i wr => ∃ j : Nat, j + q = ms.length ∧ i = .int .i64 j ∧ n = .int .i64 ((allL (ms.take j)).length : Nat) ∧ w = wr)
  case atStart => exact ⟨0, by omega, rfl, rfl, rfl⟩
  case round =>
    obtain ⟨j, hk, rfl, rfl, rfl⟩ := hrel
    have HK := Lib.hid hk
    clear hk
    by_cases hj : j < ms.length
    · have hlt : decide ((j : Int) < (ms.length : Int)) = true := by simpa using hj
      have hlt2 : decide (j < ms.length) = true := by simpa using hj
      obtain ⟨b, o, rfl, _, _, hc⟩ := HR.out.1.at_ mlF hj
      have c0 := hc 0 _ rfl
      simp only [Nat.add_zero, Nat.mul_one] at c0
      have HT := Lib.hid (show (allL (ms.take (j + 1))).length = (allL (ms.take j)).length + (ms[j]'hj).l.length by rw [allL_take hj, List.length_append])
      have hle := allL_take_le ms (j + 1)
      rw [HT.out] at hle
      have hlm := HL.out
      clear hc
      generalize (ms[j]'hj).l.length = n at *
      generalize (allL (ms.take j)).length = m at *
      have d0 : decide ((m : Int) + (n : Int) < 0) = false := by rw [decide_eq_false_iff_not]; omega
      have d1 : ¬ ((m : Int) + (n : Int) < 0) := by omega
      go_wp2
      go_roundg (gk - 1)
      case measure => have := HK.out; omega
      case rel => exact ⟨j + 1, by have := HK.out; omega, by go_num, by rw [HT.out]; push_cast; rfl, rfl⟩
    · have hj' : j = ms.length := by have := HK.out; omega
      subst hj'
      have hlt : decide ((ms.length : Int) < (ms.length : Int)) = false := by simp
      have hlt2 : decide (ms.length < ms.length) = false := by simp
      rw [List.take_length]
      have HG := Lib.hid (dGrow_any (allL ms).length w HL.out)
      generalize hN : (allL ms).length = N at *
      have HNe := Lib.hid hN
      clear hj hN
      go_wp2_with fail
      refine HG.out.mono ?_
      rintro r w1 ⟨v1, rfl, ho1, hb1⟩
      have HO1 := Lib.hid ho1
      have HB1 := Lib.hid hb1
      clear ho1 hb1 HG
      go_wp2_with fail
      go_loopg [6, 8, 27] ms.length (fun q v _ i wr => ∃ j : Nat, j + q = ms.length ∧ i = .int .i64 j ∧ OwnG 58 2 spCells wr w.heap.size v (allL (ms.take j)) ∧ Below w.heap.size w wr)
      case atStart => exact ⟨0, by omega, rfl, HO1.out, HB1.out⟩
      case round =>
        obtain ⟨j, hk, rfl, ho, hb⟩ := hrel
        have HK2 := Lib.hid hk
        have HO := Lib.hid ho
        have HB := Lib.hid hb
        clear hk ho hb
        by_cases hj : j < ms.length
        · have hlt : decide ((j : Int) < (ms.length : Int)) = true := by simpa using hj
          have hlt2 : decide (j < ms.length) = true := by simpa using hj
          obtain ⟨b, o, rfl, _, _, hc⟩ := (HR.out.1.below HB.out (Nat.le_refl _)).at_ mlF hj
          have c0 := hc 0 _ rfl
          simp only [Nat.add_zero, Nat.mul_one] at c0
          have HT := Lib.hid (allL_take hj)
          have hX := (HR.out.2 _ (List.getElem_mem hj)).below HB.out (Nat.le_refl _) (Nat.le_refl _)
          have HX := Lib.hid hX
          have hle := allL_take_le ms (j + 1)
          rw [HT.out, List.length_append] at hle
          have HLe := Lib.hid (show (allL (ms.take j)).length + (ms[j]'hj).l.length ≤ 1000000 by have := HL.out; have := HNe.out; omega)
          have HSZ := Lib.hid HB.out.size
          clear hc hX hle
          generalize ms[j]'hj = x at *
          generalize allL (ms.take j) = M at *
          obtain ⟨xA, xc, xl⟩ := x
          simp only at c0 HT HX HLe
          go_wp2_with (at_builtin; refine append_row _ rfl _ _ 27 58 32 spF spInfo Try.underlying27 rfl w.heap.size _ M rfl HO.out 0 w.heap.size xA xl.length xc xl rfl rfl HX.out.2.2.1 HX.out.2.2.2 (by have := HLe.out; unfold maxLen; omega) (by have := HLe.out; omega) HSZ.out ?_; intro v2 w5 ho5 hg5; have HO5 := Lib.hid ho5; have HB5 := Lib.hid (OwnG.grown_below HB.out HO.out hg5 (Nat.le_refl _) HSZ.out); clear ho5 hg5)
          go_roundg (gk - 1)
          case measure => have := HK2.out; omega
          case rel => exact ⟨j + 1, by have := HK2.out; omega, by go_num, by rw [HT.out]; exact HO5.out, HB5.out⟩
        · have hj' : j = ms.length := by have := HK2.out; omega
          subst hj'
          have hlt : decide ((ms.length : Int) < (ms.length : Int)) = false := by simp
          have hlt2 : decide (ms.length < ms.length) = false := by simp
          rw [List.take_length] at HO
          clear hj
          go_wp2_with fail
          go_ret
          exact ⟨_, rfl, HO.out, HB.out⟩
end Go.Proofs.Ytjkmodfbbiojmaa
