import Derived.Test.YtjkmodfbbiojmaaZC24
import Derived.Deep.RegionLaw
/-
  Package span, as it landed: slices.Delete of a list of the call's own.
-/
namespace Go.Proofs.Ytjkmodfbbiojmaa
open Go.RowKit

theorem setCells_rowI2 (g : Nat) (t : TypeId) : ∀ (vs : List Value) (o : Nat) (w : World) (cur : Array Value), w.heap[g]? = some (.cells cur t (0, 0)) → o + vs.length ≤ cur.size →
    ∃ cur' : Array Value, (w.setCells g o vs).heap[g]? = some (.cells cur' t (0, 0)) ∧ cur'.size = cur.size ∧ (∀ i, i < o → cur'[i]? = cur[i]?) ∧ ∀ q u, vs[q]? = some u → cur'[o + q]? = some u
  | [], o, _, cur, h, _ => ⟨cur, h, rfl, fun _ _ => rfl, fun _ _ h => by cases h⟩
  | v :: vs, o, w, cur, h, hs => by
    have hs' : o + 1 + vs.length ≤ cur.size := by rw [List.length_cons] at hs; omega
    have h1 : (w.setCell ⟨g, o, none⟩ v).heap[g]? = some (.cells (cur.setIfInBounds o v) t (0, 0)) := by
      simp [World.setCell, Array.getElem?_modify, h]
    obtain ⟨cur', k1, k2, k3, k4⟩ := setCells_rowI2 g t vs (o + 1) (w.setCell ⟨g, o, none⟩ v) _ h1 (by rw [Array.size_setIfInBounds]; exact hs')
    refine ⟨cur', k1, by rw [k2, Array.size_setIfInBounds], fun i hi => ?_, fun q u hq => ?_⟩
    · rw [k3 i (by omega), Array.getElem?_setIfInBounds_ne (by omega)]
    · cases q with
      | zero =>
        rw [Nat.add_zero, k3 o (by omega), Array.getElem?_setIfInBounds_self_of_lt (by omega)]
        exact hq
      | succ q =>
        have := k4 q u hq
        rwa [show o + 1 + q = o + (q + 1) by omega] at this
theorem BlkI.splice {w : World} {lo b cap : Nat} {l : List Sp} (h : BlkI w lo b cap l) {i j : Nat} (hij : i ≤ j) (hj : j ≤ l.length) : BlkI (w.setCells b (i * 2) (flatG spCells (l.drop j))) lo b cap (l.take i ++ l.drop j) := by
  have hat := h.take i
  obtain ⟨cur, h1, h2, h3, h4, h5, h6⟩ := h
  have hdl : (flatG spCells (l.drop j)).length = (l.length - j) * 2 := by rw [spF.flat_len, List.length_drop]
  obtain ⟨cur', k1, k2, k3, k4⟩ := setCells_rowI2 b _ (flatG spCells (l.drop j)) (i * 2) w cur h2 (by rw [hdl]; omega)
  have htl : (l.take i).length = i := by rw [List.length_take]; omega
  have e1 : cur.toList.take (i * 2) = flatG spCells (l.take i) := by
    have e := congrArg (List.take (i * 2)) h6
    rw [List.take_take, spF.flat_take, show min (i * 2) (l.length * 2) = i * 2 by omega] at e
    exact e
  refine ⟨cur', h1, k1, by rw [List.length_append, htl, List.length_drop]; omega, h4, by rw [k2, h5], ?_⟩
  rw [flatG_append, ← e1, List.length_append, htl, List.length_drop]
  apply List.ext_getElem?
  intro t
  rw [List.getElem?_take]
  have hcl : i * 2 ≤ cur.toList.length := by rw [Array.length_toList]; omega
  by_cases ht : t < i * 2
  · rw [if_pos (by omega), List.getElem?_append_left (by rw [List.length_take]; omega), List.getElem?_take, if_pos ht, Array.getElem?_toList, Array.getElem?_toList, k3 t ht]
  · rw [List.getElem?_append_right (by rw [List.length_take]; omega), List.length_take, Nat.min_eq_left hcl]
    split
    · next h9 =>
      have hq : t - i * 2 < (flatG spCells (l.drop j)).length := by rw [hdl]; omega
      rw [Array.getElem?_toList, List.getElem?_eq_getElem hq]
      have := k4 (t - i * 2) _ (List.getElem?_eq_getElem hq)
      rwa [show i * 2 + (t - i * 2) = t by omega] at this
    · next h9 => rw [List.getElem?_eq_none (by rw [hdl]; omega)]
set_option maxRecDepth 100000 in
set_option maxHeartbeats 4000000 in
theorem dDelete_any (l : List Sp) (i j lo b cap : Nat) (w : World) (hij : i ≤ j) (hj : j ≤ l.length) (hl : l.length ≤ 1000000) (hb : BlkI w lo b cap l) (hlo : lo ≤ w.heap.size) :
    Calls Try.prog 47 #[.slice (some ⟨b, 0, none⟩) l.length cap, .int .i64 i, .int .i64 j] w fun e w' => e = .returned (.slice (some ⟨b, 0, none⟩) (l.take i ++ l.drop j).length cap) ∧ BlkI w' lo b cap (l.take i ++ l.drop j) ∧ Below lo w w' := by
  have hlc := hb.len.1
  have hcm := hb.len.2
  have a1 : (0 : Int) ≤ (i : Int) := by omega
  have a2 : (i : Int) ≤ (j : Int) := by omega
  have a3 : (j : Int) ≤ (l.length : Int) := by omega
  have a4 : (l.length : Int) ≤ (cap : Int) := by omega
  have HB := Lib.hid hb
  have HLO := Lib.hid hlo
  by_cases he : i = j
  · subst he
    have e1 : ((i : Int) == (i : Int)) = true := beq_self_eq_true _
    have HE := Lib.hid (show l.take i ++ l.drop i = l from List.take_append_drop i l)
    clear hb hlo
    rw [HE.out]
    go_enter Try.func47, Try.ntmps47
    go_wp2
    all_goals
      go_ret
      exact ⟨rfl, HB.out, Below.refl _ _⟩
  · have e1 : ((i : Int) == (j : Int)) = false := by rw [beq_eq_false_iff_ne]; omega
    have e2 : ¬ ((i : Int) = (j : Int)) := by omega
    have hlt : i < j := by omega
    have a5 : i ≤ cap := by omega
    have a6 : ¬ l.length = i := by omega
    obtain ⟨i0, z, hi0, hz0, hzs, hs2, hb2⟩ := infoFull
    have HI := Lib.hid hi0
    have HS2 := Lib.hid hs2
    have hbd : BlkI w.drew lo b cap l := hb
    have hsp := hbd.splice hij hj
    have HSp := Lib.hid hsp
    have HRow := Lib.hid (hbd.row.drop spF j cap hj hlc)
    have HBw := Lib.hid (Below.setCells (flatG spCells (l.drop j)) (i * 2) w w.drew (Below.refl lo w).drew hb.lt.1)
    obtain ⟨cur, g1, g2, _⟩ := hbd.cur
    have HSpare := Lib.hid (fun q (hq : q < (flatG spCells (l.drop j)).length) => (show (w.drew.cell? ⟨b, 0 + i * 2 + q, none⟩).isSome = true ∧ w.drew.frozen? ⟨b, 0 + i * 2 + q, none⟩ = false by
      refine ⟨?_, hbd.frozen _⟩
      rw [spF.flat_len, List.length_drop] at hq
      rw [cell_of_row w.drew b _ _ _ _ g1, Array.getElem?_eq_getElem (by omega)]
      rfl))
    have HLen := Lib.hid (show (l.take i ++ l.drop j).length = i + (l.length - j) by rw [List.length_append, List.length_take, List.length_drop]; omega)
    have HFl := Lib.hid (show (flatG spCells (l.drop j)).length = (l.length - j) * 2 by rw [spF.flat_len, List.length_drop])
    have hdl : (l.drop j).length = l.length - j := List.length_drop
    obtain ⟨N, hN⟩ : ∃ N, l.take i ++ l.drop j = N := ⟨_, rfl⟩
    rw [hN] at HSp HLen ⊢
    clear hb hbd hlo hi0 hz0 hzs hs2 hb2 g1 g2 hsp hN
    generalize hW : w.drew.setCells b (i * 2) (flatG spCells (l.drop j)) = w5 at *
    have HW := Lib.hid hW
    clear hW
    have HDel : ∀ (q : Nat), q = i + (l.length - j) → Hid (∀ ty, (Builtin.clear_ #[27] ty #[.slice (some ⟨b, q * 2, none⟩) (l.length - q) (cap - q)]).run Try.prog w5 = .ok (.tuple #[]) (w5.setCells b (q * 2) (zeroI (l.length - q)))) := fun q hq => Lib.hid fun ty => run_clearI (P := Try.prog) rfl HSp.out ty q (l.length - q) (cap - q) (by omega) (by omega)
    have HFin : ∀ (q : Nat), q = i + (l.length - j) → Hid (BlkI (w5.setCells b (q * 2) (zeroI (l.length - q))) lo b cap N ∧ Below lo w (w5.setCells b (q * 2) (zeroI (l.length - q)))) := fun q hq => Lib.hid ⟨by
      have h := HSp.out.tail q (zeroI (l.length - q))
      rw [List.take_of_length_le (by rw [HLen.out]; omega)] at h
      exact h, Below.setCells _ _ _ _ HBw.out HSp.out.lt.1⟩
    by_cases hcj : cap = j
    · have hdn : l.length - j = 0 := by omega
      have hcz : cap - j = 0 := by omega
      have HD := HDel i (by omega)
      have HFi := HFin i (by omega)
      have HLn := Lib.hid (show N.length = i by rw [HLen.out]; omega)
      subst hcj
      have hlcap : cap = l.length := by omega
      subst hlcap
      have HF0 := Lib.hid (show (flatG spCells (l.drop l.length)).length = 0 * 2 by rw [HFl.out]; omega)
      have HCell := Lib.hid (show ∀ (q : Nat) (u : Value), (flatG spCells (l.drop l.length))[q]? = some u → w.drew.cell? ((⟨b, 0, none⟩ : Addr).add q) = some u from fun q u hu => by
        have h9 := (List.getElem?_eq_some_iff.1 hu).1
        rw [HF0.out] at h9
        omega)
      obtain ⟨w6, hw6⟩ : ∃ y, w5.setCells b (i * 2) (zeroI (l.length - i)) = y := ⟨_, rfl⟩
      rw [hw6] at HD HFi
      have HW2 := Lib.hid (show w.drew.setCells b (i * 2) (flatG spCells []) = w5 by rw [← HW.out, List.drop_length])
      have q1 : (0 : Int) ≤ (i : Int) := by omega
      have q2 : (i : Int) ≤ (l.length : Int) := by omega
      have q3 : i ≤ l.length := by omega
      clear hw6 HDel HFin hij hj hdn hcz hdl
      go_enter Try.func47, Try.ntmps47
      go_wp2
      go_region_law (refine step_append_room rfl _ _ 27 rfl 58 i0 2 Try.underlying27 HI.out HS2.out b 0 i l.length rfl ⟨b, 0, none⟩ 0 0 (flatG spCells (l.drop l.length)) rfl HF0.out HCell.out (spF.flat_one _) (by omega) HSpare.out ?_)
      rw [HW2.out]
      have HDo := HD.out
      go_wp2
      go_ret
      exact ⟨by rw [HLn.out]; rfl, HFi.out.1, HFi.out.2⟩
    · have hR := HRow.out
      rw [if_neg hcj] at hR
      have HCell := Lib.hid (show ∀ (q : Nat) (u : Value), (flatG spCells (l.drop j))[q]? = some u → w.drew.cell? ((⟨b, j * 2, none⟩ : Addr).add q) = some u from fun q u hu => by
        have h9 := (List.getElem?_eq_some_iff.1 hu).1
        rw [spF.flat_len] at h9
        obtain ⟨b', o', e', _, _, hc'⟩ := hR (by omega)
        have e9 : b' = b ∧ o' = j * 2 := by
          simp [addr_add] at e'
          exact ⟨e'.1.symm, e'.2.symm⟩
        obtain ⟨rfl, rfl⟩ := e9
        rw [addr_add]
        exact hc' q u hu)
      clear hR
      go_enter Try.func47, Try.ntmps47
      go_wp2
      go_region_law (refine step_append_room rfl _ _ 27 rfl 58 i0 2 Try.underlying27 HI.out HS2.out b 0 i cap rfl ⟨b, j * 2, none⟩ (l.length - j) (cap - j) (flatG spCells (l.drop j)) rfl HFl.out HCell.out (spF.flat_one _) (by omega) HSpare.out ?_)
      obtain ⟨q, hq⟩ : ∃ q, i + (l.length - j) = q := ⟨_, rfl⟩
      have HD := HDel q hq.symm
      have HFi := HFin q hq.symm
      have HLn := Lib.hid (show N.length = q by rw [HLen.out]; omega)
      have q1 : (0 : Int) ≤ (q : Int) := by omega
      have q2 : (q : Int) ≤ (l.length : Int) := by omega
      have q3 : q ≤ l.length := by omega
      have q4 : ¬ cap = q := by omega
      obtain ⟨w6, hw6⟩ : ∃ y, w5.setCells b (q * 2) (zeroI (l.length - q)) = y := ⟨_, rfl⟩
      rw [hw6] at HD HFi
      rw [HW.out, hq]
      clear hw6 hq HDel HFin
      have HDo := HD.out
      go_wp2
      go_ret
      exact ⟨by rw [HLn.out]; rfl, HFi.out.1, HFi.out.2⟩
end Go.Proofs.Ytjkmodfbbiojmaa
