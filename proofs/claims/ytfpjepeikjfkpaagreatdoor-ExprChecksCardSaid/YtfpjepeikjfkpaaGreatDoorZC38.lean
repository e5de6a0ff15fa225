import Derived.Test.YtfpjepeikjfkpaaGreatDoorZC37
import Derived.Test.YtfpjepeikjfkpaaGreatDoorZC26
import Derived.Test.YtfpjepeikjfkpaaGreatDoorZC14
import Derived.Laws.MakeOwn
import Derived.Deep.QuietTactic
import Derived.BigQuiet
/-
  Package expr: the text that a term makes of the texts that it takes.
-/
namespace Go.Proofs.YtfpjepeikjfkpaaGreatDoor
open Go.RowKit

/-- A part as a text: how strong it is, and its text. -/
def WordAt (w : World) (b o : Nat) (p : Nat × List UInt8) : Prop := w.cell? ⟨b, o, none⟩ = some (.int .i64 (p.1 : Int)) ∧ w.cell? ⟨b, o + 1, none⟩ = some (.string ⟨p.2.toArray⟩)
def RowX (w : World) (hi : Nat) (A : Option Addr) (l : List (Nat × List UInt8)) : Prop :=
  0 < l.length → ∃ b o, A = some ⟨b, o, none⟩ ∧ b < hi ∧ ∀ j (h : j < l.length), WordAt w b (o + j * 2) (l[j]'h)
theorem WordAt.below {w w' : World} {B b o : Nat} {x : Nat × List UInt8} (h : WordAt w b o x) (hb : Below B w w') (hB : b < B) : WordAt w' b o x :=
  ⟨(hb.cell (p := ⟨b, o, none⟩) hB).trans h.1, (hb.cell (p := ⟨b, o + 1, none⟩) hB).trans h.2⟩
theorem RowX.below {w w' : World} {hi B : Nat} {A : Option Addr} {l : List (Nat × List UInt8)} (h : RowX w hi A l) (hb : Below B w w') (hB : hi ≤ B) : RowX w' hi A l := fun hn => by
  obtain ⟨b, o, e, h2, hc⟩ := h hn
  exact ⟨b, o, e, h2, fun j hj => (hc j hj).below hb (Nat.lt_of_lt_of_le h2 hB)⟩
theorem RowX.at_ {w : World} {hi k : Nat} {A : Option Addr} {l : List (Nat × List UInt8)} (h : RowX w hi A l) (hk : k < l.length) : ∃ b o, A = some ⟨b, o, none⟩ ∧ b < hi ∧ WordAt w b (o + k * 2) (l[k]'hk) := by
  obtain ⟨b, o, e, h2, hc⟩ := h (by omega)
  exact ⟨b, o, e, h2, hc k hk⟩

/-- A row of n texts in a block of its own, whose first j ones are told by f. -/
def HeldW (w : World) (g n j : Nat) (f : Nat → List UInt8) : Prop :=
  ∃ arr : Array Value, w.heap[g]? = some (.cells arr 9 (0, 0)) ∧ arr.size = n ∧ (∀ i, i < n → ∃ s, arr[i]? = some (.string s)) ∧ ∀ i, i < j → i < n → arr[i]? = some (.string ⟨(f i).toArray⟩)
theorem HeldW.lt {w : World} {g n j : Nat} {f : Nat → List UInt8} (h : HeldW w g n j f) : g < w.heap.size := by
  obtain ⟨arr, h, _⟩ := h
  exact (Array.getElem?_eq_some_iff.1 h).1
theorem HeldW.made (w : World) (n : Nat) (f : Nat → List UInt8) : HeldW (w.alloc (.cells (Array.replicate n (.string ⟨#[]⟩)) 9)) w.heap.size n 0 f :=
  ⟨_, heap_alloc_new w _, by simp, fun i hi => ⟨⟨#[]⟩, by simp [hi]⟩, fun i hi => absurd hi (by omega)⟩
theorem HeldW.any {w : World} {g n j : Nat} {f : Nat → List UInt8} (h : HeldW w g n j f) {i : Nat} (hi : i < n) : ∃ s, w.cell? ⟨g, i, none⟩ = some (.string s) := by
  obtain ⟨arr, h, _, ha, _⟩ := h
  obtain ⟨s, hs⟩ := ha i hi
  exact ⟨s, cellAt h hs⟩
theorem HeldW.cell {w : World} {g n j : Nat} {f : Nat → List UInt8} (h : HeldW w g n j f) {i : Nat} (hi : i < j) (hn : i < n) : w.cell? ⟨g, i, none⟩ = some (.string ⟨(f i).toArray⟩) := by
  obtain ⟨arr, h, _, _, hf⟩ := h
  exact cellAt h (hf i hi hn)
theorem HeldW.frozen {w : World} {g n j : Nat} {f : Nat → List UInt8} (h : HeldW w g n j f) (o : Nat) : w.frozen? ⟨g, o, none⟩ = false := by
  obtain ⟨arr, h, _⟩ := h
  exact frozenAt h
theorem HeldW.below {w w' : World} {g n j : Nat} {f : Nat → List UInt8} (h : HeldW w g n j f) (hb : Below w.heap.size w w') : HeldW w' g n j f := by
  have hl := h.lt
  obtain ⟨arr, h, r⟩ := h
  exact ⟨arr, (hb.block g hl).trans h, r⟩
theorem HeldW.alloc {w : World} {g n j : Nat} {f : Nat → List UInt8} (h : HeldW w g n j f) (o : Obj) : HeldW (w.alloc o) g n j f := h.below ((Below.refl _ _).alloc (Nat.le_refl _) _)
theorem HeldW.drew {w : World} {g n j : Nat} {f : Nat → List UInt8} (h : HeldW w g n j f) : HeldW w.drew g n j f := by
  obtain ⟨arr, h, r⟩ := h
  exact ⟨arr, by rw [heap_drew]; exact h, r⟩
theorem HeldW.put {w : World} {g n j : Nat} {f : Nat → List UInt8} (h : HeldW w g n j f) (s : ByteArray) : HeldW (w.setCell ⟨g, j, none⟩ (.string s)) g n j f := by
  obtain ⟨arr, h, hn, ha, hf⟩ := h
  refine ⟨arr.setIfInBounds j (.string s), by simp [World.setCell, Array.getElem?_modify, h], by simp [hn], fun i hi => ?_, fun i hi hin => ?_⟩
  · by_cases e : j = i
    · subst e
      exact ⟨s, by rw [Array.getElem?_setIfInBounds]; simp [hn, hi]⟩
    · rw [Array.getElem?_setIfInBounds, if_neg e]
      exact ha i hi
  · rw [Array.getElem?_setIfInBounds, if_neg (by omega)]
    exact hf i hi hin
theorem HeldW.set {w : World} {g n j : Nat} {f : Nat → List UInt8} (h : HeldW w g n j f) (s : ByteArray) (hs : s = ⟨(f j).toArray⟩) : HeldW (w.setCell ⟨g, j, none⟩ (.string s)) g n (j + 1) f := by
  obtain ⟨arr, h, hn, ha, hf⟩ := h
  refine ⟨arr.setIfInBounds j (.string s), by simp [World.setCell, Array.getElem?_modify, h], by simp [hn], fun i hi => ?_, fun i hi hin => ?_⟩
  · by_cases e : j = i
    · subst e
      exact ⟨s, by rw [Array.getElem?_setIfInBounds]; simp [hn, hi]⟩
    · rw [Array.getElem?_setIfInBounds, if_neg e]
      exact ha i hi
  · by_cases e : j = i
    · subst e
      rw [Array.getElem?_setIfInBounds, if_pos rfl, if_pos (by omega), hs]
    · rw [Array.getElem?_setIfInBounds, if_neg e]
      exact hf i (by omega) hin

set_option maxRecDepth 100000 in
theorem make_texts (n : Nat) (hn : n ≤ 100000) (w : World) : (Instr.makeSlice 28 (.int .i64 (n : Int)) (.int .i64 (n : Int))).run Tryz.prog w = .ok (.slice (some ⟨w.heap.size, 0, none⟩) n n) (w.alloc (.cells (Array.replicate n (.string ⟨#[]⟩)) 9)) := by
  obtain ⟨i, hi, hz, hs, hb⟩ := infoStr
  rw [run_make w 28 9 i _ Tryz.underlying28 hi hz .i64 .i64 n n (by omega) (by omega) (by rw [hb]; omega) (by omega), Int.toNat_natCast, hs, Nat.mul_one]
  congr 3
  unfold madeCells
  apply Array.ext
  · simp
  · intro i h1 h2
    simp [Value.cells, Nat.mod_one]
theorem ba_three (a b c : List UInt8) : (⟨a.toArray⟩ : ByteArray) ++ ⟨b.toArray⟩ ++ ⟨c.toArray⟩ = ⟨(a ++ b ++ c).toArray⟩ := by rw [ba_catT, ba_catT]
theorem ba_of (s : ByteArray) : s = ⟨s.data.toList.toArray⟩ := ba_list (by simp)

set_option maxRecDepth 100000 in
set_option maxHeartbeats 8000000 in
theorem write_any (t : TM) (l : List (Nat × List UInt8)) (A : Option Addr) (c : Nat) (ht : ownT t = 0) (hv0 : -9223372036854775808 ≤ t.v.n) (hv1 : t.v.n ≤ 9223372036854775807) (hm : t.nm.size ≤ 100) (hl : l.length = takesT t.op) (hd : ∀ p ∈ l, p.1 ≤ 7 ∧ p.2.length ≤ 1000000)
    (w : World) (hr : RowX w w.heap.size A l) (hG : GlobE w) :
    Calls Tryz.prog 32 #[termVal t, .slice A l.length c] w fun r w' => r = .returned (.string ⟨(writeD t l).toArray⟩) ∧ Below w.heap.size w w' := by
  have HR := Lib.hid hr
  have HD := Lib.hid hd
  have HG := Lib.hid hG
  have HLe := Lib.hid (fun p w => (dLeast_any t.op p w).mono fun _ _ h => And.intro h.1 h.2.symm)
  have hll : ∀ p, leastD t.op p ≤ 8 := fun p => by have := strD_le t.op; unfold leastD; split; omega; split <;> omega
  have HLL := Lib.hid hll
  have hn2 : l.length ≤ 2 := by rw [hl]; unfold takesT; split; omega; split <;> omega
  have hmk := fun w => make_texts l.length (by omega) w
  obtain ⟨f, hf⟩ : ∃ f : Nat → List UInt8, f = fun i => holdD t.op i (l.getD i (0, [])) := ⟨_, rfl⟩
  have hfj : ∀ j (h : j < l.length), f j = holdD t.op j (l[j]'h) := fun j h => by rw [hf]; simp [List.getD, h]
  have HF := Lib.hid hfj
  have HOwn := Lib.hid (own_op ht)
  have HT := Lib.hid ht
  have HLn := Lib.hid hl
  clear hr hd hll hG hf hfj ht hl
  obtain ⟨op, ⟨vk, vn, vs⟩, nm⟩ := t
  simp only [termVal] at *
  have hbox : Below w.heap.size w (w.alloc (.cells #[.int .i64 op, .int .i64 vk, .int .i64 vn, .string vs, .string nm] 44)) := (Below.refl _ w).alloc (Nat.le_refl _) _
  have HBox := Lib.hid hbox
  clear hbox
  go_enter Tryz.func32, Tryz.ntmps32
  go_wp2
  go_loopg [13] l.length (fun q i wr => ∃ j : Nat, j + q = l.length ∧ i = .int .i64 (j : Int) ∧ HeldW wr (w.heap.size + 1) l.length j f ∧ Below (w.heap.size + 1) (w.alloc (.cells #[.int .i64 op, .int .i64 vk, .int .i64 vn, .string vs, .string nm] 44)) wr)
  case atStart =>
    refine ⟨0, by omega, rfl, ?_, ?_⟩
    · have h := HeldW.made (w.alloc (.cells #[.int .i64 op, .int .i64 vk, .int .i64 vn, .string vs, .string nm] 44)) l.length f
      rw [show (w.alloc (.cells #[.int .i64 op, .int .i64 vk, .int .i64 vn, .string vs, .string nm] 44)).heap.size = w.heap.size + 1 from by simp] at h
      exact h
    · exact (Below.refl _ _).alloc (by simp) _
  case round =>
    obtain ⟨j, hk, rfl, hw, hb⟩ := hrel
    have HK := Lib.hid hk
    have HB := Lib.hid hb
    have HW := Lib.hid hw
    have hwl := hw.lt
    have t0 := (hb.cell (p := ⟨w.heap.size, 0, none⟩) (Nat.lt_succ_self _)).trans (show _ = some (Value.int .i64 op) by simp [go_sem])
    have HBw := Lib.hid (HBox.out.trans (hb.mono (Nat.le_succ _)))
    clear hb hk hw
    by_cases hj : j < l.length
    · have hlt : decide ((j : Int) < (l.length : Int)) = true := by simpa using hj
      have hlt2 : decide (j < l.length) = true := by simpa using hj
      have hji : (j : Int) < (l.length : Int) := by omega
      obtain ⟨b, o, rfl, hbl, c0, c1⟩ := (HR.out.below HBw.out (Nat.le_refl _)).at_ hj
      obtain ⟨s0, x0⟩ := HW.out.any hj
      have f0 := HW.out.frozen j
      have hp := HD.out _ (List.getElem_mem hj)
      have hfj := HF.out j hj
      generalize l[j] = p at *
      obtain ⟨s, tx⟩ := p
      simp only at c0 c1 hp hfj
      have hsz : (⟨tx.toArray⟩ : ByteArray).size ≤ 1000000 := by
        show tx.toArray.size ≤ _
        simpa using hp.2
      have HLe' := Lib.hid (HLe.out (j : Int))
      have hle' := HLL.out (j : Int)
      unfold holdD at hfj
      generalize leastD op (j : Int) = le at *
      cases hlq : decide (s < le)
      · have q1 : decide ((s : Int) < (le : Int)) = false := by rw [decide_eq_false_iff_not] at hlq ⊢; omega
        have HFj := Lib.hid (show f j = tx by rw [hfj, hlq]; rfl)
        clear hfj
        go_wp2
        obtain ⟨w6, hw6⟩ : ∃ wy, (wr.setCell ⟨w.heap.size + 1, j, none⟩ (.string ⟨tx.toArray⟩)).alloc (.cells #[.int .i64 (s : Int), .string ⟨tx.toArray⟩] 58) = wy := ⟨_, rfl⟩
        rw [hw6]
        have h6 : HeldW w6 (w.heap.size + 1) l.length (j + 1) f := by rw [← hw6]; exact (HW.out.set _ (by rw [HFj.out])).alloc _
        have b6 : Below (w.heap.size + 1) (w.alloc (.cells #[.int .i64 op, .int .i64 vk, .int .i64 vn, .string vs, .string nm] 44)) w6 := by rw [← hw6]; exact (HB.out.setCell (Nat.le_refl _) _).alloc (by simpa using HB.out.size) _
        have t6 := (b6.cell (p := ⟨w.heap.size, 0, none⟩) (Nat.lt_succ_self _)).trans (show _ = some (Value.int .i64 op) by simp [go_sem])
        have c6 : w6.cell? ⟨wr.heap.size, 0, none⟩ = some (.int .i64 (s : Int)) := by rw [← hw6]; simp [go_sem]
        have H6 := Lib.hid h6
        have B6 := Lib.hid b6
        clear h6 b6 hw6 t0
        go_region_with ((go_at_call 46; refine (HLe'.out _).mono ?_; rintro r w' ⟨rfl, rfl⟩))
        all_goals
          go_wp2
          go_roundg (gk - 1)
          case measure => have := HK.out; omega
          case rel => exact ⟨j + 1, by have := HK.out; omega, by go_num, H6.out.drew, B6.out.drew⟩
      · have q1 : decide ((s : Int) < (le : Int)) = true := by rw [decide_eq_true_iff] at hlq ⊢; omega
        have HFj := Lib.hid (show f j = 40 :: (tx ++ [41]) by rw [hfj, hlq]; rfl)
        clear hfj
        go_wp2
        obtain ⟨w6, hw6⟩ : ∃ wy, (wr.setCell ⟨w.heap.size + 1, j, none⟩ (.string ⟨tx.toArray⟩)).alloc (.cells #[.int .i64 (s : Int), .string ⟨tx.toArray⟩] 58) = wy := ⟨_, rfl⟩
        rw [hw6]
        have h6 : HeldW w6 (w.heap.size + 1) l.length j f := by rw [← hw6]; exact (HW.out.put _).alloc _
        have b6 : Below (w.heap.size + 1) (w.alloc (.cells #[.int .i64 op, .int .i64 vk, .int .i64 vn, .string vs, .string nm] 44)) w6 := by rw [← hw6]; exact (HB.out.setCell (Nat.le_refl _) _).alloc (by simpa using HB.out.size) _
        have t6 := (b6.cell (p := ⟨w.heap.size, 0, none⟩) (Nat.lt_succ_self _)).trans (show _ = some (Value.int .i64 op) by simp [go_sem])
        have c6 : w6.cell? ⟨wr.heap.size, 0, none⟩ = some (.int .i64 (s : Int)) := by rw [← hw6]; simp [go_sem]
        have c7 : w6.cell? ⟨wr.heap.size, 1, none⟩ = some (.string ⟨tx.toArray⟩) := by rw [← hw6]; simp [go_sem]
        obtain ⟨s6, x6⟩ := h6.any hj
        have g6 := h6.frozen j
        have l6 := h6.lt
        have H6 := Lib.hid h6
        have B6 := Lib.hid b6
        clear h6 b6 hw6 t0 x0 f0
        go_region_with ((go_at_call 46; refine (HLe'.out _).mono ?_; rintro r w' ⟨rfl, rfl⟩))
        all_goals
          go_wp2
          go_roundg (gk - 1)
          case measure => have := HK.out; omega
          case rel => exact ⟨j + 1, by have := HK.out; omega, by go_num, H6.out.drew.set _ (by rw [HFj.out]; exact ba_three [40] tx [41]), B6.out.drew.setCell (Nat.le_refl _) _⟩
    · have hlt : decide ((j : Int) < (l.length : Int)) = false := by simpa using hj
      have hlt2 : decide (j < l.length) = false := by simpa using hj
      have hj' : j = l.length := by have := HK.out; omega
      have HBx := HB.out
      have k0 := (HBx.cell (p := ⟨w.heap.size, 0, none⟩) (Nat.lt_succ_self _)).trans (show _ = some (Value.int .i64 op) by simp [go_sem])
      have k1 := (HBx.cell (p := ⟨w.heap.size, 1, none⟩) (Nat.lt_succ_self _)).trans (show _ = some (Value.int .i64 vk) by simp [go_sem])
      have k2 := (HBx.cell (p := ⟨w.heap.size, 2, none⟩) (Nat.lt_succ_self _)).trans (show _ = some (Value.int .i64 vn) by simp [go_sem])
      have k3 := (HBx.cell (p := ⟨w.heap.size, 3, none⟩) (Nat.lt_succ_self _)).trans (show _ = some (Value.string vs) by simp [go_sem])
      have k4 := (HBx.cell (p := ⟨w.heap.size, 4, none⟩) (Nat.lt_succ_self _)).trans (show _ = some (Value.string nm) by simp [go_sem])
      obtain ⟨o0, o18, ov, om⟩ := HOwn.out
      have hnl : nm.data.toList.length ≤ 100 := hm
      by_cases e3 : op < 3
      · have hl0 : l = [] := List.eq_nil_of_length_eq_zero (by rw [HLn.out]; exact if_pos e3)
        subst hl0
        have h3 : op = 0 ∨ op = 1 ∨ op = 2 := by omega
        clear e3 o0 o18 ov om HBx
        rcases h3 with rfl | rfl | rfl
        · have hr0 : rightV ⟨vk, vn, vs⟩ = 0 := by
            have h := HT.out
            unfold ownT at h
            split at h
            · cases h
            · simp only [if_pos] at h
              by_cases hr : rightV ⟨vk, vn, vs⟩ = 0
              · exact hr
              · rw [if_pos hr] at h
                exact absurd h hr
          have HP := Lib.hid (fun wx (hb : Below w.heap.size w wx) => vPrint_any ⟨vk, vn, vs⟩ wx (fun _ => (HG.out.below hb).tab) hr0 hv0 hv1)
          have HW' := Lib.hid (show writeD ⟨0, ⟨vk, vn, vs⟩, nm⟩ [] = printV ⟨vk, vn, vs⟩ from rfl)
          simp only [V.val] at HP
          clear hr0
          go_wp2_with (go_at_call 56; refine (HP.out _ HBw.out).mono ?_; rintro r w1 ⟨rfl, hb1⟩)
          go_ret
          rw [HW'.out]
          exact ⟨rfl, HBw.out.trans (hb1.mono HBw.out.size)⟩
        · have HW' := Lib.hid (show (⟨(writeD ⟨1, ⟨vk, vn, vs⟩, nm⟩ []).toArray⟩ : ByteArray) = nm from ba_selfT nm)
          go_wp2
          go_ret
          rw [HW'.out]
          exact ⟨rfl, HBw.out⟩
        · have HW' := Lib.hid (show (⟨(writeD ⟨2, ⟨vk, vn, vs⟩, nm⟩ []).toArray⟩ : ByteArray) = ⟨#[104, 97, 115, 40]⟩ ++ nm ++ ⟨#[41]⟩ from by
            show (⟨([104, 97, 115, 40] ++ nm.data.toList ++ [41]).toArray⟩ : ByteArray) = _
            rw [← ba_three, ba_selfT])
          go_wp2
          go_ret
          rw [HW'.out]
          exact ⟨rfl, HBw.out⟩
      · by_cases e6 : op < 6
        · have hl1 : l.length = 1 := by rw [HLn.out]; unfold takesT; rw [if_neg e3, if_pos e6]
          obtain ⟨p, rfl⟩ := List.length_eq_one_iff.1 hl1
          obtain ⟨s, tx⟩ := p
          have x0 := HW.out.cell (i := 0) (by omega) (by simp)
          have hf0 := HF.out 0 (by simp)
          simp only [List.getElem_cons_zero] at hf0
          have hp := HD.out _ (List.mem_singleton.2 rfl)
          have hfl : (f 0).length ≤ 1000002 := by
            rw [hf0]
            unfold holdD
            have := wrapL_len (decide ((s, tx).1 < leastD op ((0 : Nat) : Int))) (s, tx).2
            simp only at hp this ⊢
            omega
          have hwd : writeD ⟨op, ⟨vk, vn, vs⟩, nm⟩ [(s, tx)] = if op = 5 then [108, 101, 110, 40] ++ f 0 ++ [41] else signL op ++ f 0 := by
            rw [hf0]
            unfold writeD
            rw [if_neg (by simp only; omega), if_neg (by simp only; omega), if_neg (by simp only; omega)]
          have HWd := Lib.hid hwd
          clear hf0 hwd hl1
          generalize f 0 = tx0 at *
          have hfs : (⟨tx0.toArray⟩ : ByteArray).size ≤ 1000002 := by
            show tx0.toArray.size ≤ _
            simpa using hfl
          have h3 : op = 3 ∨ op = 4 ∨ op = 5 := by omega
          clear e3 e6 o0 o18 ov om HBx
          rcases h3 with rfl | rfl | rfl
          · have c := sgn3 (HG.out.below HBw.out)
            have z1 : ¬ (9223372036854775807 < 1 + tx0.length) := by omega
            go_wp2
            go_region
            go_wp2
            go_ret
            rw [HWd.out]
            exact ⟨congrArg (fun z => Ending.returned (Value.string z)) (ba_catT [45] tx0), HBw.out.drew⟩
          · have c := sgn4 (HG.out.below HBw.out)
            have z1 : ¬ (9223372036854775807 < 1 + tx0.length) := by omega
            go_wp2
            go_region
            go_wp2
            go_ret
            rw [HWd.out]
            exact ⟨congrArg (fun z => Ending.returned (Value.string z)) (ba_catT [33] tx0), HBw.out.drew⟩
          · go_wp2
            go_ret
            rw [HWd.out]
            exact ⟨congrArg (fun z => Ending.returned (Value.string z)) (ba_three [108, 101, 110, 40] tx0 [41]), HBw.out⟩
        · have hl2 : l.length = 2 := by rw [HLn.out]; unfold takesT; rw [if_neg e3, if_neg e6]
          obtain ⟨p, q, rfl⟩ : ∃ p q, l = [p, q] := by
            match l, hl2 with
            | [p, q], _ => exact ⟨p, q, rfl⟩
          have x0 := HW.out.cell (i := 0) (by omega) (by simp)
          have x1 := HW.out.cell (i := 1) (by omega) (by simp)
          have hf0 := HF.out 0 (by simp)
          have hf1 := HF.out 1 (by simp)
          simp only [List.getElem_cons_zero, List.getElem_cons_succ] at hf0 hf1
          have hp := HD.out p (by simp)
          have hq := HD.out q (by simp)
          have hfl : (f 0).length ≤ 1000002 ∧ (f 1).length ≤ 1000002 := by
            rw [hf0, hf1]
            unfold holdD
            have h1 := wrapL_len (decide (p.1 < leastD op ((0 : Nat) : Int))) p.2
            have h2 := wrapL_len (decide (q.1 < leastD op ((1 : Nat) : Int))) q.2
            omega
          have hwd : writeD ⟨op, ⟨vk, vn, vs⟩, nm⟩ [p, q] = f 0 ++ [32] ++ signL op ++ [32] ++ f 1 := by
            rw [hf0, hf1]
            unfold writeD
            rw [if_neg (by simp only; omega), if_neg (by simp only; omega), if_neg (by simp only; omega)]
          have HWd := Lib.hid hwd
          clear hf0 hf1 hwd hl2
          generalize f 0 = ta at *
          generalize f 1 = tb at *
          have hfs : (⟨ta.toArray⟩ : ByteArray).size ≤ 1000002 := by
            show ta.toArray.size ≤ _
            simpa using hfl.1
          have hfs2 : (⟨tb.toArray⟩ : ByteArray).size ≤ 1000002 := by
            show tb.toArray.size ≤ _
            simpa using hfl.2
          obtain ⟨n, rfl⟩ : ∃ n : Nat, op = (n : Int) := ⟨op.toNat, by omega⟩
          have d0 : ((n : Int) == 0) = false := by rw [beq_eq_false_iff_ne]; omega
          have d1 : ((n : Int) == 1) = false := by rw [beq_eq_false_iff_ne]; omega
          have d2 : ((n : Int) == 2) = false := by rw [beq_eq_false_iff_ne]; omega
          have d3 : ((n : Int) == 3) = false := by rw [beq_eq_false_iff_ne]; omega
          have d4 : ((n : Int) == 4) = false := by rw [beq_eq_false_iff_ne]; omega
          have d5 : ((n : Int) == 5) = false := by rw [beq_eq_false_iff_ne]; omega
          have d0' : (n == 0) = false := by rw [beq_eq_false_iff_ne]; omega
          have d1' : (n == 1) = false := by rw [beq_eq_false_iff_ne]; omega
          have d2' : (n == 2) = false := by rw [beq_eq_false_iff_ne]; omega
          have d3' : (n == 3) = false := by rw [beq_eq_false_iff_ne]; omega
          have d4' : (n == 4) = false := by rw [beq_eq_false_iff_ne]; omega
          have d5' : (n == 5) = false := by rw [beq_eq_false_iff_ne]; omega
          have c := sgn_at (HG.out.below HBw.out) n (by omega)
          have n19 : n < 19 := by omega
          have n19i : (n : Int) < 19 := by omega
          have hsl := signL_len n n19
          have hsz : (signS n).size = (signL (n : Int)).length := rfl
          have HSg := Lib.hid (show signS n = ⟨(signL (n : Int)).toArray⟩ from rfl)
          rw [← hsz] at hsl
          clear hsz e3 e6 o0 o18 ov om HBx
          generalize signS n = sg at *
          have y1 : ¬ (9223372036854775807 < ta.length + 1) := by omega
          have y2 : ¬ (9223372036854775807 < ta.length + 1 + sg.size) := by omega
          have y3 : ¬ (9223372036854775807 < ta.length + 1 + sg.size + 1) := by omega
          have y4 : ¬ (9223372036854775807 < ta.length + 1 + sg.size + 1 + tb.length) := by omega
          go_wp2
          go_region
          go_wp2
          go_ret
          rw [HWd.out, HSg.out]
          exact ⟨congrArg (fun z => Ending.returned (Value.string z)) (by rw [← ba_catT, ← ba_catT, ← ba_catT, ← ba_catT]), HBw.out.drew⟩
end Go.Proofs.YtfpjepeikjfkpaaGreatDoor
