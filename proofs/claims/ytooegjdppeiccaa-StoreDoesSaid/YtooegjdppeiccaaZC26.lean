import Derived.Test.YtooegjdppeiccaaZC25
import Derived.Deep.LoopGhost
import Derived.RegionTactic
import Derived.Lib.SliceRun
/-
  Package chain: Right, Size; a version with memory of its own; Same, by slices.EqualFunc.
-/
namespace Go.Proofs.Ytooegjdppeiccaa
open Go.RowKit

set_option maxRecDepth 100000 in
set_option maxHeartbeats 2000000 in
theorem dSize_any (l : List Ver) (A : Option Addr) (c : Nat) (hi : Nat) (w : World) (hl : l.length ≤ 9223372036854775807) (hsz : sizeH l ≤ 9223372036854775807) (hr : RowH w hi A l) (hhi : hi ≤ w.heap.size) :
    Calls Try.prog 108 #[.slice A l.length c] w fun r w' => r = .returned (.int .i64 (sizeH l : Nat)) ∧ Below w.heap.size w w' := by
  have HR := Lib.hid hr
  have HS := Lib.hid hsz
  clear hr hsz
  go_enter Try.func108, Try.ntmps108
  go_wp2
  go_loopg [3, 8] l.length (fun q v i wr => ∃ j n : Nat, j + q = l.length ∧ v = .int .i64 n ∧ i = .int .i64 j ∧ n = sizeH (l.take j) ∧ Below w.heap.size w wr)
  case atStart => exact ⟨0, 0, by omega, rfl, rfl, rfl, Below.refl _ _⟩
  case round =>
    obtain ⟨j, n, hk, rfl, rfl, hall, hb⟩ := hrel
    have HK := Lib.hid hk
    have HA := Lib.hid hall
    have HB := Lib.hid hb
    clear hall hb hk
    by_cases hj : j < l.length
    · have hlt : decide ((j : Int) < (l.length : Int)) = true := by simpa using hj
      have hlt2 : decide (j < l.length) = true := by simpa using hj
      obtain ⟨b, o, A', c', rfl, _, c0, c1, c2, hs, htm⟩ := (HR.out.below HB.out hhi (Nat.le_refl _)).at_ hj
      have HN := Lib.hid (show n + l[j].dat.length = sizeH (l.take (j + 1)) by rw [sizeH_take hj, HA.out])
      have hle : n + l[j].dat.length ≤ 9223372036854775807 := by rw [HN.out]; exact Nat.le_trans (sizeH_take_le _ _) HS.out
      clear hs htm
      generalize l[j] = x at *
      obtain ⟨tm, gone, dat⟩ := x
      simp only at c0 c1 c2 hle HN
      have hbn := HB.out.alloc HB.out.size (.cells #[.int .u64 tm, .bool gone, .slice A' dat.length c'] 103)
      have HBN := Lib.hid hbn
      clear hbn
      go_wp2
      go_roundg (gk - 1)
      case measure => have := HK.out; omega
      case rel => exact ⟨j + 1, n + dat.length, by have := HK.out; omega, by go_num, by go_num, HN.out, HBN.out⟩
    · have hj' : j = l.length := by have := HK.out; omega
      have hlt : decide ((j : Int) < (l.length : Int)) = false := by simpa using hj
      have HF := Lib.hid (show n = sizeH l by rw [HA.out, hj', List.take_length])
      clear hj'
      go_wp2
      go_ret
      rw [← HF.out]
      exact ⟨rfl, HB.out⟩

theorem infoB : ∃ i : TypeInfo, Try.prog.info? 5 = some i ∧ i.zero = some (.int .u8 0) ∧ i.size = 1 ∧ i.bytes = 1 := by
  have h : (Try.prog.info? 5).map (fun i => (i.zero, i.size, i.bytes)) = some (some (.int .u8 0), 1, 1) := by kernel_rfl
  obtain ⟨i, hi, he⟩ := Option.map_eq_some_iff.1 h
  simp only [Prod.mk.injEq] at he
  exact ⟨i, hi, he.1, he.2.1, he.2.2⟩
theorem Ret.sl {l : List UInt8} {w w' : World} {r : Ending} (h : Ret l w r w') : ∃ A c, r = .returned (.slice A l.length c) ∧ Sl w' w'.heap.size A c l ∧ Below w.heap.size w w' := by
  obtain ⟨A, c, e, h1, h2, h3, h4, h5⟩ := h
  exact ⟨A, c, e, ⟨h1, h2, h3, h4.wide (Nat.zero_le _) (Nat.le_refl _)⟩, h5⟩

set_option maxRecDepth 100000 in
set_option maxHeartbeats 2000000 in
theorem dClone_any (l : List UInt8) (A : Option Addr) (c hi : Nat) (w : World) (hl : l.length ≤ 4294967296) (hs : Sl w hi A c l) (hhi : hi ≤ w.heap.size) :
    Calls Try.prog 105 #[.slice A l.length c] w (Ret l w) := by
  obtain ⟨h1, h2, h3, h4⟩ := hs
  have q22 : ∀ (w : World) (a : Option Addr) (n c n' c' : Nat), (binOp .eql 41 (.slice a n c) (.slice none n' c')).run Try.prog w = .ok (.bool a.isNone) w := fun w a n c n' c' => Lib.run_eql_slice_nil w _ _ a n c n' c' Try.underlying41
  rcases A with _ | ad
  · have h0 : l = [] := by
      rcases Nat.eq_zero_or_pos l.length with h0 | h0
      · exact List.eq_nil_of_length_eq_zero h0
      · obtain ⟨b, o, hA, _⟩ := h4 h0
        cases hA
    subst h0
    go_enter Try.func105, Try.ntmps105
    go_wp2
    go_ret
    exact ⟨none, 0, rfl, Nat.le_refl _, Nat.zero_le _, fun _ => rfl, Rd.nil_, Below.refl _ _⟩
  · obtain ⟨i0, hi0, hz0, hz1, hz2⟩ := infoB
    have HR := Lib.hid (h4.below ((Below.refl _ w).alloc (Nat.le_refl _) (.cells #[] 5)) hhi)
    have HL := Lib.hid hl
    have HO := Lib.hid (World.ownsRow_made (e := 5) (size := 1) w #[] 0 (Nat.le_refl _) (Nat.zero_le _) (by simp))
    clear h4 h1 h2 h3 hl
    go_enter Try.func105, Try.ntmps105
    go_wp2_with (at_builtin; (refine append_rd _ rfl _ _ 41 rfl w.heap.size 5 i0 (.int .u8 0) Try.underlying41 hi0 hz0 hz1 hz2 rfl _ _ [] rfl HO.out _ _ (some ad) l.length c l rfl rfl (fun e => by cases e) HR.out (by have := HL.out; simp; omega) (by simp) ?_; intro v1 w1 ho hg; have hb : Below w.heap.size w w1 := ((Below.refl _ w).alloc (Nat.le_refl _) _).grown hg (by simp) (fun k hk => (World.ownsRow.lt HO.out k hk).1)))
    go_ret
    rw [List.nil_append, Nat.zero_add] at ho
    exact Ret.own ho hb

theorem box3_third {w : World} {b : Nat} {e : TypeId} {a0 a1 a2 : Value} (h : w.heap[b]? = some (.cells #[a0, a1, a2] e (0, 0))) (v : Value) :
    (w.setCell ⟨b, 2, none⟩ v).heap[b]? = some (.cells #[a0, a1, v] e (0, 0)) := by
  simp [World.setCell, Array.getElem?_modify, h]
theorem box_far {w : World} {b g : Nat} (hg : g ≠ b) (o : Nat) (v : Value) : (w.setCell ⟨b, o, none⟩ v).heap[g]? = w.heap[g]? := by
  have hg' : b ≠ g := fun e => hg e.symm
  simp [World.setCell, Array.getElem?_modify, hg']
theorem box_size (w : World) (p : Addr) (v : Value) : (w.setCell p v).heap.size = w.heap.size := by simp [World.setCell]

/-- A version is handed back, its bytes in memory of their own. -/
def RetV (v : Ver) (w : World) (r : Ending) (w' : World) : Prop := ∃ A c, r = .returned (verVal v A c) ∧ v.dat.length ≤ c ∧ c ≤ maxLen ∧ (A = none → c = 0) ∧ Rd w' w.heap.size w'.heap.size A v.dat ∧ Below w.heap.size w w'
theorem RetV.sl {v : Ver} {w w' : World} {r : Ending} (h : RetV v w r w') : ∃ A c, r = .returned (verVal v A c) ∧ Sl w' w'.heap.size A c v.dat ∧ Below w.heap.size w w' := by
  obtain ⟨A, c, e, h1, h2, h3, h4, h5⟩ := h
  exact ⟨A, c, e, ⟨h1, h2, h3, h4.wide (Nat.zero_le _) (Nat.le_refl _)⟩, h5⟩
set_option maxRecDepth 100000 in
set_option maxHeartbeats 2000000 in
theorem dOwn_any (v : Ver) (A : Option Addr) (c hi : Nat) (w : World) (hl : v.dat.length ≤ 4294967296) (hs : Sl w hi A c v.dat) (hhi : hi ≤ w.heap.size) :
    Calls Try.prog 122 #[verVal v A c] w (RetV v w) := by
  obtain ⟨tm, gone, dat⟩ := v
  simp only at hl hs
  obtain ⟨w0, hw0⟩ : ∃ y, w.alloc (.cells #[.int .u64 tm, .bool gone, .slice A dat.length c] 103) = y := ⟨_, rfl⟩
  obtain ⟨w1, hw1⟩ : ∃ y, w0.alloc (.cells #[.int .u64 0, .bool false, .slice none 0 0] 103) = y := ⟨_, rfl⟩
  have s0 : w0.heap.size = w.heap.size + 1 := by rw [← hw0]; simp
  have s1 : w1.heap.size = w.heap.size + 2 := by rw [← hw1]; simp [s0]
  have b0 : Below w.heap.size w w0 := by rw [← hw0]; exact (Below.refl _ w).alloc (Nat.le_refl _) _
  have b1 : Below w.heap.size w w1 := b0.trans (by rw [← hw1]; exact (Below.refl _ w0).alloc (by omega) _)
  have h0 : w1.heap[w.heap.size]? = some (.cells #[.int .u64 tm, .bool gone, .slice A dat.length c] 103 (0, 0)) := by
    rw [← hw1]; exact heap_allocs (by rw [← hw0]; exact heap_alloc_new w _) _
  have h1 : w1.heap[w.heap.size + 1]? = some (.cells #[.int .u64 0, .bool false, .slice none 0 0] 103 (0, 0)) := by
    rw [← hw1, ← s0]; exact heap_alloc_new w0 _
  have HC := Lib.hid (dClone_any dat A c hi w1 hl (hs.below b1 hhi (Nat.le_refl _)) (by omega))
  have HB := Lib.hid b1
  have H0 := Lib.hid h0
  have H1 := Lib.hid h1
  have HS1 := Lib.hid s1
  have HW0 := Lib.hid hw0
  have HW1 := Lib.hid hw1
  have c0 := cell_of_row w1 _ 0 _ _ _ h0
  have c1 := cell_of_row w1 _ 1 _ _ _ h0
  have c2 := cell_of_row w1 _ 2 _ _ _ h0
  clear b0 b1 s0 s1 h0 h1 hw0 hw1 hs hl
  unfold verVal
  go_enter Try.func122, Try.ntmps122
  go_upto_region 1 with fail
  rw [HW0.out, HW1.out]
  clear HW0 HW1
  go_wp2_with fail
  refine HC.out.mono ?_
  rintro r w2 hr
  obtain ⟨A', c', rfl, r1, r2, r3, hrd, hb⟩ := hr
  have hs0 := heap_below H0.out hb (by have := HS1.out; omega)
  have hs1 := heap_below H1.out hb (by have := HS1.out; omega)
  have hlt2 : w.heap.size + 2 ≤ w2.heap.size := by have := HS1.out; have := hb.size; omega
  have hx := box3_third hs0 (.slice A' dat.length c')
  have hy := (box_far (w := w2) (b := w.heap.size) (g := w.heap.size + 1) (by omega) 2 (.slice A' dat.length c')).trans hs1
  have f0 := frozen_of hs0 2
  have k2 := cell_of_row w2 _ 2 _ _ _ hs0
  have x0 := cell_of_row _ _ 0 _ _ _ hx
  have x1 := cell_of_row _ _ 1 _ _ _ hx
  have x2 := cell_of_row _ _ 2 _ _ _ hx
  have y0 := cell_of_row _ _ 0 _ _ _ hy
  have y1 := cell_of_row _ _ 1 _ _ _ hy
  have y2 := cell_of_row _ _ 2 _ _ _ hy
  have g0 := frozen_of hy 0
  have g1 := frozen_of hy 1
  have g2 := frozen_of hy 2
  have HZ := Lib.hid (box3_set hy (.int .u64 tm) (.bool gone) (.slice A' dat.length c'))
  have hb2 : Below w1.heap.size w1 (w2.setCell ⟨w.heap.size, 2, none⟩ (.slice A' dat.length c')) ∨ True := .inr trivial
  have HB2 := Lib.hid (Below.box3 ((HB.out.trans (hb.mono HB.out.size)).setCell (p := ⟨w.heap.size, 2, none⟩) (Nat.le_refl _) (.slice A' dat.length c')) (b := w.heap.size + 1) (by omega) (.int .u64 tm) (.bool gone) (.slice A' dat.length c'))
  have HRD := Lib.hid (hrd.keep (w' := (((w2.setCell ⟨w.heap.size, 2, none⟩ (.slice A' dat.length c')).setCell ⟨w.heap.size + 1, 0, none⟩ (.int .u64 tm)).setCell ⟨w.heap.size + 1, 1, none⟩ (.bool gone)).setCell ⟨w.heap.size + 1, 2, none⟩ (.slice A' dat.length c')) fun p hp _ => World.cell?_of_block (by
    have := HS1.out
    rw [box3_other (by omega), box_far (by omega)]))
  have HQ := Lib.hid (And.intro r1 (And.intro r2 r3))
  have HSZ := Lib.hid (box_size (((w2.setCell ⟨w.heap.size, 2, none⟩ (.slice A' dat.length c')).setCell ⟨w.heap.size + 1, 0, none⟩ (.int .u64 tm)).setCell ⟨w.heap.size + 1, 1, none⟩ (.bool gone)) ⟨w.heap.size + 1, 2, none⟩ (.slice A' dat.length c'))
  clear hb hrd r1 r2 r3 HC c0 c1 c2 hs0 hs1 hx hy hb2
  go_wp2
  have t0 := cell_of_row _ _ 0 _ _ _ HZ.out
  have t1 := cell_of_row _ _ 1 _ _ _ HZ.out
  have t2 := cell_of_row _ _ 2 _ _ _ HZ.out
  refine bodyPost_ret (v := .agg #[.int .u64 tm, .bool gone, .slice A' dat.length c']) (by simp [results, Try.results122, go_sem, t0, t1, t2]) rfl ?_
  refine ⟨A', c', rfl, HQ.out.1, HQ.out.2.1, HQ.out.2.2, HRD.out.wide HB.out.size ?_, HB2.out⟩
  simp only [box_size]
  exact Nat.le_refl _

end Go.Proofs.Ytooegjdppeiccaa
