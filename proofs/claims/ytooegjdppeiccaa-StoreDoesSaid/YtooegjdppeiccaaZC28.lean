import Derived.Test.YtooegjdppeiccaaZC27
import Derived.Deep.DeepCutAuto
import Derived.Deep.RegionHeld3
import Derived.Deep.RegionWith
/-
  Package chain: a chain with memory of its own; Trim.
-/
namespace Go.Proofs.Ytooegjdppeiccaa
open Go.RowKit

/-- A version whose bytes lie in blocks from lo on. -/
def OkFar (w : World) (lo hi : Nat) (x : MV) : Prop := x.v.tm < 18446744073709551616 ∧ x.v.dat.length ≤ x.c ∧ x.c ≤ maxLen ∧ (x.A = none → x.c = 0) ∧ Rd w lo hi x.A x.v.dat
theorem OkFar.ok {w : World} {lo hi : Nat} {x : MV} (h : OkFar w lo hi x) : OkMV w hi x := ⟨h.1, h.2.1, h.2.2.1, h.2.2.2.1, h.2.2.2.2.wide (Nat.zero_le _) (Nat.le_refl _)⟩
theorem OkFar.keep {w w' : World} {lo hi hi' : Nat} {x : MV} (h : OkFar w lo hi x) (hk : ∀ g, lo ≤ g → g < hi → w'.heap[g]? = w.heap[g]?) (hh : hi ≤ hi') : OkFar w' lo hi' x :=
  ⟨h.1, h.2.1, h.2.2.1, h.2.2.2.1, (h.2.2.2.2.keep fun p h1 h2 => World.cell?_of_block (hk p.block h1 h2)).wide (Nat.le_refl _) hh⟩

set_option maxRecDepth 100000 in
set_option maxHeartbeats 4000000 in
theorem dOwned_any (l : List Ver) (A : Option Addr) (c hi : Nat) (w : World) (hl : l.length ≤ 4294967297) (hd : ∀ x ∈ l, x.dat.length ≤ 4294967296) (hr : RowH w hi A l) (hhi : hi ≤ w.heap.size) :
    Calls Try.prog 113 #[.slice A l.length c] w (RetCh l w) := by
  have HR := Lib.hid hr
  have HD := Lib.hid hd
  have HL := Lib.hid hl
  obtain ⟨i0, z, hi0, _, _, hz2, _⟩ := mvInfo
  clear hr hd
  go_enter Try.func113, Try.ntmps113
  go_wp2_with (at_make; refine make_row (α := MV) (cs := mvCells) _ rfl _ _ 56 103 40 mvInfo Try.underlying56 rfl l.length .i64 .i64 _ rfl rfl rfl (by have := HL.out; unfold maxLen; omega) (by have := HL.out; omega) ?_; intro w1 ho hg; have HO1 := Lib.hid ho; have HB1 := Lib.hid ((Below.refl _ w).grown hg (Nat.le_refl _) (fun _ h => by cases h)); clear ho hg)
  go_loopg [3, 11] l.length (fun q v i wr => ∃ (j : Nat) (ms : List MV), j + q = l.length ∧ v = .slice (some ⟨w.heap.size, 0, none⟩) j l.length ∧ i = .int .i64 j ∧ ms.length = j ∧ OwnG 103 3 mvCells wr w.heap.size (.slice (some ⟨w.heap.size, 0, none⟩) j l.length) ms ∧ ms.map MV.v = l.take j ∧ (∀ x ∈ ms, OkFar wr (w.heap.size + 1) wr.heap.size x) ∧ Below w.heap.size w wr)
  case atStart => exact ⟨0, [], by omega, rfl, rfl, rfl, HO1.out, rfl, by simp, HB1.out⟩
  case round =>
    obtain ⟨j, ms, hk, rfl, rfl, hml, ho, hms, hok, hb⟩ := hrel
    have HK := Lib.hid hk
    have HB := Lib.hid hb
    have HO := Lib.hid ho
    have HMS := Lib.hid hms
    have HOK := Lib.hid hok
    have HML := Lib.hid hml
    clear hk hb ho hms hok hml
    by_cases hj : j < l.length
    · have hlt : decide ((j : Int) < (l.length : Int)) = true := by simpa using hj
      have hlt2 : decide (j < l.length) = true := by simpa using hj
      obtain ⟨b, o, A', c', rfl, _, c0, c1, c2, hs, htm⟩ := (HR.out.below HB.out hhi (Nat.le_refl _)).at_ hj
      have HTS := Lib.hid (show l.take (j + 1) = l.take j ++ [l[j]] from by rw [List.take_succ_eq_append_getElem hj])
      have hba : Below wr.heap.size wr (wr.alloc (.cells #[.int .u64 (l[j]'hj).tm, .bool (l[j]'hj).gone, .slice A' (l[j]'hj).dat.length c'] 103)) := (Below.refl _ wr).alloc (Nat.le_refl _) _
      have hsz := HB.out.size
      have HCall := Lib.hid (dOwn_any (l[j]'hj) A' c' hi (wr.alloc (.cells #[.int .u64 (l[j]'hj).tm, .bool (l[j]'hj).gone, .slice A' (l[j]'hj).dat.length c'] 103)) (HD.out _ (List.getElem_mem hj)) (hs.below hba (by omega) (Nat.le_refl _)) (by simp; omega))
      have HBA := Lib.hid hba
      have HTM := Lib.hid htm
      clear hs htm hba
      generalize l[j] = x at *
      obtain ⟨tm, gone, dat⟩ := x
      unfold verVal at HCall
      simp only at c0 c1 c2 HCall HTM HBA
      have hown := HO.out.lt w.heap.size rfl
      go_wp2_with fail
      refine HCall.out.mono ?_
      rintro r w2 ⟨A9, c9, rfl, r1, r2, r3, hrd, hb2⟩
      have hb3 := HBA.out.trans (hb2.mono HBA.out.size)
      have HO2 := Lib.hid ((HO.out.below hb3).allocs (.cells #[.int .u64 tm, .bool gone, .slice A9 dat.length c9] 103))
      have HB2 := Lib.hid ((Below.refl wr.heap.size wr).trans hb3)
      have HX := Lib.hid (show wr.heap.size + 1 ≤ w2.heap.size by have := hb2.size; simpa using this)
      have HV := Lib.hid (show OkFar w2 (w.heap.size + 1) w2.heap.size ⟨⟨tm, gone, dat⟩, A9, c9⟩ from ⟨HTM.out, r1, r2, r3, hrd.wide (by simp; omega) (Nat.le_refl _)⟩)
      have HKP : Hid (∀ w3, (w2.alloc (.cells #[.int .u64 tm, .bool gone, .slice A9 dat.length c9] 103)).grownBy w3 (some w.heap.size) → (∀ g, w.heap.size + 1 ≤ g → g < w2.heap.size → w3.heap[g]? = w2.heap[g]?) ∧ w2.heap.size ≤ w3.heap.size) := Lib.hid fun w3 hg => by
        refine ⟨fun g h1 h2 => ?_, Nat.le_trans (by simp) hg.size⟩
        rw [hg.block g (by simp; omega) (by simp; omega)]
        exact ((Below.refl w2.heap.size w2).alloc (Nat.le_refl _) _).block g h2
      clear hrd hb2 hb3 r1 r2 r3 HCall c0 c1 c2
      unfold verVal
      go_wp2_with (at_builtin; (refine append_fits_row (α := MV) (cs := mvCells) _ rfl _ _ 56 103 40 mvF mvInfo Try.underlying56 rfl w.heap.size w.heap.size j l.length ms rfl HML.out.symm HO2.out w2.heap.size (w2.heap.size + 1) ⟨w2.heap.size, 0, none⟩ 1 1 [⟨⟨tm, gone, dat⟩, A9, c9⟩] rfl rfl (RowG.one (heap_alloc_new w2 _)) (by omega) ?_; intro w3 ho3 hg3; have HO3 := Lib.hid ho3; have HG3 := Lib.hid hg3; clear ho3 hg3))
      go_roundg (gk - 1)
      case measure => have := HK.out; omega
      case rel =>
        obtain ⟨k1, k2⟩ := HKP.out w3 HG3.out
        refine ⟨j + 1, ms ++ [⟨⟨tm, gone, dat⟩, A9, c9⟩], by have := HK.out; omega, rfl, by go_num, by rw [List.length_append, HML.out]; rfl, HO3.out, by rw [List.map_append, HMS.out, HTS.out]; rfl, fun x hx => ?_, ?_⟩
        · rcases List.mem_append.1 hx with hx | hx
          · refine (HOK.out x hx).keep (fun g h1 h2 => ?_) (Nat.le_trans HB2.out.size k2)
            rw [k1 g h1 (Nat.lt_of_lt_of_le h2 HB2.out.size)]
            exact HB2.out.block g h2
          · rw [List.mem_singleton] at hx
            subst hx
            exact HV.out.keep k1 k2
        · exact ((HB.out.trans (HB2.out.mono HB.out.size)).alloc (Nat.le_trans HB.out.size HB2.out.size) _).grown HG3.out (Nat.le_trans (Nat.le_trans HB.out.size HB2.out.size) (by simp)) (fun k hk => by cases hk; exact Nat.le_refl _)
    · have hj' : j = l.length := by have := HK.out; omega
      have hlt : decide ((j : Int) < (l.length : Int)) = false := by simpa using hj
      obtain ⟨A9, c9, e, k1, k2, k3, k4⟩ := HO.out.form
      have hml : ms.length = l.length := by rw [HML.out, hj']
      injection e with e1 e2 e3
      subst e3
      have HQ := Lib.hid (show RetCh l w (.returned (.slice (some ⟨w.heap.size, 0, none⟩) l.length l.length)) wr from ⟨_, _, rfl, ⟨Nat.le_refl _, k2, (fun e => by cases e), ms, by rw [HMS.out, hj', List.take_length], by rw [e1]; exact k4.wide (Nat.zero_le _) (Nat.le_refl _), fun x hx => (HOK.out x hx).ok⟩, HB.out⟩)
      subst hj'
      clear k1 k2 k3 k4 hml
      go_wp2
      go_ret
      exact HQ.out
end Go.Proofs.Ytooegjdppeiccaa

/-
  Package chain: Trim, Put; the contracts.
-/
namespace Go.Proofs.Ytooegjdppeiccaa
open Go.RowKit

theorem okLen.each {l : List Ver} (h : okLen l) : ∀ x ∈ l, x.dat.length ≤ 4294967296 := fun x hx => Nat.le_trans (size_mem hx) h.2
set_option maxRecDepth 100000 in
set_option maxHeartbeats 4000000 in
theorem dTrim_any (l : List Ver) (A : Option Addr) (c low : Nat) (w : World) (hk : okLen l) (hr : ChH w w.heap.size A c l) (hri : rightC l = true) :
    Calls Try.prog 98 #[.slice A l.length c, .int .u64 low] w (RetCh (trimH l low) w) := by
  have HUp := Lib.hid (dUpTo_any l A c low w.heap.size w hk.1 hr.2.2.2 (Nat.le_refl _) (right_pairD hri))
  have HCut : Hid (∀ (j : Nat) (W : World), j ≤ l.length → Calls Try.prog 114 #[.slice A l.length c, .int .i64 j] W fun r w' => r = .returned (.slice (cutA A l.length j) (l.length - j) (l.length - j)) ∧ W = w') := Lib.hid fun j W hj => dCut_any l.length A c j W (by have := hk.1; omega) hr.1 hj
  have HOwn : Hid (∀ (j : Nat) (W : World), j ≤ l.length → trimH l low = l.drop j → Below w.heap.size w W → Calls Try.prog 113 #[.slice (cutA A l.length j) (l.length - j) (l.length - j)] W (RetCh (trimH l low) w)) := Lib.hid fun j W hj he hb => by
    have h := dOwned_any (l.drop j) (cutA A l.length j) (l.length - j) w.heap.size W (by rw [List.length_drop]; have := hk.1; omega) (fun x hx => hk.each x (List.mem_of_mem_drop hx)) ((hr.2.2.2.below hb (Nat.le_refl _) (Nat.le_refl _)).drop j hj) hb.size
    rw [List.length_drop] at h
    rw [he]
    exact h.mono fun _ _ ⟨A9, c9, e, hc, hb2⟩ => ⟨A9, c9, e, hc, hb.trans (hb2.mono hb.size)⟩
  have HR := Lib.hid hr.2.2.2
  have HK := Lib.hid hk
  have HTR : Hid (trimH l low = keepH (findH l low) ++ l.filter fun v => decide (low < v.tm)) := Lib.hid rfl
  generalize trimH l low = T at *
  clear hr hri hk
  go_enter Try.func98, Try.ntmps98
  go_wp2_with fail
  refine HUp.out.mono ?_
  rintro r w1 ⟨⟨m, rfl, hsp⟩, hb⟩
  have HSP := Lib.hid hsp
  have HB := Lib.hid hb
  have hml : m ≤ l.length := hsp.1
  have hml2 : m ≤ 4294967296 := Nat.le_trans hml HK.out.1
  clear hsp hb HUp
  rcases Nat.eq_zero_or_pos m with rfl | hm
  · have HT := Lib.hid (show T = l.drop 0 by rw [HTR.out, HSP.out.none_, HSP.out.behind]; rfl)
    have e1 : decide ((0 : Int) < 0) = false := rfl
    go_wp2_with fail
    refine (HCut.out 0 w1 (Nat.zero_le _)).mono ?_
    rintro r w2 ⟨rfl, rfl⟩
    go_wp2_with fail
    refine (HOwn.out 0 _ (Nat.zero_le _) HT.out HB.out).mono ?_
    rintro r w3 ⟨A9, c9, rfl, h9⟩
    go_wp2_with fail
    go_ret
    exact ⟨A9, c9, rfl, h9⟩
  · obtain ⟨k, hk⟩ : ∃ k, m = k + 1 := ⟨m - 1, by omega⟩
    have hkl : k < l.length := by omega
    have hf : findH l low = some (l[k]'hkl) := SplitH.some_ (by rw [← hk]; exact HSP.out)
    have d1 : decide (0 < (m : Int)) = true := by rw [decide_eq_true_iff]; omega
    have d2 : decide (0 < m) = true := by rw [decide_eq_true_iff]; omega
    have e4 : (m : Int) - 1 = (k : Int) := by omega
    have hdm : decide ((k : Int) < (l.length : Int)) = true := by rw [decide_eq_true_iff]; omega
    have hdm2 : decide (k < l.length) = true := by rw [decide_eq_true_iff]; omega
    obtain ⟨b, o, A', c', rfl, _, c0, c1, c2, hs, htm⟩ := (HR.out.below HB.out (Nat.le_refl _) (Nat.le_refl _)).at_ hkl
    have HD := Lib.hid (show l.drop k = l[k]'hkl :: l.drop m by rw [hk]; exact List.drop_eq_getElem_cons hkl)
    have HF := Lib.hid hf
    have hkm : k ≤ l.length := by omega
    clear hs htm hf hk
    generalize l[k] = x at *
    obtain ⟨tm, gone, dat⟩ := x
    simp only at c0 c1 c2
    cases gone
    · have HT := Lib.hid (show T = l.drop k by rw [HTR.out, HF.out, HSP.out.behind, HD.out]; rfl)
      go_wp2_with fail
      refine (HCut.out k w1 hkm).mono ?_
      rintro r w2 ⟨rfl, rfl⟩
      go_wp2_with fail
      refine (HOwn.out k _ hkm HT.out HB.out).mono ?_
      rintro r w3 ⟨A9, c9, rfl, h9⟩
      go_wp2_with fail
      go_ret
      exact ⟨A9, c9, rfl, h9⟩
    · have HT := Lib.hid (show T = l.drop m by rw [HTR.out, HF.out, HSP.out.behind]; rfl)
      go_wp2_with fail
      refine (HCut.out m w1 hml).mono ?_
      rintro r w2 ⟨rfl, rfl⟩
      go_wp2_with fail
      refine (HOwn.out m _ hml HT.out HB.out).mono ?_
      rintro r w3 ⟨A9, c9, rfl, h9⟩
      go_wp2_with fail
      go_ret
      exact ⟨A9, c9, rfl, h9⟩
end Go.Proofs.Ytooegjdppeiccaa

/-
  Package chain: Put; the contracts.
-/
namespace Go.Proofs.Ytooegjdppeiccaa
open Go.RowKit

theorem cutA_zero (A : Option Addr) (n : Nat) (h : cutA A n 0 = none) : A = none := by
  unfold cutA at h
  split at h
  · exact h
  · cases A with
    | none => rfl
    | some a => cases h

end Go.Proofs.Ytooegjdppeiccaa
