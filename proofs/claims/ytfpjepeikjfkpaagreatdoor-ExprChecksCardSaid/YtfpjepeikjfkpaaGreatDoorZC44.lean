import Derived.Test.YtfpjepeikjfkpaaGreatDoorZC42
import Derived.Test.YtfpjepeikjfkpaaGreatDoorZC43
import Derived.Test.YtfpjepeikjfkpaaGreatDoorZC27
import Derived.Test.YtfpjepeikjfkpaaGreatDoorZC37
/-
  ExprBack: what is printed of terms that are right is parsed as they are.
-/
namespace Go.Proofs.YtfpjepeikjfkpaaGreatDoor
open Go.RowKit

namespace exprBack
set_option maxRecDepth 100000 in
set_option maxHeartbeats 4000000 in
theorem walk (l : List TM) (A : Option Addr) (c : Nat) (hl : l.length ≤ maxLen) (hn : ∀ x ∈ l, TermIn x) (w : World) (hr : RowT w 0 w.heap.size A l) (hG : GlobE w) :
    Calls Tryz.prog 5 #[.slice A l.length c] w fun r w' => r = .returned (.bool true) ∧ Below w.heap.size w w' := by
  have hl' : l.length ≤ 9223372036854775807 := hl
  have HL := Lib.hid (fun wx (hb : Below w.heap.size w wx) => liveE_any wx (hG.below hb))
  have HB0 := Lib.hid (Below.refl w.heap.size w)
  have HG := Lib.hid (fun wx hb => hG.below (w' := wx) hb)
  have HR := Lib.hid (fun wx (hb : Below w.heap.size w wx) => ((hr.below hb (Nat.le_refl _)).wide (Nat.le_refl _) hb.size : RowT wx 0 wx.heap.size A l))
  have HF := Lib.hid (fun wx hb => fewT_any l A c 0 wx.heap.size wx hl' (fun x hx => ⟨(hn x hx).2, (hn x hx).1.2.2⟩) (HR.out wx hb) (Nat.le_refl _))
  clear hl hr hG
  cases hf : fewT l
  · rw [hf] at HF
    clear hf hn
    go_enter Tryz.func5, Tryz.ntmps5
    go_wp2_with (first | (go_at_call 9; refine (HF.out _ hb1).mono ?_; rintro r w2 ⟨rfl, hb2'⟩; have hb2 := hb1.trans (hb2'.mono hb1.size)) | (go_at_call 8; (first | (refine (HL.out _ HB0.out).mono ?_; rintro r w1 ⟨rfl, hb1⟩) | (refine (HL.out _ hb2).mono ?_; rintro r w3 ⟨rfl, hb3⟩))))
    go_ret
    exact ⟨rfl, hb2.trans (hb3.mono hb2.size)⟩
  · rw [hf] at HF
    obtain ⟨hs, h100⟩ := fewT_yes hf
    have hnm : ∀ x ∈ l, x.nm.size ≤ 100 ∧ -9223372036854775808 ≤ x.v.n ∧ x.v.n ≤ 9223372036854775807 := fun x hx => ⟨(hs x hx).1, (hn x hx).1.1, (hn x hx).1.2.1⟩
    have hbn : BndL l := fun x hx => (hn x hx).1.2.1
    have HPt := Lib.hid (fun wx hb => dPrint_any l A c hnm (by omega) wx (HR.out wx hb) (HG.out wx hb))
    have HCk := Lib.hid (fun wx hb => dCheck_any l A c (fun x hx => by have := (hnm x hx).1; omega) (by omega) wx (HR.out wx hb))
    clear hf hn hs hnm hl'
    by_cases h0 : checkL l = 0
    · have hpr : printE l = if 128 < (txtE (treeE l)).length then ([], 3) else (txtE (treeE l), 0) := by unfold printE; rw [if_neg (by simp [h0])]
      rw [h0] at HCk
      by_cases h128 : 128 < (txtE (treeE l)).length
      · rw [hpr, if_pos h128] at HPt
        simp only [retPrint] at HPt
        clear hpr h128 h0 hbn
        go_enter Tryz.func5, Tryz.ntmps5
        go_wp2_with (first | (go_at_call 8; refine (HL.out _ HB0.out).mono ?_; rintro r w1 ⟨rfl, hb1⟩) | (go_at_call 9; refine (HF.out _ hb1).mono ?_; rintro r w2 ⟨rfl, hb2'⟩; have hb2 := hb1.trans (hb2'.mono hb1.size)) | (go_at_call 17; refine (HPt.out _ hb2).mono ?_; rintro r w3 ⟨rfl, hb3'⟩; have hb3 := hb2.trans (hb3'.mono hb2.size)) | (go_at_call 10; refine (HCk.out _ hb3).mono ?_; rintro r w4 ⟨rfl, hb4'⟩; have hb4 := hb3.trans (hb4'.mono hb3.size)))
        go_ret
        exact ⟨rfl, hb4⟩
      · rw [hpr, if_neg h128] at HPt
        simp only [retPrint] at HPt
        have hbk := parseE_back h0 hbn (by omega)
        have hsz : (⟨(txtE (treeE l)).toArray⟩ : ByteArray).size ≤ 1000000 := by
          show (txtE (treeE l)).toArray.size ≤ _
          simp; omega
        have HQ := Lib.hid (fun wx hb => dParse_any ⟨(txtE (treeE l)).toArray⟩ hsz wx (HG.out wx hb))
        rw [show (⟨(txtE (treeE l)).toArray⟩ : ByteArray).data.toList = txtE (treeE l) from by simp, hbk] at HQ
        clear hpr hbk h128 hsz h0 hbn
        generalize txtE (treeE l) = tx at *
        go_enter Tryz.func5, Tryz.ntmps5
        go_upto_region 6 with (first | (go_at_call 8; refine (HL.out _ HB0.out).mono ?_; rintro r w1 ⟨rfl, hb1⟩) | (go_at_call 9; refine (HF.out _ hb1).mono ?_; rintro r w2 ⟨rfl, hb2'⟩; have hb2 := hb1.trans (hb2'.mono hb1.size)) | (go_at_call 17; refine (HPt.out _ hb2).mono ?_; rintro r w3 ⟨rfl, hb3'⟩; have hb3 := hb2.trans (hb3'.mono hb2.size)))
        have HB3 := Lib.hid hb3
        clear hb3' hb2' hb1 hb2 hb3
        go_wp2_with fail
        refine (HQ.out _ HB3.out).mono ?_
        rintro r w4 ⟨hb4', A2, c2, rfl, hr2⟩
        have HB4 := Lib.hid (HB3.out.trans (hb4'.mono HB3.out.size))
        have HSm := Lib.hid (sameT_any l l A2 A c2 c w4 (by omega) (by omega) (hr2.wide (Nat.zero_le _) (Nat.le_refl _)) (HR.out _ HB4.out))
        rw [show sameT l l = true from by unfold sameT; simp] at HSm
        clear hb4' hr2
        go_wp2_with (first | (go_at_call 16; refine HSm.out.mono ?_; rintro r w5 ⟨rfl, hb5'⟩; have hb5 := HB4.out.trans (hb5'.mono HB4.out.size)) | (go_at_call 10; refine (HCk.out _ hb5).mono ?_; rintro r w6 ⟨rfl, hb6'⟩; have hb6 := hb5.trans (hb6'.mono hb5.size)))
        go_ret
        exact ⟨rfl, hb6⟩
    · have hpr : printE l = ([], checkL l) := by unfold printE; rw [if_pos h0]
      rw [hpr] at HPt
      simp only [retPrint] at HPt
      generalize checkL l = x at *
      have x1 : (x != 0) = true := by simpa using h0
      have x2 : (x == 0) = false := by simpa using h0
      clear hpr h0 hbn
      go_enter Tryz.func5, Tryz.ntmps5
      go_wp2_with (first | (go_at_call 8; refine (HL.out _ HB0.out).mono ?_; rintro r w1 ⟨rfl, hb1⟩) | (go_at_call 9; refine (HF.out _ hb1).mono ?_; rintro r w2 ⟨rfl, hb2'⟩; have hb2 := hb1.trans (hb2'.mono hb1.size)) | (go_at_call 17; refine (HPt.out _ hb2).mono ?_; rintro r w3 ⟨rfl, hb3'⟩; have hb3 := hb2.trans (hb3'.mono hb2.size)) | (go_at_call 10; refine (HCk.out _ hb3).mono ?_; rintro r w4 ⟨rfl, hb4'⟩; have hb4 := hb3.trans (hb4'.mono hb3.size)))
      go_ret
      exact ⟨rfl, hb4⟩
end exprBack
end Go.Proofs.YtfpjepeikjfkpaaGreatDoor

/-
  Expressions, the document's own answers: what is wrong with a term that is a value.
-/
namespace Go.Proofs.YtfpjepeikjfkpaaGreatDoor
open Go.RowKit

set_option maxRecDepth 100000 in
set_option maxHeartbeats 4000000 in
theorem own_val (v : V) (w : World) :
    Calls Tryz.prog 25 #[.agg #[.int .i64 0, .int .i64 v.k, .int .i64 v.n, .string v.s, .string ⟨#[]⟩]] w fun r w' => r = .returned (.int .i64 (if rightV v ≠ 0 then rightV v else if v.k = 1 ∧ v.n < 0 then 1 else 0)) ∧ Below w.heap.size w w' := by
  have HRi := Lib.hid (fun w => fRight_any v w)
  obtain ⟨k, n, s⟩ := v
  simp only [V.val] at HRi ⊢
  have hb := box_below w #[.int .i64 0, .int .i64 k, .int .i64 n, .string s, .string ⟨#[]⟩] 44
  have hb2 := hb.alloc hb.size (.cells #[.int .i64 0, .int .i64 0, .string ⟨#[]⟩] 42)
  have HB := Lib.hid hb2
  clear hb hb2
  generalize rightV ⟨k, n, s⟩ = e at *
  obtain ⟨R, hR⟩ : ∃ R : Int, R = if e ≠ 0 then e else if k = 1 ∧ n < 0 then 1 else 0 := ⟨_, rfl⟩
  rw [← hR]
  by_cases he : e = 0
  · subst he
    rw [if_neg (by simp)] at hR
    have hk : ((k == 1) = true ∧ decide (n < 0) = true ∧ R = 1) ∨ ((k == 1) = true ∧ decide (n < 0) = false ∧ R = 0) ∨ ((k == 1) = false ∧ ¬ k = 1 ∧ R = 0) := by
      by_cases h1 : k = 1
      · by_cases h2 : n < 0
        · exact .inl ⟨by simpa using h1, by simpa using h2, by rw [hR, if_pos ⟨h1, h2⟩]⟩
        · exact .inr (.inl ⟨by simpa using h1, by simpa using h2, by rw [hR, if_neg (fun h => h2 h.2)]⟩)
      · exact .inr (.inr ⟨by simpa using h1, h1, by rw [hR, if_neg (fun h => h1 h.1)]⟩)
    clear hR
    rcases hk with ⟨k1, k2, rfl⟩ | ⟨k1, k2, rfl⟩ | ⟨k1, k2, rfl⟩
    all_goals
      go_enter Tryz.func25, Tryz.ntmps25
      go_wp2_with fail
      refine (HRi.out _).mono ?_
      rintro r w1 ⟨rfl, hb1⟩
      have hb1' : Below (w.heap.size + 1 + 1) ((w.alloc (.cells #[.int .i64 0, .int .i64 k, .int .i64 n, .string s, .string ⟨#[]⟩] 44)).alloc (.cells #[.int .i64 0, .int .i64 0, .string ⟨#[]⟩] 42)) w1 := by simpa using hb1
      have c1 := (hb1'.cell (p := ⟨w.heap.size, 1, none⟩) (by simp; omega)).trans (show _ = some (Value.int .i64 k) by simp [go_sem])
      have c2 := (hb1'.cell (p := ⟨w.heap.size, 2, none⟩) (by simp; omega)).trans (show _ = some (Value.int .i64 n) by simp [go_sem])
      have c0 := (hb1'.cell (p := ⟨w.heap.size, 0, none⟩) (by simp; omega)).trans (show _ = some (Value.int .i64 0) by simp [go_sem])
      have HB1 := Lib.hid (HB.out.trans (hb1.mono HB.out.size))
      clear hb1 hb1'
      go_wp2_with fail
      go_ret
      exact ⟨rfl, HB1.out⟩
  · rw [if_pos he] at hR
    subst hR
    have e0 : (R == 0) = false := by rw [beq_eq_false_iff_ne]; exact he
    go_enter Tryz.func25, Tryz.ntmps25
    go_wp2_with fail
    refine (HRi.out _).mono ?_
    rintro r w1 ⟨rfl, hb1⟩
    have HB1 := Lib.hid (HB.out.trans (hb1.mono HB.out.size))
    clear hb1
    go_wp2_with fail
    go_ret
    exact ⟨rfl, HB1.out⟩
end Go.Proofs.YtfpjepeikjfkpaaGreatDoor

/-
  Expressions, the document's own answers: a term that has what it may not have; own of any term.
-/
namespace Go.Proofs.YtfpjepeikjfkpaaGreatDoor
open Go.RowKit

theorem empty_list {s : ByteArray} (h : s ≠ mtS) : ¬ s.toList = [] := fun e => by
  rw [ByteArray.toList_eq] at e
  exact h (ba_list e)
set_option maxRecDepth 100000 in
set_option maxHeartbeats 2000000 in
theorem own_more (op : Int) (v : V) (m : ByteArray) (hop : 0 ≤ op ∧ op ≤ 18) (h0 : op ≠ 0) (hv : v ≠ V0) (w : World) :
    Calls Tryz.prog 25 #[.agg #[.int .i64 op, .int .i64 v.k, .int .i64 v.n, .string v.s, .string m]] w fun r w' => r = .returned (.int .i64 1) ∧ Below w.heap.size w w' := by
  obtain ⟨k, n, s⟩ := v
  simp only
  have hb := box_below w #[.int .i64 op, .int .i64 k, .int .i64 n, .string s, .string m] 44
  have HB := Lib.hid (hb.alloc hb.size (.cells #[.int .i64 0, .int .i64 0, .string ⟨#[]⟩] 42))
  clear hb
  have d0 : decide (op < 0) = false := by rw [decide_eq_false_iff_not]; omega
  have d1 : decide ((18 : Int) < op) = false := by rw [decide_eq_false_iff_not]; omega
  have b0 : (op == 0) = false := by rw [beq_eq_false_iff_ne]; omega
  have n0 : ¬ op = 0 := h0
  have hd : ¬ k = 0 ∨ (k = 0 ∧ ¬ n = 0) ∨ (k = 0 ∧ n = 0 ∧ ¬ s.toList = []) := by
    by_cases h1 : k = 0
    · by_cases h2 : n = 0
      · refine .inr (.inr ⟨h1, h2, empty_list fun e => hv ?_⟩)
        subst h1 h2 e
        rfl
      · exact .inr (.inl ⟨h1, h2⟩)
    · exact .inl h1
  clear hop h0 hv
  rcases hd with h | ⟨rfl, h⟩ | ⟨rfl, rfl, h⟩
  all_goals
    go_enter Tryz.func25, Tryz.ntmps25
    go_wp2
    go_ret
    exact ⟨rfl, HB.out⟩
set_option maxRecDepth 100000 in
set_option maxHeartbeats 2000000 in
theorem own_named (op : Int) (v : V) (m : ByteArray) (hop : 0 ≤ op ∧ op ≤ 18) (h0 : op = 0 ∨ v = V0) (h1 : op ≠ 1) (h2 : op ≠ 2) (hm : m ≠ mtS) (w : World) :
    Calls Tryz.prog 25 #[.agg #[.int .i64 op, .int .i64 v.k, .int .i64 v.n, .string v.s, .string m]] w fun r w' => r = .returned (.int .i64 1) ∧ Below w.heap.size w w' := by
  obtain ⟨k, n, s⟩ := v
  simp only
  have d0 : decide (op < 0) = false := by rw [decide_eq_false_iff_not]; omega
  have d1 : decide ((18 : Int) < op) = false := by rw [decide_eq_false_iff_not]; omega
  have b1 : (op == 1) = false := by rw [beq_eq_false_iff_ne]; omega
  have b2 : (op == 2) = false := by rw [beq_eq_false_iff_ne]; omega
  have q1 : (op != 1) = true := by rw [bne, b1]; rfl
  have q2 : (op != 2) = true := by rw [bne, b2]; rfl
  have hml := empty_list hm
  have hmb : m.toList.isEmpty = false := by rw [List.isEmpty_eq_false_iff]; exact hml
  have hmb2 : (!m.toList.isEmpty) = true := by rw [hmb]; rfl
  have hb := box_below w #[.int .i64 op, .int .i64 k, .int .i64 n, .string s, .string m] 44
  have HB := Lib.hid (hb.alloc hb.size (.cells #[.int .i64 0, .int .i64 0, .string ⟨#[]⟩] 42))
  clear hb hop hm
  by_cases hz : op = 0
  · subst hz
    clear h0 h1 h2 b1 b2 d0 d1 q1 q2
    go_enter Tryz.func25, Tryz.ntmps25
    go_wp2
    go_ret
    exact ⟨rfl, HB.out⟩
  · have hv : (⟨k, n, s⟩ : V) = V0 := by
      rcases h0 with h | h
      · exact absurd h hz
      · exact h
    simp only [V0, V.mk.injEq] at hv
    obtain ⟨rfl, rfl, rfl⟩ := hv
    have b0 : (op == 0) = false := by rw [beq_eq_false_iff_ne]; exact hz
    clear h0
    go_enter Tryz.func25, Tryz.ntmps25
    go_wp2
    go_ret
    exact ⟨rfl, HB.out⟩
theorem own_any (hN : RefNameC) (x : TM) (hm : x.nm.size ≤ 5000) (w : World) :
    Calls Tryz.prog 25 #[termVal x] w fun r w' => r = .returned (.int .i64 (ownT x)) ∧ Below w.heap.size w w' := by
  obtain ⟨op, v, m⟩ := x
  simp only at hm
  by_cases hr : op < 0 ∨ 18 < op
  · have e : ownT ⟨op, v, m⟩ = 1 := by unfold ownT; rw [if_pos (by rcases hr with h | h; exact .inl h; exact .inr (.inl h))]
    rw [e]
    exact own_no op v.k v.n v.s m hr w
  have hop : 0 ≤ op ∧ op ≤ 18 := by omega
  by_cases hv : op ≠ 0 ∧ v ≠ V0
  · have e : ownT ⟨op, v, m⟩ = 1 := by unfold ownT; rw [if_pos (.inr (.inr (.inl hv)))]
    rw [e]
    exact own_more op v m hop hv.1 hv.2 w
  have hv' : op = 0 ∨ v = V0 := by
    by_cases h : op = 0
    · exact .inl h
    · right
      by_cases h2 : v = V0
      · exact h2
      · exact absurd ⟨h, h2⟩ hv
  by_cases hnm : op ≠ 1 ∧ op ≠ 2 ∧ m ≠ mtS
  · have e : ownT ⟨op, v, m⟩ = 1 := by unfold ownT; rw [if_pos (.inr (.inr (.inr hnm)))]
    rw [e]
    exact own_named op v m hop hv' hnm.1 hnm.2.1 hnm.2.2 w
  have hno : ¬ (op < 0 ∨ 18 < op ∨ (op ≠ 0 ∧ v ≠ V0) ∨ (op ≠ 1 ∧ op ≠ 2 ∧ m ≠ mtS)) := by
    rintro (h | h | h | h)
    · exact hr (.inl h)
    · exact hr (.inr h)
    · exact hv h
    · exact hnm h
  by_cases h12 : op = 1 ∨ op = 2
  · have hv0 : v = V0 := by
      rcases hv' with h | h
      · omega
      · exact h
    subst hv0
    have e : ownT ⟨op, V0, m⟩ = if nm.nameOk m = false ∨ reservedB m = true then 30 else 0 := by
      unfold ownT
      rw [if_neg hno, if_neg (by simp only; omega), if_pos h12]
    rw [e]
    exact own_name hN op h12 m hm w
  have hm0 : m = mtS := by
    by_cases h : m = mtS
    · exact h
    · exact absurd ⟨by omega, by omega, h⟩ hnm
  subst hm0
  by_cases hz : op = 0
  · subst hz
    have e : ownT ⟨0, v, mtS⟩ = if rightV v ≠ 0 then rightV v else if v.k = 1 ∧ v.n < 0 then 1 else 0 := by
      unfold ownT
      rw [if_neg hno, if_pos rfl]
    rw [e]
    exact own_val v w
  · have hv0 : v = V0 := by
      rcases hv' with h | h
      · exact absurd h hz
      · exact h
    subst hv0
    have e : ownT ⟨op, V0, mtS⟩ = 0 := by
      unfold ownT
      rw [if_neg hno, if_neg hz, if_neg h12]
    rw [e]
    exact own_op0 op (by omega) w
end Go.Proofs.YtfpjepeikjfkpaaGreatDoor

/-
  Expressions, the document's own answers: what is wrong with terms.
-/
namespace Go.Proofs.YtfpjepeikjfkpaaGreatDoor
open Go.RowKit

set_option maxRecDepth 100000 in
set_option maxHeartbeats 4000000 in
theorem check_any (hN : RefNameC) (hP : RefPrintC) (l : List TM) (A : Option Addr) (c : Nat) (hnm : ∀ x ∈ l, x.nm.size ≤ 100) (hll : l.length ≤ 1000000) (hS : checkGo 0 l = (0, 1) → SmallT (treeE l)) (w : World) (hr : RowT w 0 w.heap.size A l) :
    Calls Tryz.prog 11 #[.slice A l.length c] w fun r w' => r = .returned (.int .i64 (checkL l)) ∧ Below w.heap.size w w' := by
  by_cases h40 : 40 < l.length
  · have e : checkL l = 3 := by unfold checkL; rw [if_pos h40]
    have d : decide ((40 : Int) < (l.length : Int)) = true := by rw [decide_eq_true_iff]; omega
    rw [e]
    clear e
    go_enter Tryz.func11, Tryz.ntmps11
    go_wp2
    go_ret
    exact ⟨rfl, Below.refl _ _⟩
  · have d : decide ((40 : Int) < (l.length : Int)) = false := by rw [decide_eq_false_iff_not]; omega
    have HR := Lib.hid hr
    go_enter Tryz.func11, Tryz.ntmps11
    go_wp2
    go_loopg [3, 14] l.length (fun q z i wr => ∃ j m : Nat, j + q = l.length ∧ z = .int .i64 (m : Int) ∧ i = .int .i64 (j : Int) ∧ checkGo 0 l = checkGo m (l.drop j) ∧ m ≤ j ∧ Below w.heap.size w wr)
    case atStart => exact ⟨0, 0, by omega, rfl, rfl, rfl, Nat.le_refl _, Below.refl _ _⟩
    case round =>
      obtain ⟨j, m, hk, rfl, rfl, hgo, hmj, hb⟩ := hrel
      have HK := Lib.hid hk
      have HB := Lib.hid hb
      clear hb hk
      by_cases hj : j < l.length
      · have hlt : decide ((j : Int) < (l.length : Int)) = true := by simpa using hj
        have hlt2 : decide (j < l.length) = true := by simpa using hj
        obtain ⟨b, o, rfl, c0, c1, c2, c3, c4⟩ := (HR.out.below HB.out (Nat.le_refl _)).at_ hj
        have hnx := hnm _ (List.getElem_mem hj)
        rw [List.drop_eq_getElem_cons hj, checkGo] at hgo
        generalize l[j] = x at *
        have HO := Lib.hid (fun w => own_any hN x (by omega) w)
        have HTk := Lib.hid (fun w => (takes_any x.op w).mono fun _ _ h => And.intro h.1 h.2.symm)
        have ht2 : takesT x.op ≤ 2 := by unfold takesT; split; omega; split <;> omega
        obtain ⟨op, ⟨k, n, s⟩, nm⟩ := x
        simp only [termVal] at c0 c1 c2 c3 c4 HO HTk hgo ht2
        have hbn := HB.out.alloc HB.out.size (.cells #[.int .i64 op, .int .i64 k, .int .i64 n, .string s, .string nm] 44)
        have HBN := Lib.hid hbn
        clear hbn hnx
        generalize hE : ownT ⟨op, ⟨k, n, s⟩, nm⟩ = e at *
        clear hE
        by_cases he : e = 0
        · subst he
          rw [if_neg (by simp)] at hgo
          generalize takesT op = tk at *
          by_cases hm : m < tk
          · rw [if_pos hm] at hgo
            have hL : checkL l = 6 := by
              unfold checkL
              rw [if_neg h40, hgo]
              rfl
            have HL := Lib.hid hL
            have d1 : decide (m < tk) = true := by simpa using hm
            clear hgo hL
            go_wp2_with fail
            refine (HO.out _).mono ?_
            rintro r w1 ⟨rfl, hb1⟩
            have c5 := (hb1.cell (p := ⟨wr.heap.size, 0, none⟩) (by simp)).trans (show _ = some (Value.int .i64 op) by simp [go_sem])
            have HB1 := Lib.hid (HBN.out.trans (hb1.mono HBN.out.size))
            clear hb1
            go_wp2_with (go_at_call 26; refine (HTk.out _).mono ?_; rintro r w' ⟨rfl, rfl⟩)
            go_ret
            rw [HL.out]
            exact ⟨rfl, HB1.out⟩
          · rw [if_neg hm] at hgo
            have HGo := Lib.hid hgo
            have d1 : decide (m < tk) = false := by simpa using hm
            have hnn : (m : Int) + (1 - (tk : Int)) = ((m + 1 - tk : Nat) : Int) := by omega
            clear hgo
            go_wp2_with fail
            refine (HO.out _).mono ?_
            rintro r w1 ⟨rfl, hb1⟩
            have c5 := (hb1.cell (p := ⟨wr.heap.size, 0, none⟩) (by simp)).trans (show _ = some (Value.int .i64 op) by simp [go_sem])
            have HB1 := Lib.hid (HBN.out.trans (hb1.mono HBN.out.size))
            clear hb1
            go_wp2_with (go_at_call 26; refine (HTk.out _).mono ?_; rintro r w' ⟨rfl, rfl⟩)
            go_roundg (gk - 1)
            case measure => have := HK.out; omega
            case rel => exact ⟨j + 1, m + 1 - tk, by have := HK.out; omega, by first | (rw [← hnn]; done) | rw [← hnn] | (go_num), by go_num, HGo.out, by omega, HB1.out⟩
        · rw [if_pos he] at hgo
          have hL : checkL l = e := by
            unfold checkL
            rw [if_neg h40, hgo]
            simp [he]
          have HL := Lib.hid hL
          have e0 : (e == 0) = false := by rw [beq_eq_false_iff_ne]; exact he
          have e1 : (e != 0) = true := by rw [bne, e0]; rfl
          clear hgo hL
          go_wp2_with fail
          refine (HO.out _).mono ?_
          rintro r w1 ⟨rfl, hb1⟩
          have HB1 := Lib.hid (HBN.out.trans (hb1.mono HBN.out.size))
          clear hb1
          go_wp2_with fail
          go_ret
          rw [HL.out]
          exact ⟨rfl, HB1.out⟩
      · have hj' : j = l.length := by have := HK.out; omega
        have hlt : decide ((j : Int) < (l.length : Int)) = false := by simpa using hj
        have hlt2 : decide (j < l.length) = false := by simpa using hj
        rw [List.drop_of_length_le (by omega), checkGo] at hgo
        have hml : m ≤ 40 := by omega
        by_cases hm0 : m = 0
        · subst hm0
          have hL : checkL l = 6 := by
            unfold checkL
            rw [if_neg h40, hgo]
            rfl
          have HL := Lib.hid hL
          clear hgo hL hj' hj
          go_wp2_with fail
          go_ret
          rw [HL.out]
          exact ⟨rfl, HB.out⟩
        · have m0 : ((m : Int) == 0) = false := by rw [beq_eq_false_iff_ne]; omega
          by_cases hm1 : 1 < m
          · have hL : checkL l = 8 := by
              unfold checkL
              rw [if_neg h40, hgo]
              simp only
              rw [if_neg (by simp), if_neg hm0, if_pos hm1]
            have HL := Lib.hid hL
            have d1 : decide (1 < m) = true := by simpa using hm1
            have d2 : decide ((1 : Int) < (m : Int)) = true := by rw [decide_eq_true_iff]; omega
            clear hgo hL hj' hj
            go_wp2_with fail
            go_ret
            rw [HL.out]
            exact ⟨rfl, HB.out⟩
          · have e1 : m = 1 := by omega
            subst e1
            have hsm := hS hgo
            have hpost := tree_post hgo
            have hpt := partE_any hP l A c (by omega) (treeE l) hsm [] [] (by rw [hpost]; simp) wr ((HR.out.below HB.out (Nat.le_refl _)).wide (Nat.le_refl _) HB.out.size)
            have hpos : 0 < l.length := by rw [← hpost]; exact post_pos _
            have ei : ((([] : List TM).length + (postE (treeE l)).length - 1 : Nat) : Int) = (l.length : Int) - 1 := by rw [hpost]; simp; omega
            rw [ei] at hpt
            have hL : checkL l = if 12 < deepE (treeE l) then 50 else 0 := by
              unfold checkL
              rw [if_neg h40, hgo]
              rfl
            generalize txtE (treeE l) = tl at *
            generalize deepE (treeE l) = dp at *
            simp only [retText] at hpt
            have HPt := Lib.hid hpt
            clear hgo hj' hj hsm hpost hpt ei
            by_cases h12 : 12 < dp
            · have HL := Lib.hid (hL.trans (if_pos h12))
              have d1 : decide ((12 : Int) < (dp : Int)) = true := by rw [decide_eq_true_iff]; omega
              have d2 : decide (12 < dp) = true := by simpa using h12
              clear hL
              go_wp2_with fail
              refine HPt.out.mono ?_
              rintro r w1 ⟨rfl, hb1⟩
              have HB1 := Lib.hid (HB.out.trans (hb1.mono HB.out.size))
              clear hb1
              go_wp2_with fail
              go_ret
              rw [HL.out]
              exact ⟨rfl, HB1.out⟩
            · have HL := Lib.hid (hL.trans (if_neg h12))
              have d1 : decide ((12 : Int) < (dp : Int)) = false := by rw [decide_eq_false_iff_not]; omega
              have d2 : decide (12 < dp) = false := by simpa using h12
              clear hL
              go_wp2_with fail
              refine HPt.out.mono ?_
              rintro r w1 ⟨rfl, hb1⟩
              have HB1 := Lib.hid (HB.out.trans (hb1.mono HB.out.size))
              clear hb1
              go_wp2_with fail
              go_ret
              rw [HL.out]
              exact ⟨rfl, HB1.out⟩
end Go.Proofs.YtfpjepeikjfkpaaGreatDoor

/-
  Expressions, the document's own answers: the text of terms.
-/
namespace Go.Proofs.YtfpjepeikjfkpaaGreatDoor
open Go.RowKit

set_option maxRecDepth 100000 in
set_option maxHeartbeats 4000000 in
theorem printE_any (hN : RefNameC) (hP : RefPrintC) (l : List TM) (A : Option Addr) (c : Nat) (hnm : ∀ x ∈ l, x.nm.size ≤ 100) (hll : l.length ≤ 1000000) (hS : checkGo 0 l = (0, 1) → SmallT (treeE l)) (w : World) (hr : RowT w 0 w.heap.size A l) :
    Calls Tryz.prog 18 #[.slice A l.length c] w fun r w' => r = .returned (.tuple #[.string ⟨(printE l).1.toArray⟩, .int .i64 (printE l).2]) ∧ Below w.heap.size w w' := by
  have HC := Lib.hid (check_any hN hP l A c hnm hll hS w hr)
  have HR := Lib.hid hr
  by_cases h0 : checkL l = 0
  · rw [h0] at HC
    have h40 : ¬ 40 < l.length := fun h => by unfold checkL at h0; rw [if_pos h] at h0; cases h0
    have hgo : checkGo 0 l = (0, 1) := by
      unfold checkL at h0
      rw [if_neg h40] at h0
      by_cases g1 : (checkGo 0 l).1 = 0
      · rw [if_neg (by simp [g1])] at h0
        by_cases g2 : (checkGo 0 l).2 = 0
        · rw [if_pos g2] at h0; cases h0
        · rw [if_neg g2] at h0
          by_cases g3 : 1 < (checkGo 0 l).2
          · rw [if_pos g3] at h0; cases h0
          · exact Prod.ext g1 (by show (checkGo 0 l).2 = 1; omega)
      · rw [if_pos g1] at h0; exact absurd h0 g1
    have hsm := hS hgo
    have hpost := tree_post hgo
    have hpos : 0 < l.length := by rw [← hpost]; exact post_pos _
    have hlen := hsm.len
    rw [hpost] at hlen
    have ei : ((([] : List TM).length + (postE (treeE l)).length - 1 : Nat) : Int) = (l.length : Int) - 1 := by rw [hpost]; simp; omega
    have hpt := fun (wx : World) (hb : Below w.heap.size w wx) => partE_any hP l A c (by omega) (treeE l) hsm [] [] (by rw [hpost]; simp) wx ((HR.out.below hb (Nat.le_refl _)).wide (Nat.le_refl _) hb.size)
    rw [ei] at hpt
    have hpr : printE l = if 128 < (txtE (treeE l)).length then ([], 3) else (txtE (treeE l), 0) := by unfold printE; rw [if_neg (by simp [h0])]
    rw [hpr]
    generalize txtE (treeE l) = tl at *
    generalize deepE (treeE l) = dp at *
    simp only [retText] at hpt
    have HPt := Lib.hid hpt
    clear hpt ei hgo hsm hpost hpr h0
    by_cases h128 : 128 < tl.length
    · rw [if_pos h128]
      have d2 : decide (128 < tl.length) = true := by simpa using h128
      have d1 : decide ((128 : Int) < (tl.length : Int)) = true := by rw [decide_eq_true_iff]; omega
      go_enter Tryz.func18, Tryz.ntmps18
      go_wp2_with fail
      refine HC.out.mono ?_
      rintro r w1 ⟨rfl, hb1⟩
      have HB1 := Lib.hid hb1
      clear hb1
      go_wp2_with fail
      refine (HPt.out _ HB1.out).mono ?_
      rintro r w2 ⟨rfl, hb2⟩
      have HB2 := Lib.hid (HB1.out.trans (hb2.mono HB1.out.size))
      clear hb2
      go_wp2_with fail
      exact bodyPost_ret (v := .tuple #[.string ⟨#[]⟩, .int .i64 3]) (by simp [results, Tryz.results18, go_sem]) rfl ⟨rfl, HB2.out⟩
    · rw [if_neg h128]
      have d2 : decide (128 < tl.length) = false := by simpa using h128
      have d1 : decide ((128 : Int) < (tl.length : Int)) = false := by rw [decide_eq_false_iff_not]; omega
      go_enter Tryz.func18, Tryz.ntmps18
      go_wp2_with fail
      refine HC.out.mono ?_
      rintro r w1 ⟨rfl, hb1⟩
      have HB1 := Lib.hid hb1
      clear hb1
      go_wp2_with fail
      refine (HPt.out _ HB1.out).mono ?_
      rintro r w2 ⟨rfl, hb2⟩
      have HB2 := Lib.hid (HB1.out.trans (hb2.mono HB1.out.size))
      clear hb2
      go_wp2_with fail
      exact bodyPost_ret (v := .tuple #[.string ⟨tl.toArray⟩, .int .i64 0]) (by simp [results, Tryz.results18, go_sem]) rfl ⟨rfl, HB2.out⟩
  · have e : printE l = ([], checkL l) := by unfold printE; rw [if_pos h0]
    rw [e]
    generalize checkL l = x at *
    have e0 : (x == 0) = false := by rw [beq_eq_false_iff_ne]; exact h0
    have e1 : (x != 0) = true := by rw [bne, e0]; rfl
    go_enter Tryz.func18, Tryz.ntmps18
    go_wp2_with fail
    refine HC.out.mono ?_
    rintro r w1 ⟨rfl, hb1⟩
    have HB1 := Lib.hid hb1
    clear hb1
    go_wp2_with fail
    exact bodyPost_ret (v := .tuple #[.string ⟨#[]⟩, .int .i64 x]) (by simp [results, Tryz.results18, go_sem]) rfl ⟨rfl, HB1.out⟩
end Go.Proofs.YtfpjepeikjfkpaaGreatDoor
