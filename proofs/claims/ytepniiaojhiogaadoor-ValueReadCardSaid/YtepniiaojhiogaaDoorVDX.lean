/-
  Package value: numbers that Parse reads.
-/
import Derived.Test.YtepniiaojhiogaaDoorVDU
namespace Go.Proofs.YtepniiaojhiogaaDoor
open Go.RowKit

theorem intL_len (n : Int) (h0 : -9223372036854775808 ≤ n) (h1 : n ≤ 9223372036854775807) : (intL n).length ≤ 1000 := by
  have := print_len (v := ⟨1, n, ⟨#[]⟩⟩) (right_int n) h0 h1
  have e2 : printV ⟨1, n, ⟨#[]⟩⟩ = intL n := rfl
  rwa [e2] at this
/-- How far a number's digits stand from its front. -/
def firstOf (n : Int) : Nat := if n < 0 then 1 else 0
theorem intL_cut (n : Int) : ∃ c r, intL n = (if n < 0 then [45] else []) ++ c :: r ∧ (∀ x ∈ c :: r, isNum x = true) ∧ (c = 48 → n = 0 ∧ r = []) := by
  unfold intL
  split
  · next h =>
    obtain ⟨c, r, e, h1, h2⟩ := natL_head (-n).toNat
    exact ⟨c, r, by rw [e]; rfl, by rw [← e]; exact natL_nums _, fun hc => by have := (h2 hc).1; omega⟩
  · next h =>
    obtain ⟨c, r, e, h1, h2⟩ := natL_head n.toNat
    exact ⟨c, r, by rw [e]; rfl, by rw [← e]; exact natL_nums _, fun hc => by have := h2 hc; exact ⟨by omega, this.2⟩⟩

set_option maxRecDepth 100000 in
set_option maxHeartbeats 4000000 in
theorem vNumber_any (n : Int) (h0 : -9223372036854775808 ≤ n) (h1 : n ≤ 9223372036854775807) (more : List UInt8) (hm : moreOk 1 more = true) (hlen : more.length ≤ 1000000) (s : ByteArray) (hs : s.data.toList = intL n ++ more) (first : Nat) (hf : first = firstOf n) (w : World) :
    Calls Tryd.prog 48 #[.string s, .int .i64 (first : Int)] w fun e w' => e = retTake (⟨1, n, ⟨#[]⟩⟩, (intL n).length, 0) ∧ Below w.heap.size w w' := by
  obtain ⟨c, r, hcut, hnums, hzero⟩ := intL_cut n
  have hLL := intL_len n h0 h1
  have hsz : s.size = (intL n).length + more.length := by
    show s.data.toList.length = _
    rw [hs, List.length_append]
  have hL : (intL n).length = first + (c :: r).length := by
    rw [hcut, hf, List.length_append]
    unfold firstOf
    split <;> simp
  have hdig : ∀ k (hk : k < s.size), first ≤ k → k < (intL n).length → isNum s[k] = true := by
    intro k hk hfk hkL
    have e : s[k] = (intL n)[k]'hkL := by
      rw [at_list s _ hs k hk, List.getElem_append_left hkL]
    rw [e]
    apply hnums
    have e2 : (intL n)[k]'hkL = (c :: r)[k - first]'(by omega) := by
      have hpre : (if n < 0 then [(45 : UInt8)] else []).length = first := by rw [hf]; unfold firstOf; split <;> rfl
      simp only [hcut]
      rw [List.getElem_append_right (by omega)]
      simp only [hpre]
    rw [e2]
    exact List.getElem_mem _
  have hend : ∀ hk : (intL n).length < s.size, isNum s[(intL n).length] = false := by
    intro hk
    rw [at_list s _ hs _ hk, List.getElem_append_right (Nat.le_refl _)]
    cases more with
    | nil => simp at hsz; omega
    | cons x t =>
      simp only [Nat.sub_self, List.getElem_cons_zero]
      simpa [moreOk] using hm
  have hfs : first < s.size := by rw [hsz, hL, List.length_cons]; omega
  have hhead : s[first]'hfs = c := by
    have hkL : first < (intL n).length := by rw [hL, List.length_cons]; omega
    have hpre : (if n < 0 then [(45 : UInt8)] else []).length = first := by rw [hf]; unfold firstOf; split <;> rfl
    rw [at_list s _ hs _ hfs, List.getElem_append_left hkL]
    simp only [hcut]
    rw [List.getElem_append_right (by omega)]
    simp [hpre]
  have hone : c = 48 → (intL n).length = 1 := fun hc => by
    obtain ⟨h2, h3⟩ := hzero hc
    have : first = 0 := by rw [hf, h2]; rfl
    rw [hL, h3, this]; rfl
  have hxt : (s.extract 0 (intL n).length).data.toList = intL n := by
    rw [ext_take, hs]
    exact List.take_left
  have HPI := Lib.hid (fun w => parseInt_any n h0 h1 (s.extract 0 (intL n).length) hxt w)
  have HDig := Lib.hid hdig
  have HEnd := Lib.hid hend
  have HOne := Lib.hid hone
  have HHead := Lib.hid hhead
  have hfl : first < (intL n).length := by rw [hL, List.length_cons]; omega
  clear hdig hend hone hxt hL hcut hnums hzero hs hm hf hhead
  generalize hLe : (intL n).length = L at *
  clear hLe
  have hx0 := Boxed.new w 0 0 ⟨#[]⟩
  have hb0 := box_below w #[.int .i64 0, .int .i64 0, .string ⟨#[]⟩] 23
  have HX0 := Lib.hid hx0
  have HB0 := Lib.hid hb0
  have hfsI : (first : Int) < (s.size : Int) := by omega
  clear hx0 hb0
  go_enter Tryd.func48, Tryd.ntmps48
  go_wp2
  go_loop [7] (fun z => ∃ k : Nat, z = .int .i64 k ∧ first ≤ k ∧ k ≤ L) (fun z => L - (intOf z).toNat)
  case atStart => exact ⟨first, rfl, Nat.le_refl _, by omega⟩
  case round =>
    obtain ⟨k, rfl, hk1, hk2⟩ := hrel
    by_cases hk : k < L
    · have hks : k < s.size := by omega
      have hksI : (k : Int) < (s.size : Int) := by omega
      have HD := Lib.hid (digit_any (s[k]'hks))
      rw [HDig.out k hks hk1 hk] at HD
      go_wp2_with (go_at_call 47; refine (HD.out _).mono ?_; rintro r w' ⟨rfl, rfl⟩)
      go_round
      case rel => exact ⟨k + 1, by go_num, by omega, by omega⟩
      case measure => simp [intOf]; omega
    · have hkL : k = L := by omega
      subst hkL
      clear hk hk2
      have hz : (((s[first]'hfs).toNat : Int) == 48) = true ∧ decide ((1 : Int) < (k : Int)) = false ∨ (((s[first]'hfs).toNat : Int) == 48) = false := by
        by_cases hc : c = 48
        · left
          rw [HHead.out, hc]
          exact ⟨rfl, by rw [HOne.out hc]; rfl⟩
        · right
          rw [HHead.out]
          exact v8_ne (n := 48) (by omega) hc
      have hlast : (k < s.size ∧ True) ∨ ¬ k < s.size := by by_cases h : k < s.size; exact .inl ⟨h, trivial⟩; exact .inr h
      have hkI : (k : Int) ≤ (s.size : Int) := by omega
      have hk0 : (0 : Int) ≤ (k : Int) := by omega
      have HFin := Lib.hid (show ∀ w1 : World, Boxed w1 w.heap.size V0 → Below w.heap.size w w1 → Boxed (((w1.setCell ⟨w.heap.size, 0, none⟩ (.int .i64 1)).setCell ⟨w.heap.size, 1, none⟩ (.int .i64 n)).setCell ⟨w.heap.size, 2, none⟩ (.string ⟨#[]⟩)) w.heap.size ⟨1, n, ⟨#[]⟩⟩ ∧ Below w.heap.size w (((w1.setCell ⟨w.heap.size, 0, none⟩ (.int .i64 1)).setCell ⟨w.heap.size, 1, none⟩ (.int .i64 n)).setCell ⟨w.heap.size, 2, none⟩ (.string ⟨#[]⟩)) from fun w1 hx hb => ⟨hx.set3' 1 n ⟨#[]⟩, Below.set3' hb (Nat.le_refl _) _ _ _⟩)
      clear hsz
      rcases hlast with ⟨hks, _⟩ | hks
      · have hksI : (k : Int) < (s.size : Int) := by omega
        have HD := Lib.hid (digit_any (s[k]'hks))
        rw [HEnd.out hks] at HD
        rcases hz with ⟨z1, z2⟩ | z1
        all_goals
          go_wp2_with (go_at_call 47; refine (HD.out _).mono ?_; rintro r w' ⟨rfl, rfl⟩)
          refine (HPI.out _).mono ?_
          rintro r w1 ⟨rfl, hb1⟩
          have HX1 := Lib.hid (HX0.out.below hb1)
          have HB1 := Lib.hid (HB0.out.trans (hb1.mono HB0.out.size))
          have HInt := Lib.hid (vInt_all n w1)
          clear hb1
          go_wp2_with fail
          refine HInt.out.mono ?_
          rintro r w2 ⟨rfl, hb2⟩
          have HX2 := Lib.hid (HX1.out.below hb2)
          have HB2 := Lib.hid (HB1.out.trans (hb2.mono HB1.out.size))
          clear hb2
          obtain ⟨r0, r1, r2⟩ := HX2.out.cells
          have f0 := HX2.out.frozen 0
          have f1 := HX2.out.frozen 1
          have f2 := HX2.out.frozen 2
          have hlx := HX2.out.lt
          go_wp2_with fail
          obtain ⟨hx3, hb3⟩ := HFin.out w2 HX2.out HB2.out
          obtain ⟨t0, t1, t2⟩ := hx3.cells
          exact bodyPost_ret (v := .tuple #[.agg #[.int .i64 1, .int .i64 n, .string ⟨#[]⟩], .int .i64 (k : Int), .int .i64 0]) (by simp [results, Tryd.results48, go_sem, t0, t1, t2]) rfl ⟨rfl, hb3⟩
      · have hksI : decide ((k : Int) < (s.size : Int)) = false := by rw [decide_eq_false_iff_not]; omega
        have hke : ((k : Int) < (s.size : Int)) = False := by rw [eq_iff_iff]; exact ⟨fun h => by omega, False.elim⟩
        rcases hz with ⟨z1, z2⟩ | z1
        all_goals
          go_wp2_with fail
          refine (HPI.out _).mono ?_
          rintro r w1 ⟨rfl, hb1⟩
          have HX1 := Lib.hid (HX0.out.below hb1)
          have HB1 := Lib.hid (HB0.out.trans (hb1.mono HB0.out.size))
          have HInt := Lib.hid (vInt_all n w1)
          clear hb1
          go_wp2_with fail
          refine HInt.out.mono ?_
          rintro r w2 ⟨rfl, hb2⟩
          have HX2 := Lib.hid (HX1.out.below hb2)
          have HB2 := Lib.hid (HB1.out.trans (hb2.mono HB1.out.size))
          clear hb2
          obtain ⟨r0, r1, r2⟩ := HX2.out.cells
          have f0 := HX2.out.frozen 0
          have f1 := HX2.out.frozen 1
          have f2 := HX2.out.frozen 2
          have hlx := HX2.out.lt
          go_wp2_with fail
          obtain ⟨hx3, hb3⟩ := HFin.out w2 HX2.out HB2.out
          obtain ⟨t0, t1, t2⟩ := hx3.cells
          exact bodyPost_ret (v := .tuple #[.agg #[.int .i64 1, .int .i64 n, .string ⟨#[]⟩], .int .i64 (k : Int), .int .i64 0]) (by simp [results, Tryd.results48, go_sem, t0, t1, t2]) rfl ⟨rfl, hb3⟩
end Go.Proofs.YtepniiaojhiogaaDoor
