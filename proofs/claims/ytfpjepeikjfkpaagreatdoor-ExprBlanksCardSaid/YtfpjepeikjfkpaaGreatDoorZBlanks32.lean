import Derived.Test.YtfpjepeikjfkpaaGreatDoorZBlanks31
/-
  Package value: texts that any text begins with.
-/
namespace Go.Proofs.YtfpjepeikjfkpaaGreatDoor
open Go.RowKit

theorem escR_size (r : List UInt8) : (escR r).2.1 ≤ r.length + 1 ∧ ((escR r).2.2 = 0 → 0 < (escR r).2.1) := by
  unfold escR
  split
  · simp
  · next d r2 =>
    split
    · simp
    · split
      · simp
      · next e r3 =>
        split
        · split
          · simp
          · simp
        · simp
theorem drop_next {l : List UInt8} {p : Nat} {c : UInt8} {r : List UInt8} (h : l.drop p = c :: r) : l.drop (p + 1) = r := by
  have := congrArg (List.drop 1) h
  rw [List.drop_drop] at this
  simpa using this

set_option maxRecDepth 100000 in
set_option maxHeartbeats 4000000 in
theorem vText_all (s : ByteArray) (hlen : s.size ≤ 1000000) (t0 : List UInt8) (hs : s.data.toList = 34 :: t0) (w : World) :
    Calls Tryz.prog 102 #[.string s] w fun e w' => e = retTake (textGo t0 [] 1) ∧ Below w.heap.size w w' := by
  obtain ⟨i0, hi, hz0, hz1, hz2⟩ := info_parts info_byte
  have hat : ∀ (p : Nat) (x : UInt8) (r : List UInt8), s.data.toList.drop p = x :: r → ∃ h : p < s.size, s[p] = x := fun p x r e => by
    have h : p < s.data.toList.length := by
      rcases Nat.lt_or_ge p s.data.toList.length with h | h
      · exact h
      · rw [List.drop_of_length_le h] at e; cases e
    refine ⟨h, ?_⟩
    have := List.drop_eq_getElem_cons h
    rw [e] at this
    injection this with h1 _
    rw [h1]
    rfl
  have HAt := Lib.hid hat
  have hs1 : 1 ≤ s.size := by
    have : s.size = (34 :: t0).length := by rw [← hs]; rfl
    rw [this]; simp
  have hstart : textGo t0 [] 1 = textGo (s.data.toList.drop 1) [] 1 := by rw [hs]; rfl
  have HStart := Lib.hid hstart
  have hx0 := Boxed.new w 0 0 ⟨#[]⟩
  have hb0 := box_below w #[.int .i64 0, .int .i64 0, .string ⟨#[]⟩] 42
  have HX0 := Lib.hid hx0
  have HB0 := Lib.hid hb0
  clear hat hx0 hb0 hs hstart
  go_enter Tryz.func102, Tryz.ntmps102
  go_wp2
  go_step3
  go_wp2
  go_step3
  go_wp2
  go_loopw [5, 6] (fun v z wr => ∃ (p : Nat) (acc : List UInt8), p ≤ s.size ∧ acc.length ≤ p ∧ z = .int .i64 p ∧ (∃ n, wr.ownsRow (w.heap.size + 1) 5 1 v n (bvs acc)) ∧ textGo t0 [] 1 = textGo (s.data.toList.drop p) acc p ∧ Boxed wr w.heap.size V0 ∧ Below w.heap.size w wr) (fun _ z _ => s.size - (intOf z).toNat)
  case atStart => exact ⟨1, [], hs1, Nat.zero_le _, rfl, ⟨0, World.ownsRow_nil _ _ _ _⟩, HStart.out, HX0.out, HB0.out⟩
  case round =>
    obtain ⟨p, acc, hp, hap, rfl, ⟨n, hown⟩, hgo, hx, hb⟩ := hrel
    have HX := Lib.hid hx
    have HB := Lib.hid hb
    have HGo := Lib.hid hgo
    have hlx : w.heap.size + 1 ≤ wr.heap.size := hx.lt
    clear hx hb hgo
    cases hd : s.data.toList.drop p with
    | nil =>
      have hpe : p = s.size := by
        have : (s.data.toList.drop p).length = 0 := by rw [hd]; rfl
        rw [List.length_drop] at this
        have e : s.data.toList.length = s.size := rfl
        omega
      have HE := Lib.hid (show textGo t0 [] 1 = (V0, 0, 6) by rw [HGo.out, hd]; rfl)
      subst hpe
      clear hd hown
      obtain ⟨r0, r1, r2⟩ := HX.out.cells
      have f0 := HX.out.frozen 0
      have f1 := HX.out.frozen 1
      have f2 := HX.out.frozen 2
      go_wp2_with fail
      obtain ⟨t0', t1, t2⟩ := (HX.out.set3' 0 0 ⟨#[]⟩).cells
      have HFin := Lib.hid (Below.set3' HB.out (Nat.le_refl _) (.int .i64 0) (.int .i64 0) (.string ⟨#[]⟩))
      rw [Exit.noGoto_ret]
      refine bodyPost_ret (v := .tuple #[.agg #[.int .i64 0, .int .i64 0, .string ⟨#[]⟩], .int .i64 0, .int .i64 6]) (by simp [results, Tryz.results102, go_sem, t0', t1, t2]) rfl ⟨?_, HFin.out⟩
      rw [HE.out]
      rfl
    | cons c r =>
      obtain ⟨hps, hxc⟩ := HAt.out p c r hd
      have hpsI : (p : Int) < (s.size : Int) := by omega
      have hpl : (p : Int) ≤ (s.size : Int) := by omega
      have hp0 : (0 : Int) ≤ (p : Int) := by omega
      have hgo := HGo.out
      rw [hd] at hgo
      have hlr : p + 1 + r.length = s.size := by
        have h1 : (s.data.toList.drop p).length = r.length + 1 := by rw [hd]; rfl
        rw [List.length_drop] at h1
        have e : s.data.toList.length = s.size := rfl
        omega
      have hdn : s.data.toList.drop (p + 1) = r := drop_next hd
      by_cases h34 : c = 34
      · rw [textGo_cons, if_pos h34] at hgo
        have k1 : (((s[p]'hps).toNat : Int) == 34) = true := by rw [hxc, h34]; rfl
        have hpe : ((p : Int) == (s.size : Int)) = false := by rw [beq_eq_false_iff_ne]; omega
        obtain ⟨A, cc, rfl⟩ := own_slice hown
        obtain ⟨rfl, _, _, _, hr⟩ := Rd.own hown
        by_cases h64 : 64 < acc.length
        · have HE := Lib.hid (hgo.trans (if_pos h64))
          have h64' : decide ((64 : Int) < (acc.length : Int)) = true := by rw [decide_eq_true_iff]; omega
          clear hown hr hd hxc hgo hdn h34
          obtain ⟨r0, r1, r2⟩ := HX.out.cells
          have f0 := HX.out.frozen 0
          have f1 := HX.out.frozen 1
          have f2 := HX.out.frozen 2
          go_wp2_with fail
          obtain ⟨t0', t1, t2⟩ := (HX.out.set3' 0 0 ⟨#[]⟩).cells
          have HFin := Lib.hid (Below.set3' HB.out (Nat.le_refl _) (.int .i64 0) (.int .i64 0) (.string ⟨#[]⟩))
          rw [Exit.noGoto_ret]
          refine bodyPost_ret (v := .tuple #[.agg #[.int .i64 0, .int .i64 0, .string ⟨#[]⟩], .int .i64 0, .int .i64 3]) (by simp [results, Tryz.results102, go_sem, t0', t1, t2]) rfl ⟨?_, HFin.out⟩
          rw [HE.out]
          rfl
        · have HE := Lib.hid (hgo.trans (if_neg h64))
          have h64' : decide ((64 : Int) < (acc.length : Int)) = false := by rw [decide_eq_false_iff_not]; omega
          have hcv := conv_rd (P := Tryz.prog) (w := wr) (c := cc) 152 9 5 Tryz.underlying152 Tryz.underlying5 Tryz.underlying9 rfl hr
          have HTx := Lib.hid (vText_any ⟨acc.toArray⟩ wr)
          clear hown hr hd hxc hgo hdn h34
          go_wp2_with fail
          refine HTx.out.mono ?_
          rintro r w2 ⟨rfl, hb2⟩
          have HX2 := Lib.hid (HX.out.below hb2)
          have HB2 := Lib.hid (HB.out.trans (hb2.mono HB.out.size))
          clear hb2 hcv
          obtain ⟨r0, r1, r2⟩ := HX2.out.cells
          have f0 := HX2.out.frozen 0
          have f1 := HX2.out.frozen 1
          have f2 := HX2.out.frozen 2
          have hlx2 := HX2.out.lt
          go_wp2_with fail
          obtain ⟨t0', t1, t2⟩ := (HX2.out.set3' 3 0 ⟨acc.toArray⟩).cells
          have HFin := Lib.hid (Below.set3' HB2.out (Nat.le_refl _) (.int .i64 3) (.int .i64 0) (.string ⟨acc.toArray⟩))
          rw [Exit.noGoto_ret]
          refine bodyPost_ret (v := .tuple #[.agg #[.int .i64 3, .int .i64 0, .string ⟨acc.toArray⟩], .int .i64 ((p : Int) + 1), .int .i64 0]) (by simp [results, Tryz.results102, go_sem, t0', t1, t2]) rfl ⟨?_, HFin.out⟩
          rw [HE.out]
          rfl
      · have k1 : (((s[p]'hps).toNat : Int) == 34) = false := by rw [hxc]; exact v8_ne (n := 34) (by omega) h34
        by_cases h92 : c = 92
        · subst h92
          rw [textGo_esc] at hgo
          obtain ⟨hk, hk0⟩ := escR_size r
          have hxp : (s.extract p s.size).data.toList = 92 :: r := by rw [ext_drop, hd]
          have hxs : (s.extract p s.size).size ≤ 1000000 := by
            have e1 : (s.extract p s.size).size = (s.extract p s.size).data.toList.length := rfl
            rw [e1, hxp, List.length_cons]
            omega
          have HE := Lib.hid (esc_all (s.extract p s.size) r hxp (by omega) wr)
          have k2 : (((s[p]'hps).toNat : Int) == 92) = true := by rw [hxc]; rfl
          obtain ⟨q, hq⟩ : ∃ q, q = escR r := ⟨_, rfl⟩
          rw [← hq] at HE hgo hk hk0
          obtain ⟨b, k, E⟩ := q
          simp only at HE hgo hk hk0
          by_cases hE : E = 0
          · subst hE
            rw [if_neg (fun h => h rfl)] at hgo
            have hkp := hk0 rfl
            have hdk : (92 :: r).drop k = s.data.toList.drop (p + k) := by rw [← hd, List.drop_drop]
            rw [hdk] at hgo
            have HNext := Lib.hid hgo
            have hpk : p + k ≤ s.size := by omega
            have HCat := Lib.hid (show bvs (acc ++ [b]) = bvs (acc ++ [b]) from rfl)
            clear hq hgo hdk hxp hk0 hxc hd hdn
            go_wp2_with fail
            refine HE.out.mono ?_
            rintro r w' ⟨rfl, hbe⟩
            have HX' := Lib.hid (HX.out.below hbe)
            have HB' := Lib.hid (HB.out.trans (hbe.mono HB.out.size))
            have hown2 := own_below hown hbe
            have hlx' : w.heap.size + 1 ≤ w'.heap.size := HX'.out.lt
            clear hbe hown HX HB HE hlx
            go_wp2_with (at_builtin; refine append_rd _ rfl _ _ 152 rfl (w.heap.size + 1) 5 i0 (.int .u8 0) Tryz.underlying152 hi hz0 hz1 hz2 rfl _ _ _ rfl (hown2.alloc _) _ _ _ 1 _ [b] rfl rfl (by intro h; cases h) (Rd.one _ _ _ _ rfl) (by rw [List.length_singleton]; omega) (by simp; omega) ?_; intro v' w1 hown' hgrow)
            have hX1 := Lib.hid (((HX'.out.below (box_below _ _ _)).grown hgrow (by intro h; have := (hown2.lt _ h).1; omega)))
            have hB1 := Lib.hid ((HB'.out.alloc HB'.out.size _).grown hgrow (by simp; omega) (fun g hg => by have := (hown2.lt g hg).1; omega))
            have hw1 : w.heap.size + 1 ≤ w1.heap.size := hX1.out.lt
            clear hgrow
            go_wp2
            go_roundw
            case rel => exact ⟨p + k, acc ++ [b], by omega, by rw [List.length_append, List.length_singleton]; omega, by go_num, ⟨_, hown'⟩, HNext.out, hX1.out, hB1.out⟩
            case measure => simp [intOf]; omega
          · rw [if_pos hE] at hgo
            have HNext := Lib.hid hgo
            have hEb : (E == 0) = false := by rw [beq_eq_false_iff_ne]; exact hE
            have hEb2 : (E != 0) = true := by rw [bne, hEb]; rfl
            clear hq hgo hxp hk0 hk hxc hd hdn hown
            go_wp2_with fail
            refine HE.out.mono ?_
            rintro r w' ⟨rfl, hbe⟩
            have HX' := Lib.hid (HX.out.below hbe)
            have HB' := Lib.hid (HB.out.trans (hbe.mono HB.out.size))
            have hlx' : w.heap.size + 1 ≤ w'.heap.size := HX'.out.lt
            clear hbe HX HB HE hlx
            obtain ⟨r0, r1, r2⟩ := HX'.out.cells
            have f0 := HX'.out.frozen 0
            have f1 := HX'.out.frozen 1
            have f2 := HX'.out.frozen 2
            go_wp2_with fail
            obtain ⟨t0', t1, t2⟩ := (HX'.out.set3' 0 0 ⟨#[]⟩).cells
            have HFin := Lib.hid (Below.set3' HB'.out (Nat.le_refl _) (.int .i64 0) (.int .i64 0) (.string ⟨#[]⟩))
            rw [Exit.noGoto_ret]
            refine bodyPost_ret (v := .tuple #[.agg #[.int .i64 0, .int .i64 0, .string ⟨#[]⟩], .int .i64 0, .int .i64 E]) (by simp [results, Tryz.results102, go_sem, t0', t1, t2]) rfl ⟨?_, HFin.out⟩
            rw [HNext.out]
            rfl
        · have k2 : (((s[p]'hps).toNat : Int) == 92) = false := by rw [hxc]; exact v8_ne (n := 92) (by omega) h92
          rw [textGo_cons, if_neg h34, if_neg h92] at hgo
          have HPl := Lib.hid (plain_any c)
          cases hpc : plainB c
          · rw [hpc] at HPl hgo
            have HE := Lib.hid (hgo.trans (if_neg (by simp)))
            rw [← hxc] at HPl
            clear hgo hxc hd hdn hown hpc h34 h92
            obtain ⟨r0, r1, r2⟩ := HX.out.cells
            have f0 := HX.out.frozen 0
            have f1 := HX.out.frozen 1
            have f2 := HX.out.frozen 2
            go_wp2_with (go_at_call 124; refine (HPl.out _).mono ?_; rintro r w' ⟨rfl, rfl⟩)
            obtain ⟨t0', t1, t2⟩ := (HX.out.set3' 0 0 ⟨#[]⟩).cells
            have HFin := Lib.hid (Below.set3' HB.out (Nat.le_refl _) (.int .i64 0) (.int .i64 0) (.string ⟨#[]⟩))
            rw [Exit.noGoto_ret]
            refine bodyPost_ret (v := .tuple #[.agg #[.int .i64 0, .int .i64 0, .string ⟨#[]⟩], .int .i64 0, .int .i64 8]) (by simp [results, Tryz.results102, go_sem, t0', t1, t2]) rfl ⟨?_, HFin.out⟩
            rw [HE.out]
            rfl
          · rw [hpc] at HPl hgo
            rw [if_pos rfl, ← hdn] at hgo
            have HNext := Lib.hid hgo
            have HC := Lib.hid hxc
            rw [← hxc] at HPl
            clear hgo hxc hd hdn hpc h34 h92
            go_wp2_with (first
              | (go_at_call 124; refine (HPl.out _).mono ?_; rintro r w' ⟨rfl, rfl⟩)
              | (at_builtin; refine append_rd _ rfl _ _ 152 rfl (w.heap.size + 1) 5 i0 (.int .u8 0) Tryz.underlying152 hi hz0 hz1 hz2 rfl _ _ _ rfl (hown.alloc _) _ _ _ 1 _ [c] rfl rfl (by intro h; cases h) (Rd.one _ _ _ _ (by rw [HC.out])) (by rw [List.length_singleton]; omega) (by simp; omega) ?_; intro v' w1 hown' hgrow))
            have hX1 := Lib.hid (((HX.out.below (box_below _ _ _)).grown hgrow (by intro h; have := (hown.lt _ h).1; omega)))
            have hB1 := Lib.hid ((HB.out.alloc HB.out.size _).grown hgrow (by simp; omega) (fun g hg => by have := (hown.lt g hg).1; omega))
            have hw1 : w.heap.size + 1 ≤ w1.heap.size := hX1.out.lt
            clear hgrow
            go_wp2
            go_roundw
            case rel => exact ⟨p + 1, acc ++ [c], by omega, by rw [List.length_append, List.length_singleton]; omega, by go_num, ⟨_, hown'⟩, HNext.out, hX1.out, hB1.out⟩
            case measure => simp [intOf]; omega
end Go.Proofs.YtfpjepeikjfkpaaGreatDoor
