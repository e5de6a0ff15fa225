import Derived.Test.YtfpjepeikjfkpaaGreatDoorZBlanks19
/-
  Package value: texts that Parse reads.
-/
namespace Go.Proofs.YtfpjepeikjfkpaaGreatDoor
open Go.RowKit

theorem own_below {w w' : World} {base : Nat} {e : TypeId} {v : Value} {n : Nat} {xs : List Value} (h : w.ownsRow base e 1 v n xs) (hb : Below w.heap.size w w') : w'.ownsRow base e 1 v n xs := by
  refine ⟨h.1, ?_⟩
  rcases h.2 with h | ⟨g, cap, cur, hv, hg, hh, hr⟩
  · exact .inl h
  · exact .inr ⟨g, cap, cur, hv, hg, (hb.block g (Array.getElem?_eq_some_iff.1 hh).1).trans hh, hr⟩
theorem escL_append (a b : List UInt8) : escL (a ++ b) = escL a ++ escL b := by simp [escL]
theorem escL_at (tl : List UInt8) (j : Nat) (h : j < tl.length) : escL tl = escL (tl.take j) ++ (escB (tl[j]'h) ++ escL (tl.drop (j + 1))) := by
  have e : tl.drop j = tl[j]'h :: tl.drop (j + 1) := List.drop_eq_getElem_cons h
  have e2 : escL (tl.drop j) = escB (tl[j]'h) ++ escL (tl.drop (j + 1)) := by rw [e]; exact List.flatMap_cons
  rw [← e2, ← escL_append, List.take_append_drop]
theorem escB_pos (c : UInt8) : 0 < (escB c).length := by
  unfold escB
  split
  · simp
  · split <;> simp
theorem escB_len (c : UInt8) : (escB c).length ≤ 3 := by
  unfold escB
  split
  · simp
  · split <;> simp
theorem escL_take_at (tl : List UInt8) (j : Nat) (h : j < tl.length) : escL (tl.take (j + 1)) = escL (tl.take j) ++ escB (tl[j]'h) := by
  rw [List.take_succ_eq_append_getElem h, escL_append]
  simp [escL]
theorem bvs_take_at (tl : List UInt8) (j : Nat) (h : j < tl.length) : bvs (tl.take j ++ [tl[j]'h]) = bvs (tl.take (j + 1)) := by
  rw [List.take_succ_eq_append_getElem h]

set_option maxRecDepth 100000 in
set_option maxHeartbeats 4000000 in
theorem vText_in (tl : List UInt8) (h64 : tl.length ≤ 64) (more : List UInt8) (hlen : more.length ≤ 1000000) (s : ByteArray) (hs : s.data.toList = 34 :: (escL tl ++ 34 :: more)) (w : World) :
    Calls Tryz.prog 102 #[.string s] w fun e w' => e = retTake (⟨3, 0, ⟨tl.toArray⟩⟩, (escL tl).length + 2, 0) ∧ Below w.heap.size w w' := by
  obtain ⟨i0, hi, hz0, hz1, hz2⟩ := info_parts info_byte
  have hsz : s.size = (escL tl).length + more.length + 2 := by
    show s.data.toList.length = _
    rw [hs]
    simp
    omega
  have hel := escL_len tl
  have hmid : ∀ j (h : j < tl.length), s.data.toList.drop (1 + (escL (tl.take j)).length) = escB (tl[j]'h) ++ (escL (tl.drop (j + 1)) ++ 34 :: more) := fun j h => by
    rw [hs, escL_at tl j h, Nat.add_comm 1, List.drop_succ_cons, List.append_assoc, List.drop_left, List.append_assoc]
  have hend : s.data.toList.drop (1 + (escL tl).length) = 34 :: more := by
    rw [hs, Nat.add_comm 1, List.drop_succ_cons, List.drop_left]
  have hat : ∀ (p : Nat) (x : UInt8) (r : List UInt8), s.data.toList.drop p = x :: r → ∃ h : p < s.size, s[p] = x := fun p x r e => by
    have h : p < s.data.toList.length := by
      rcases Nat.lt_or_ge p s.data.toList.length with h | h
      · exact h
      · rw [List.drop_of_length_le h] at e; cases e
    refine ⟨h, ?_⟩
    have := List.drop_eq_getElem_cons h
    rw [e] at this
    injection this with h1 _
    rw [h1]
    rfl
  have HMid := Lib.hid hmid
  have HEnd := Lib.hid hend
  have HAt := Lib.hid hat
  have hx0 := Boxed.new w 0 0 ⟨#[]⟩
  have hb0 := box_below w #[.int .i64 0, .int .i64 0, .string ⟨#[]⟩] 42
  have HX0 := Lib.hid hx0
  have HB0 := Lib.hid hb0
  have hs4 : s.size ≤ 4000000 := by omega
  have HSz := Lib.hid hsz
  clear hmid hend hat hx0 hb0 hs hsz
  go_enter Tryz.func102, Tryz.ntmps102
  go_wp2
  go_step3
  go_wp2
  go_step3
  go_wp2
  go_loopw [5, 6] (fun v z wr => ∃ (j p : Nat), j ≤ tl.length ∧ p = 1 + (escL (tl.take j)).length ∧ z = .int .i64 p ∧ (∃ n, wr.ownsRow (w.heap.size + 1) 5 1 v n (bvs (tl.take j))) ∧ Boxed wr w.heap.size V0 ∧ Below w.heap.size w wr) (fun _ z _ => s.size - (intOf z).toNat)
  case atStart => exact ⟨0, 1, Nat.zero_le _, by simp [escL], rfl, ⟨0, World.ownsRow_nil _ _ _ _⟩, HX0.out, HB0.out⟩
  case round =>
    obtain ⟨j, p, hj, hp, rfl, ⟨n, hown⟩, hx, hb⟩ := hrel
    have HP := Lib.hid hp
    have HX := Lib.hid hx
    have HB := Lib.hid hb
    have hlx : w.heap.size + 1 ≤ wr.heap.size := hx.lt
    clear hp hx hb
    by_cases hjl : j < tl.length
    · have hd := HMid.out j hjl
      rw [← HP.out] at hd
      have HCat := Lib.hid (bvs_take_at tl j hjl)
      have hnext := escL_take_at tl j hjl
      have hnp : p + (escB (tl[j]'hjl)).length = 1 + (escL (tl.take (j + 1))).length := by rw [hnext, List.length_append, HP.out]; omega
      have HNext := Lib.hid hnp
      have hposB := escB_pos (tl[j]'hjl)
      have hroom : p + (escB (tl[j]'hjl)).length ≤ s.size := by
        have hl : (s.data.toList.drop p).length = s.size - p := by rw [List.length_drop]; rfl
        rw [hd, List.length_append] at hl
        omega
      generalize hc : tl[j]'hjl = c at *
      generalize hrest : escL (tl.drop (j + 1)) ++ 34 :: more = rest at hd
      have hps : p < s.size := by omega
      have hpsI : (p : Int) < (s.size : Int) := by omega
      have hpl : (p : Int) ≤ (s.size : Int) := by omega
      have hp0 : (0 : Int) ≤ (p : Int) := by omega
      have hxp : (s.extract p s.size).data.toList = escB c ++ rest := by rw [ext_drop, hd]
      have hxs : (s.extract p s.size).size ≤ 4000000 := by
        have e1 : (s.extract p s.size).size = s.size - p := by
          have : (s.extract p s.size).size = (s.extract p s.size).data.toList.length := rfl
          rw [this, ext_drop]
          simp
        omega
      clear hc hrest hnext hnp
      have HD := Lib.hid hd
      have HXP := Lib.hid hxp
      clear hd hxp
      by_cases hq : c = 34 ∨ c = 92
      · have hB : escB c = [92, c] := if_pos hq
        have HE := Lib.hid (esc_two (s.extract p s.size) c rest (by rw [HXP.out, hB]; rfl) hq (by omega))
        obtain ⟨_, hx92⟩ := HAt.out p 92 (c :: rest) (by rw [HD.out, hB]; rfl)
        have k1 : (((s[p]'hps).toNat : Int) == 34) = false := by rw [hx92]; rfl
        have k2 : (((s[p]'hps).toNat : Int) == 92) = true := by rw [hx92]; rfl
        have HL := Lib.hid (show p + 2 = 1 + (escL (tl.take (j + 1))).length by have := HNext.out; rw [hB] at this; exact this)
        have hr2 : p + 2 ≤ s.size := by rw [hB] at hroom; exact hroom
        clear hq hB hx92 hposB hroom
        go_wp2_with (first
          | (go_at_call 128; refine (HE.out _).mono ?_; rintro r w' ⟨rfl, rfl⟩)
          | (at_builtin; refine append_rd _ rfl _ _ 152 rfl (w.heap.size + 1) 5 i0 (.int .u8 0) Tryz.underlying152 hi hz0 hz1 hz2 rfl _ _ _ rfl (hown.alloc _) _ _ _ 1 _ [c] rfl rfl (by intro h; cases h) (Rd.one _ _ _ _ rfl) (by rw [List.length_take, List.length_singleton]; omega) (by simp; omega) ?_; intro v' w1 hown' hgrow))
        have hX1 := Lib.hid (((HX.out.below (box_below _ _ _)).grown hgrow (by intro h; have := (hown.lt _ h).1; omega)))
        have hB1 := Lib.hid ((HB.out.alloc HB.out.size _).grown hgrow (by simp; omega) (fun g hg => by have := (hown.lt g hg).1; omega))
        have hw1 : w.heap.size + 1 ≤ w1.heap.size := hX1.out.lt
        rw [HCat.out] at hown'
        clear hgrow
        go_wp2
        go_roundw
        case rel => exact ⟨j + 1, p + 2, by omega, HL.out, by go_num, ⟨_, hown'⟩, hX1.out, hB1.out⟩
        case measure => simp [intOf]; omega
      · have k92 : c ≠ 92 := fun h => hq (.inr h)
        have k34 : c ≠ 34 := fun h => hq (.inl h)
        have HPl := Lib.hid (plain_any c)
        cases hpc : plainB c
        · have hnp : ¬ (32 ≤ c.toNat ∧ c.toNat ≤ 126) := by
            intro h
            unfold plainB at hpc
            simp [h.1, h.2] at hpc
          have hB : escB c = [92, digB (c.toNat / 16), digB (c.toNat % 16)] := by unfold escB; rw [if_neg hq, if_neg hnp]
          have HE := Lib.hid (esc_three (s.extract p s.size) c rest (by rw [HXP.out, hB]; rfl) hpc (by omega) wr)
          obtain ⟨_, hx92⟩ := HAt.out p 92 _ (by rw [HD.out, hB]; rfl)
          have k1 : (((s[p]'hps).toNat : Int) == 34) = false := by rw [hx92]; rfl
          have k2 : (((s[p]'hps).toNat : Int) == 92) = true := by rw [hx92]; rfl
          have HL := Lib.hid (show p + 3 = 1 + (escL (tl.take (j + 1))).length by have := HNext.out; rw [hB] at this; exact this)
          have hr2 : p + 3 ≤ s.size := by rw [hB] at hroom; exact hroom
          clear hq hB hx92 hposB hroom hnp hpc
          go_wp2_with fail
          refine HE.out.mono ?_
          rintro r w' ⟨rfl, hbe⟩
          have HX' := Lib.hid (HX.out.below hbe)
          have HB' := Lib.hid (HB.out.trans (hbe.mono HB.out.size))
          have hown2 := own_below hown hbe
          have hlx' : w.heap.size + 1 ≤ w'.heap.size := HX'.out.lt
          clear hbe hown HX HB HE hlx
          go_wp2_with (at_builtin; refine append_rd _ rfl _ _ 152 rfl (w.heap.size + 1) 5 i0 (.int .u8 0) Tryz.underlying152 hi hz0 hz1 hz2 rfl _ _ _ rfl (hown2.alloc _) _ _ _ 1 _ [c] rfl rfl (by intro h; cases h) (Rd.one _ _ _ _ rfl) (by rw [List.length_take, List.length_singleton]; omega) (by simp; omega) ?_; intro v' w1 hown' hgrow)
          have hX1 := Lib.hid (((HX'.out.below (box_below _ _ _)).grown hgrow (by intro h; have := (hown2.lt _ h).1; omega)))
          have hB1 := Lib.hid ((HB'.out.alloc HB'.out.size _).grown hgrow (by simp; omega) (fun g hg => by have := (hown2.lt g hg).1; omega))
          have hw1 : w.heap.size + 1 ≤ w1.heap.size := hX1.out.lt
          rw [HCat.out] at hown'
          clear hgrow
          go_wp2
          go_roundw
          case rel => exact ⟨j + 1, p + 3, by omega, HL.out, by go_num, ⟨_, hown'⟩, hX1.out, hB1.out⟩
          case measure => simp [intOf]; omega
        · have hB : escB c = [c] := by
            unfold escB
            rw [if_neg hq, if_pos (by simpa [plainB] using hpc)]
          rw [hpc] at HPl
          obtain ⟨_, hxc⟩ := HAt.out p c rest (by rw [HD.out, hB]; rfl)
          rw [← hxc] at HPl k92 k34
          have k1 : (((s[p]'hps).toNat : Int) == 34) = false := v8_ne (n := 34) (by omega) k34
          have k2 : (((s[p]'hps).toNat : Int) == 92) = false := v8_ne (n := 92) (by omega) k92
          have HL := Lib.hid (show p + 1 = 1 + (escL (tl.take (j + 1))).length by have := HNext.out; rw [hB] at this; exact this)
          have hr2 : p + 1 ≤ s.size := by rw [hB] at hroom; exact hroom
          have HC := Lib.hid hxc
          clear hq hB hposB hroom hpc k92 k34 hxc
          go_wp2_with (first
            | (go_at_call 124; refine (HPl.out _).mono ?_; rintro r w' ⟨rfl, rfl⟩)
            | (at_builtin; refine append_rd _ rfl _ _ 152 rfl (w.heap.size + 1) 5 i0 (.int .u8 0) Tryz.underlying152 hi hz0 hz1 hz2 rfl _ _ _ rfl (hown.alloc _) _ _ _ 1 _ [c] rfl rfl (by intro h; cases h) (Rd.one _ _ _ _ (by rw [HC.out])) (by rw [List.length_take, List.length_singleton]; omega) (by simp; omega) ?_; intro v' w1 hown' hgrow))
          have hX1 := Lib.hid (((HX.out.below (box_below _ _ _)).grown hgrow (by intro h; have := (hown.lt _ h).1; omega)))
          have hB1 := Lib.hid ((HB.out.alloc HB.out.size _).grown hgrow (by simp; omega) (fun g hg => by have := (hown.lt g hg).1; omega))
          have hw1 : w.heap.size + 1 ≤ w1.heap.size := hX1.out.lt
          rw [HCat.out] at hown'
          clear hgrow
          go_wp2
          go_roundw
          case rel => exact ⟨j + 1, p + 1, by omega, HL.out, by go_num, ⟨_, hown'⟩, hX1.out, hB1.out⟩
          case measure => simp [intOf]; omega
    · have hjt : j = tl.length := by omega
      subst hjt
      have hp2 := HP.out
      rw [List.take_length] at hp2 hown
      have hd := HEnd.out
      rw [← hp2] at hd
      obtain ⟨hps, hx34⟩ := HAt.out p 34 more hd
      have hpsI : (p : Int) < (s.size : Int) := by omega
      have k1 : (((s[p]'hps).toNat : Int) == 34) = true := by rw [hx34]; rfl
      have hpe : ((p : Int) == (s.size : Int)) = false := by rw [beq_eq_false_iff_ne]; omega
      have h64' : decide ((64 : Int) < (tl.length : Int)) = false := by rw [decide_eq_false_iff_not]; omega
      obtain ⟨A, cc, rfl⟩ := own_slice hown
      obtain ⟨rfl, _, _, _, hr⟩ := Rd.own hown
      have hcv := conv_rd (P := Tryz.prog) (w := wr) (c := cc) 152 9 5 Tryz.underlying152 Tryz.underlying5 Tryz.underlying9 rfl hr
      have HTx := Lib.hid (vText_any ⟨tl.toArray⟩ wr)
      have HPE := Lib.hid hp2
      clear hown hr hd hx34 hp2
      go_wp2_with fail
      refine HTx.out.mono ?_
      rintro r w2 ⟨rfl, hb2⟩
      have HX2 := Lib.hid (HX.out.below hb2)
      have HB2 := Lib.hid (HB.out.trans (hb2.mono HB.out.size))
      clear hb2 hcv
      obtain ⟨r0, r1, r2⟩ := HX2.out.cells
      have f0 := HX2.out.frozen 0
      have f1 := HX2.out.frozen 1
      have f2 := HX2.out.frozen 2
      have hlx2 := HX2.out.lt
      go_wp2_with fail
      obtain ⟨t0, t1, t2⟩ := (HX2.out.set3' 3 0 ⟨tl.toArray⟩).cells
      have HFin := Lib.hid (Below.set3' HB2.out (Nat.le_refl _) (.int .i64 3) (.int .i64 0) (.string ⟨tl.toArray⟩))
      rw [Exit.noGoto_ret]
      refine bodyPost_ret (v := .tuple #[.agg #[.int .i64 3, .int .i64 0, .string ⟨tl.toArray⟩], .int .i64 ((p : Int) + 1), .int .i64 0]) (by simp [results, Tryz.results102, go_sem, t0, t1, t2]) rfl ⟨?_, HFin.out⟩
      have e : (((escL tl).length + 2 : Nat) : Int) = (p : Int) + 1 := by rw [HPE.out]; omega
      show _ = Ending.returned (.tuple #[_, .int .i64 (((escL tl).length + 2 : Nat) : Int), _])
      rw [e]
      rfl
end Go.Proofs.YtfpjepeikjfkpaaGreatDoor
