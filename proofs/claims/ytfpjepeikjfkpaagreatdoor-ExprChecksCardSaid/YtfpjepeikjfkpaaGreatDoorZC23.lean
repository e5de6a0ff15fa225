import Derived.Test.YtfpjepeikjfkpaaGreatDoorZC16
/-
  Package value: numbers that any text begins with.
-/
namespace Go.Proofs.YtfpjepeikjfkpaaGreatDoor
open Go.RowKit

theorem tw_at (p : UInt8 → Bool) : ∀ (l : List UInt8) (i : Nat) (h : i < (l.takeWhile p).length), ∃ h2 : i < l.length, p (l[i]'h2) = true
  | [], i, h => absurd h (by simp)
  | c :: l, i, h => by
    rw [List.takeWhile_cons] at h
    split at h
    · next hc =>
      cases i with
      | zero => exact ⟨by simp, hc⟩
      | succ i =>
        obtain ⟨h2, h3⟩ := tw_at p l i (by simpa using h)
        exact ⟨by simpa using h2, by simpa using h3⟩
    · simp at h
theorem tw_end (p : UInt8 → Bool) : ∀ (l : List UInt8) (h : (l.takeWhile p).length < l.length), p (l[(l.takeWhile p).length]'h) = false
  | [], h => absurd h (by simp)
  | c :: l, h => by
    cases hc : p c with
    | true =>
      have e : (c :: l).takeWhile p = c :: l.takeWhile p := by rw [List.takeWhile_cons, if_pos hc]
      have e2 : ((c :: l).takeWhile p).length = (l.takeWhile p).length + 1 := by rw [e]; rfl
      have h2 : (l.takeWhile p).length < l.length := by rw [e2, List.length_cons] at h; omega
      have := tw_end p l h2
      simp only [e2, List.getElem_cons_succ]
      exact this
    | false =>
      have e : (c :: l).takeWhile p = [] := by rw [List.takeWhile_cons, if_neg (by simp [hc])]
      simp only [e, List.length_nil, List.getElem_cons_zero]
      exact hc
/-- Is it a number, or one that is too great? -/
def okEnd {α : Type} : Lib.NumEnd α → Bool
  | .ok _ => true
  | .range => true
  | _ => false
/-- Digits are a number, or one that is too great. -/
theorem uint_nums (M : Nat) : ∀ (l : List UInt8) (acc : Nat), (∀ c ∈ l, isNum c = true) → okEnd (Lib.parseUintM M acc l) = true
  | [], acc, _ => by rw [Lib.parseUintM]; rfl
  | c :: r, acc, h => by
    have hc := num_tri (h c (List.mem_cons_self ..))
    rw [Lib.parseUintM, if_pos (by omega)]
    split
    · rfl
    · split
      · rfl
      · exact uint_nums M r _ fun x hx => h x (List.mem_cons_of_mem _ hx)
theorem uintB_nums {l : List UInt8} (hne : l ≠ []) (h : ∀ c ∈ l, isNum c = true) : okEnd (Lib.parseUintB 64 l) = true := by
  unfold Lib.parseUintB
  rw [if_neg hne]
  exact uint_nums _ l 0 h
theorem int_nums {l : List UInt8} (hf : numFront l = true) : okEnd (Lib.parseIntB 64 (l.take (sizeN l))) = true := by
  have hd : ∀ c ∈ (l.drop (frontN l)).takeWhile isNum, isNum c = true := fun c hc => by
    have : ∀ (m : List UInt8) (x : UInt8), x ∈ m.takeWhile isNum → isNum x = true := by
      intro m
      induction m with
      | nil => intro x hx; cases hx
      | cons y m ih =>
        intro x hx
        rw [List.takeWhile_cons] at hx
        split at hx
        · next hy =>
          rcases List.mem_cons.1 hx with rfl | hx
          · exact hy
          · exact ih x hx
        · cases hx
    exact this _ c hc
  have htake : ∀ m : List UInt8, m.take (m.takeWhile isNum).length = m.takeWhile isNum := by
    intro m
    induction m with
    | nil => rfl
    | cons y m ih =>
      rw [List.takeWhile_cons]
      split
      · rw [List.length_cons, List.take_succ_cons, ih]
      · rfl
  have hpos : (l.drop (frontN l)).takeWhile isNum ≠ [] := by
    unfold numFront at hf
    split at hf
    · cases hf
    · next c r e => rw [e, List.takeWhile_cons, if_pos hf]; simp
  by_cases hh : l.head? = some 45
  · have h1 : frontN l = 1 := if_pos hh
    cases l with
    | nil => cases hh
    | cons c r =>
      injection hh with hh
      subst hh
      have e : (45 :: r).take (sizeN (45 :: r)) = 45 :: r.takeWhile isNum := by
        unfold sizeN digitsN
        rw [h1]
        show (45 :: r).take (1 + (r.takeWhile isNum).length) = _
        rw [Nat.add_comm, List.take_succ_cons, htake]
      rw [e, Lib.parseIntB_minus]
      rw [h1] at hd hpos
      have := uintB_nums (l := r.takeWhile isNum) hpos hd
      unfold Lib.signedC
      split
      · next h => rw [h] at this; cases this
      · rfl
      · split <;> rfl
  · have h0 : frontN l = 0 := if_neg hh
    have e : l.take (sizeN l) = l.takeWhile isNum := by
      unfold sizeN digitsN
      rw [h0, List.drop_zero, Nat.zero_add, htake]
    rw [h0, List.drop_zero] at hd hpos
    rw [e]
    cases hl : l.takeWhile isNum with
    | nil => exact absurd hl hpos
    | cons c r =>
      rw [hl] at hd
      have hc := num_tri (hd c (List.mem_cons_self ..))
      rw [Lib.parseIntB_plain 64 c r (by omega) (by omega)]
      have := uintB_nums (l := c :: r) (by simp) hd
      unfold Lib.signlessC
      split
      · next h => rw [h] at this; cases this
      · rfl
      · split <;> rfl

/-- The library's error of a number that is too great is there. -/
def RangeW (w : World) : Prop := ∃ tp p, w.cell? ⟨4, 0, none⟩ = some (.iface tp p)
theorem RangeW.below {w w' : World} (h : RangeW w) (hb : Below w.heap.size w w') : RangeW w' := by
  obtain ⟨tp, p, e⟩ := h
  exact ⟨tp, p, (hb.cell (p := ⟨4, 0, none⟩) (Lib.lt_of_cell e)).trans e⟩
theorem parseInt_range (s : ByteArray) (hs : s.size ≤ 1000000) (h : Lib.parseIntB 64 s.data.toList = .range) (w : World) (hR : RangeW w) :
    Calls Tryz.prog 126 #[.string s, .int .i64 10, .int .i64 64] w fun e w' => (∃ m t b, e = .returned (.tuple #[.int .i64 m, .iface t b])) ∧ Below w.heap.size w w' := by
  obtain ⟨tp, p, e⟩ := hR
  refine (Any.strconv_ParseInt_10_at64_range Tryz.laysC174 s (by omega) h _ w e (.inr ⟨_, _, rfl⟩)).mono ?_
  rintro r w' ⟨N, he, _, _, hb⟩
  exact ⟨⟨_, _, _, he⟩, hb⟩
theorem parseInt_ok (s : ByteArray) (hs : s.size ≤ 1000000) (n : Int) (h : Lib.parseIntB 64 s.data.toList = .ok n) (w : World) :
    Calls Tryz.prog 126 #[.string s, .int .i64 10, .int .i64 64] w fun e w' => e = .returned (.tuple #[.int .i64 n, .nilIface]) ∧ Below w.heap.size w w' := by
  refine (Any.strconv_ParseInt_10_at64_ok Tryz.laysC174 s (by omega) n h w).mono ?_
  rintro e w' ⟨he, hw⟩
  refine ⟨he, ?_⟩
  rcases hw with rfl | ⟨t, rfl⟩
  · exact Below.refl _ _
  · exact Lib.bytesWorld_below _ _ _

set_option maxRecDepth 100000 in
set_option maxHeartbeats 4000000 in
theorem vNumber_all (s : ByteArray) (hlen : s.size ≤ 1000000) (first : Nat) (hfr : first = frontN s.data.toList) (hnf : numFront s.data.toList = true) (w : World) (hR : RangeW w) :
    Calls Tryz.prog 100 #[.string s, .int .i64 (first : Int)] w fun e w' => e = retTake (numV s.data.toList) ∧ Below w.heap.size w w' := by
  obtain ⟨l, hl⟩ : ∃ l, l = s.data.toList := ⟨_, rfl⟩
  rw [← hl] at hfr hnf ⊢
  have hsz : s.size = l.length := by rw [hl]; rfl
  have hfl := frontN_le l
  have htl : ((l.drop first).takeWhile isNum).length ≤ l.length - first := by
    have := takeWhile_le isNum (l.drop first)
    rwa [List.length_drop] at this
  have hLd : sizeN l = first + ((l.drop first).takeWhile isNum).length := by unfold sizeN digitsN; rw [← hfr]
  have hpos : 0 < ((l.drop first).takeWhile isNum).length := by
    unfold numFront at hnf
    rw [← hfr] at hnf
    split at hnf
    · cases hnf
    · next c r e => rw [e, List.takeWhile_cons, if_pos hnf]; simp
  have hdig : ∀ k (hk : k < s.size), first ≤ k → k < sizeN l → isNum s[k] = true := fun k hk h1 h2 => by
    obtain ⟨h3, h4⟩ := tw_at isNum (l.drop first) (k - first) (by omega)
    rw [List.getElem_drop] at h4
    rw [at_list s l hl.symm k hk]
    have e : first + (k - first) = k := by omega
    simp only [e] at h4
    exact h4
  have hend : ∀ hk : sizeN l < s.size, isNum s[sizeN l] = false := fun hk => by
    have h3 : ((l.drop first).takeWhile isNum).length < (l.drop first).length := by rw [List.length_drop]; omega
    have h4 := tw_end isNum (l.drop first) h3
    rw [List.getElem_drop] at h4
    rw [at_list s l hl.symm _ hk]
    simp only [hLd]
    exact h4
  have hLs : sizeN l ≤ s.size := by omega
  have hfs : first < s.size := by omega
  have hhead : l[frontN l]? = some (s[first]'hfs) := by
    rw [← hfr, at_list s l hl.symm _ hfs]
    exact List.getElem?_eq_getElem (by omega)
  have hxt : (s.extract 0 (sizeN l)).data.toList = l.take (sizeN l) := by rw [ext_take, ← hl]
  have hxs : (s.extract 0 (sizeN l)).size ≤ 1000000 := by
    have e1 : (s.extract 0 (sizeN l)).size = (s.extract 0 (sizeN l)).data.toList.length := rfl
    rw [e1, hxt, List.length_take]
    omega
  have hnv : numV l = if (s[first]'hfs = 48 ∧ 1 < sizeN l) then ((V0, 0, 8) : V × Nat × Int) else match Lib.parseIntB 64 (l.take (sizeN l)) with
    | .ok n => (⟨1, n, ⟨#[]⟩⟩, sizeN l, 0)
    | _ => (V0, 0, 9) := by
    unfold numV
    rw [hhead]
    by_cases h : s[first]'hfs = 48 ∧ 1 < sizeN l
    · rw [if_pos h, if_pos ⟨by rw [h.1], h.2⟩]
    · rw [if_neg h, if_neg (fun g => h ⟨by have := g.1; injection this, g.2⟩)]
      cases Lib.parseIntB 64 (List.take (sizeN l) l) <;> rfl
  have hsyn := int_nums hnf
  have HNV := Lib.hid hnv
  have HDig := Lib.hid hdig
  have HEnd := Lib.hid hend
  rw [← hxt] at hsyn hnv
  generalize hbyte : s[first]'hfs = c0 at hnv
  have HRes := Lib.hid (show numV l = _ from hnv)
  have hfl2 : first < sizeN l := by omega
  have hp := hsyn
  clear hnv HNV hdig hend hhead hxt htl hLd hpos hfr hnf hsz hsyn
  generalize hLe : sizeN l = L at *
  clear hLe
  have hx0 := Boxed.new w 0 0 ⟨#[]⟩
  have hb0 := box_below w #[.int .i64 0, .int .i64 0, .string ⟨#[]⟩] 42
  have HX0 := Lib.hid hx0
  have HB0 := Lib.hid hb0
  have HR0 := Lib.hid (hR.below hb0)
  have hfsI : (first : Int) < (s.size : Int) := by omega
  clear hx0 hb0 hR hl
  go_enter Tryz.func100, Tryz.ntmps100
  go_wp2
  go_loop [7] (fun z => ∃ k : Nat, z = .int .i64 k ∧ first ≤ k ∧ k ≤ L) (fun z => L - (intOf z).toNat)
  case atStart => exact ⟨first, rfl, Nat.le_refl _, by omega⟩
  case round =>
    obtain ⟨k, rfl, hk1, hk2⟩ := hrel
    by_cases hk : k < L
    · have hks : k < s.size := by omega
      have hksI : (k : Int) < (s.size : Int) := by omega
      have HD := Lib.hid (digit_any (s[k]'hks))
      rw [HDig.out k hks hk1 hk] at HD
      go_wp2_with (go_at_call 99; refine (HD.out _).mono ?_; rintro r w' ⟨rfl, rfl⟩)
      go_round
      case rel => exact ⟨k + 1, by go_num, by omega, by omega⟩
      case measure => simp [intOf]; omega
    · have hkL : k = L := by omega
      subst hkL
      clear hk hk2
      have hkI : (k : Int) ≤ (s.size : Int) := by omega
      have hk0 : (0 : Int) ≤ (k : Int) := by omega
      have hlast : (k < s.size ∧ True) ∨ ¬ k < s.size := by by_cases h : k < s.size; exact .inl ⟨h, trivial⟩; exact .inr h
      by_cases hz : c0 = 48 ∧ 1 < k
      · have HE := Lib.hid (HRes.out.trans (if_pos hz))
        have z1 : (((s[first]'hfs).toNat : Int) == 48) = true := by rw [hbyte, hz.1]; rfl
        have z2 : (1 : Int) < (k : Int) := by omega
        have z3 : 1 < k := hz.2
        obtain ⟨r0, r1, r2⟩ := HX0.out.cells
        have f0 := HX0.out.frozen 0
        have f1 := HX0.out.frozen 1
        have f2 := HX0.out.frozen 2
        clear hz hp hbyte
        rcases hlast with ⟨hks, _⟩ | hks
        · have hksI : (k : Int) < (s.size : Int) := by omega
          have HD := Lib.hid (digit_any (s[k]'hks))
          rw [HEnd.out hks] at HD
          go_wp2_with (go_at_call 99; refine (HD.out _).mono ?_; rintro r w' ⟨rfl, rfl⟩)
          refine bodyPost_ret (v := .tuple #[.agg #[.int .i64 0, .int .i64 0, .string ⟨#[]⟩], .int .i64 0, .int .i64 8]) (by simp [results, Tryz.results100, go_sem]) rfl ⟨?_, HB0.out⟩
          rw [HE.out]
          rfl
        · have hksI : decide ((k : Int) < (s.size : Int)) = false := by rw [decide_eq_false_iff_not]; omega
          have hke : ((k : Int) < (s.size : Int)) = False := by rw [eq_iff_iff]; exact ⟨fun h => by omega, False.elim⟩
          go_wp2_with fail
          refine bodyPost_ret (v := .tuple #[.agg #[.int .i64 0, .int .i64 0, .string ⟨#[]⟩], .int .i64 0, .int .i64 8]) (by simp [results, Tryz.results100, go_sem]) rfl ⟨?_, HB0.out⟩
          rw [HE.out]
          rfl
      · have hres := HRes.out.trans (if_neg hz)
        have hzb : (((s[first]'hfs).toNat : Int) == 48) = true ∧ decide ((1 : Int) < (k : Int)) = false ∨ (((s[first]'hfs).toNat : Int) == 48) = false := by
          by_cases hc : c0 = 48
          · left
            rw [hbyte, hc]
            exact ⟨rfl, by rw [decide_eq_false_iff_not]; intro h; exact hz ⟨hc, by omega⟩⟩
          · right
            rw [hbyte]
            exact v8_ne (n := 48) (by omega) hc
        clear hz hbyte
        generalize hpq : Lib.parseIntB 64 (s.extract 0 k).data.toList = q at *
        cases q with
        | ok m =>
          have HE := Lib.hid hres
          have HPI := Lib.hid (fun w => parseInt_ok (s.extract 0 k) hxs m hpq w)
          clear hres hpq hp hxs
          rcases hzb with ⟨z1, z2⟩ | z1
          all_goals
            rcases hlast with ⟨hks, _⟩ | hks
            all_goals
              first
                | (have hksI : (k : Int) < (s.size : Int) := by omega
                   have HD := Lib.hid (digit_any (s[k]'hks))
                   rw [HEnd.out hks] at HD
                   go_wp2_with (go_at_call 99; refine (HD.out _).mono ?_; rintro r w' ⟨rfl, rfl⟩))
                | (have hksI : decide ((k : Int) < (s.size : Int)) = false := by rw [decide_eq_false_iff_not]; omega
                   have hke : ((k : Int) < (s.size : Int)) = False := by rw [eq_iff_iff]; exact ⟨fun h => by omega, False.elim⟩
                   go_wp2_with fail)
              refine (HPI.out _).mono ?_
              rintro r w1 ⟨rfl, hb1⟩
              have HX1 := Lib.hid (HX0.out.below hb1)
              have HB1 := Lib.hid (HB0.out.trans (hb1.mono HB0.out.size))
              have HInt := Lib.hid (vInt_all m w1)
              clear hb1
              go_wp2_with fail
              refine HInt.out.mono ?_
              rintro r w2 ⟨rfl, hb2⟩
              have HX2 := Lib.hid (HX1.out.below hb2)
              have HB2 := Lib.hid (HB1.out.trans (hb2.mono HB1.out.size))
              clear hb2
              obtain ⟨r0, r1, r2⟩ := HX2.out.cells
              have f0 := HX2.out.frozen 0
              have f1 := HX2.out.frozen 1
              have f2 := HX2.out.frozen 2
              have hlx := HX2.out.lt
              go_wp2_with fail
              obtain ⟨t0, t1, t2⟩ := (HX2.out.set3' 1 m ⟨#[]⟩).cells
              have HFin := Lib.hid (Below.set3' HB2.out (Nat.le_refl _) (.int .i64 1) (.int .i64 m) (.string ⟨#[]⟩))
              refine bodyPost_ret (v := .tuple #[.agg #[.int .i64 1, .int .i64 m, .string ⟨#[]⟩], .int .i64 (k : Int), .int .i64 0]) (by simp [results, Tryz.results100, go_sem, t0, t1, t2]) rfl ⟨?_, HFin.out⟩
              rw [HE.out]
              rfl
        | range =>
          have HE := Lib.hid hres
          have HPI := Lib.hid (parseInt_range (s.extract 0 k) hxs hpq _ HR0.out)
          clear hres hpq hp hxs
          rcases hzb with ⟨z1, z2⟩ | z1
          all_goals
            rcases hlast with ⟨hks, _⟩ | hks
            all_goals
              first
                | (have hksI : (k : Int) < (s.size : Int) := by omega
                   have HD := Lib.hid (digit_any (s[k]'hks))
                   rw [HEnd.out hks] at HD
                   go_wp2_with (go_at_call 99; refine (HD.out _).mono ?_; rintro r w' ⟨rfl, rfl⟩))
                | (have hksI : decide ((k : Int) < (s.size : Int)) = false := by rw [decide_eq_false_iff_not]; omega
                   have hke : ((k : Int) < (s.size : Int)) = False := by rw [eq_iff_iff]; exact ⟨fun h => by omega, False.elim⟩
                   go_wp2_with fail)
              refine HPI.out.mono ?_
              rintro r w1 ⟨⟨m, t, b, rfl⟩, hb1⟩
              have HX1 := Lib.hid (HX0.out.below hb1)
              have HB1 := Lib.hid (HB0.out.trans (hb1.mono HB0.out.size))
              clear hb1
              obtain ⟨r0, r1, r2⟩ := HX1.out.cells
              have f0 := HX1.out.frozen 0
              have f1 := HX1.out.frozen 1
              have f2 := HX1.out.frozen 2
              have hlx := HX1.out.lt
              go_wp2_with fail
              obtain ⟨t0, t1, t2⟩ := (HX1.out.set3' 0 0 ⟨#[]⟩).cells
              have HFin := Lib.hid (Below.set3' HB1.out (Nat.le_refl _) (.int .i64 0) (.int .i64 0) (.string ⟨#[]⟩))
              refine bodyPost_ret (v := .tuple #[.agg #[.int .i64 0, .int .i64 0, .string ⟨#[]⟩], .int .i64 0, .int .i64 9]) (by simp [results, Tryz.results100, go_sem, t0, t1, t2]) rfl ⟨?_, HFin.out⟩
              rw [HE.out]
              rfl
        | _ => cases hp
end Go.Proofs.YtfpjepeikjfkpaaGreatDoor
