import Derived.Test.YtfpjepeikjfkpaaGreatDoorZC09
import Derived.Deep.RegionHeld3
import Derived.Deep.RegionLaw
import Derived.Deep.DeepCutAuto
/-
  Package expr: what was opened last is closed; what opens.
-/
namespace Go.Proofs.YtfpjepeikjfkpaaGreatDoor
open Go.RowKit

theorem newsT (w : World) (e : TypeId) (x : TM) : ∀ j u, (cellsT x)[j]? = some u → (w.alloc (.cells #[.int .i64 x.op, .int .i64 x.v.k, .int .i64 x.v.n, .string x.v.s, .string x.nm] e)).cell? ((⟨w.heap.size, 0, none⟩ : Addr).add j) = some u := fun j u hu => by
  have add : (⟨w.heap.size, 0, none⟩ : Addr).add j = ⟨w.heap.size, j, none⟩ := by unfold Addr.add; split <;> simp_all
  rw [add, cell_of_row _ w.heap.size _ _ e (0, 0) (heap_alloc_new w _)]
  simpa [cellsT] using hu
/-- Behind an append to the one slice the other one is as it was. -/
theorem OwnT.other {w w' : World} {lo : Nat} {v v' : Value} {l : List TM} (h : OwnT w lo v l) (hg : w.grownBy w' v'.ownBlock) (hne : ∀ g, v'.ownBlock = some g → v.ownBlock ≠ some g) : OwnT w' lo v l :=
  h.keep (fun g hv hlt => hg.block g hlt (fun e => hne g e.symm hv)) (Nat.le_refl _)
theorem OwnT.set {w : World} {lo b o : Nat} {v u : Value} {l : List TM} (h : OwnT w lo v l) (hb : b < lo) : OwnT (w.setCell ⟨b, o, none⟩ u) lo v l := ownsRow_setCell_below h hb u
theorem OwnT.allocs {w : World} {lo : Nat} {v : Value} {l : List TM} (h : OwnT w lo v l) (o : Obj) : OwnT (w.alloc o) lo v l := World.ownsRow.alloc h o
theorem OwnT.drews {w : World} {lo : Nat} {v : Value} {l : List TM} (h : OwnT w lo v l) : OwnT w.drew lo v l := h

set_option maxRecDepth 100000 in
set_option maxHeartbeats 4000000 in
theorem close_any (b lo : Nat) (wants call : Int) (x : TM) (S o : List TM) (w : World) (hM : RdM w b lo ⟨wants, call, x :: S, o⟩) (hs : S.length ≤ 100000) (ho : o.length ≤ 100000) :
    Calls Tryz.prog 109 #[.pointer (some ⟨b, 0, none⟩)] w fun r w' => r = .returned (.tuple #[]) ∧ RdM w' b lo ⟨wants, call, S, putM x o⟩ ∧ Foot b lo w w' := by
  obtain ⟨⟨A1, c1, A2, c2, h1, h2, h3, h4⟩, h5, h6⟩ := hM
  simp only at h1 h2 h3 h4
  obtain ⟨i, z, hi0, hz0, hzs, hz2, hz3⟩ := infoTerm
  rcases h2.2 with ⟨hv, h0⟩ | ⟨g, cap, cur, hv, hb, hg, hcap, hm, hcs, htk⟩
  · simp at h0
  injection hv with e1 e2 e3
  subst e1 e3
  have hlen : (x :: S).reverse.length = S.length + 1 := by simp
  rw [List.length_cons] at h1 h2 h4
  have hn1 : S.length < c1 := by rw [hlen] at hcap; omega
  have t0 := (h2.reads).at_ (k := S.length) (by simp)
  obtain ⟨b1, o1, e1, t0, t1, t2, t3, t4⟩ := t0
  have e : ((x :: S).reverse[S.length]'(by simp)) = x := by simp
  rw [e] at t0 t1 t2 t3 t4
  injection e1 with e1
  injection e1 with e1 e2
  subst e1 e2
  have hcut := h2.cut S.length (by simp) (by simp)
  have hrt : ((x :: S).reverse).take S.length = S.reverse := by rw [List.reverse_cons]; exact List.take_left' (by simp)
  rw [hrt] at hcut
  have k2 := h1.c2
  have k3 := h1.c3
  have k4 := h1.c4
  have f2 := h1.fz 2
  have f3 := h1.fz 3
  have f4 := h1.fz 4
  have hbw := h1.lt
  have q0 : ((S.length + 1 : Nat) : Int) - 1 = (S.length : Int) := by omega
  have hnd := ndeep_le S
  -- the world behind the first three regions
  obtain ⟨wa, hwa⟩ : ∃ y, (w.setCell ⟨b, 2, none⟩ (.slice (some ⟨g, 0, none⟩) S.length c1)).alloc (.cells #[.int .i64 x.op, .int .i64 x.v.k, .int .i64 x.v.n, .string x.v.s, .string x.nm] 44) = y := ⟨_, rfl⟩
  have hss : (w.setCell ⟨b, 2, none⟩ (.slice (some ⟨g, 0, none⟩) S.length c1)).heap.size = w.heap.size := by simp [World.setCell]
  have ha1 : RdE wa b wants call (.slice (some ⟨g, 0, none⟩) S.length c1) (ndeep (x :: S)) (.slice A2 o.length c2) := by rw [← hwa]; exact (h1.set2 _).alloc _
  have ha2 : OwnT wa lo (.slice (some ⟨g, 0, none⟩) S.length c1) S.reverse := by rw [← hwa]; exact (hcut.set h5).allocs _
  have ha3 : OwnT wa lo (.slice A2 o.length c2) o := by rw [← hwa]; exact (h3.set h5).allocs _
  have ha4 : Foot b lo w wa := by rw [← hwa]; exact ((Foot.refl b lo w).setCell (.inl rfl) _).alloc (by rw [hss]; exact h6) _
  have hsz : wa.heap.size = w.heap.size + 1 := by rw [← hwa]; simp [hss]
  have ht : ∀ j (u : Value), (cellsT x)[j]? = some u → wa.cell? ⟨w.heap.size, j, none⟩ = some u := fun j u hu => by
    have hn := heap_alloc_new (w.setCell ⟨b, 2, none⟩ (.slice (some ⟨g, 0, none⟩) S.length c1)) (.cells #[.int .i64 x.op, .int .i64 x.v.k, .int .i64 x.v.n, .string x.v.s, .string x.nm] 44)
    rw [hss] at hn
    rw [← hwa, cell_of_row _ w.heap.size _ _ 44 (0, 0) hn]
    simpa [cellsT] using hu
  have u0 := ht 0 _ rfl
  have u1 := ht 1 _ rfl
  have u2 := ht 2 _ rfl
  have u3 := ht 3 _ rfl
  have u4 := ht 4 _ rfl
  have HN := Lib.hid (show ∀ e j u, (cellsT x)[j]? = some u → (wa.alloc (.cells #[.int .i64 x.op, .int .i64 x.v.k, .int .i64 x.v.n, .string x.v.s, .string x.nm] e)).cell? ((⟨w.heap.size + 1, 0, none⟩ : Addr).add j) = some u from fun e => by rw [← hsz]; exact newsT wa e x)
  have HT := Lib.hid (dTakes_any x.op)
  have H2 := Lib.hid h2
  have A1' := Lib.hid ha1
  have A2' := Lib.hid ha2
  have A3' := Lib.hid ha3
  have A4' := Lib.hid ha4
  have H4 := Lib.hid h4
  have HI := Lib.hid hi0
  have HWA := Lib.hid hwa
  clear h1 h2 h3 h4 hcut ha1 ha2 ha3 ha4 ht hg hcs htk hrt hi0 hwa
  rw [Nat.zero_add] at t0 t1 t2 t3 t4
  have hk3 : wa.cell? ⟨b, 3, none⟩ = some (.int .i64 (ndeep (x :: S))) := A1'.out.c3
  have hk4 := A1'.out.c4
  have hf3 := A1'.out.fz 3
  have hf4 := A1'.out.fz 4
  clear hcap hlen e e2 hnd
  have hnd := ndeep_le S
  -- what is done of it, by what it is
  have put : ∀ (wb : World) (deep : Int), RdE wb b wants call (.slice (some ⟨g, 0, none⟩) S.length c1) deep (.slice A2 o.length c2) → OwnT wb lo (.slice (some ⟨g, 0, none⟩) S.length c1) S.reverse → OwnT wb lo (.slice A2 o.length c2) o → Foot b lo w wb → deep = ndeep S → putM x o = o → RdM wb b lo ⟨wants, call, S, putM x o⟩ ∧ Foot b lo w wb := fun wb deep q1 q2 q3 q4 q5 q6 => by
    rw [q6]
    subst q5
    exact ⟨⟨⟨_, _, _, _, q1, q2, q3, H4.out⟩, h5, Nat.le_trans h6 q4.size⟩, q4⟩
  have HP := Lib.hid put
  clear put
  generalize hD : ndeep (x :: S) = D at *
  by_cases hm1 : x.op = -1
  · have d1 : (x.op != -1) = false := by rw [hm1]; rfl
    have d2 : (takesD x.op != 2) = true := by rw [hm1]; rfl
    have hD' : (D : Int) - 1 = ndeep S := by rw [← hD, ndeep, hm1, if_neg (by decide)]; omega
    have hput : putM x o = o := by unfold putM; rw [if_pos hm1]
    have HD := Lib.hid hD
    clear hm1 hD
    obtain ⟨op, ⟨vk, vn, vs⟩, nm⟩ := x
    simp only at *
    go_enter Tryz.func109, Tryz.ntmps109
    go_upto_region 3 with fail
    rw [HWA.out]
    go_wp2_with (go_at_call 23; refine (HT.out _).mono ?_; rintro r w' ⟨rfl, rfl⟩)
    go_end0
    exact ⟨rfl, HP.out _ (ndeep S) (A1'.out.set3 _) (A2'.out.set h5) (A3'.out.set h5) (A4'.out.setCell (.inl rfl) _) rfl hput⟩
  · have d1 : (x.op != -1) = true := by rw [bne, show (x.op == -1) = false from by rw [beq_eq_false_iff_ne]; exact hm1]; rfl
    have hput : putM x o = o ++ [x] := by unfold putM; rw [if_neg hm1]
    -- what the append leaves
    have fin : ∀ (wb w1 : World) (B : Nat) (t : TypeId) (deep : Int) (g1 cap1 : Nat), RdE wb b wants call (.slice (some ⟨g, 0, none⟩) S.length c1) deep (.slice A2 o.length c2) → OwnT wb lo (.slice (some ⟨g, 0, none⟩) S.length c1) S.reverse → OwnT wb lo (.slice A2 o.length c2) o → Foot b lo w wb → deep = ndeep S →
        ∀ (wc : World), (wc = (wb.alloc (.cells #[.int .i64 x.op, .int .i64 x.v.k, .int .i64 x.v.n, .string x.v.s, .string x.nm] t)).drew ∨ wc = (wb.drew.alloc (.cells #[.int .i64 x.op, .int .i64 x.v.k, .int .i64 x.v.n, .string x.v.s, .string x.nm] t))) →
        w1.ownsRow lo 44 5 (.slice (some ⟨g1, 0, none⟩) (o.length + 1) cap1) (o.length + 1) (flatT o ++ cellsT x) → wc.grownBy w1 (Value.slice A2 o.length c2).ownBlock → ((Value.slice A2 o.length c2).ownBlock = some g1 ∨ g1 = B) → B = wc.heap.size →
        RdM (w1.setCell ⟨b, 4, none⟩ (.slice (some ⟨g1, 0, none⟩) (o.length + 1) cap1)) b lo ⟨wants, call, S, putM x o⟩ ∧ Foot b lo w (w1.setCell ⟨b, 4, none⟩ (.slice (some ⟨g1, 0, none⟩) (o.length + 1) cap1)) := by
      intro wb w1 B t deep g1 cap1 q1 q2 q3 q4 q5 wc hwc q6 q7 q8 q9
      subst q5
      have hbl : b < wb.heap.size := q1.lt
      have hll : lo ≤ wb.heap.size := Nat.le_trans h6 q4.size
      have hwcs : wc.heap.size = wb.heap.size + 1 := by rcases hwc with rfl | rfl <;> simp
      have r1 : RdE wc b wants call (.slice (some ⟨g, 0, none⟩) S.length c1) (ndeep S) (.slice A2 o.length c2) := by rcases hwc with rfl | rfl <;> exact q1.alloc _
      have r2 : OwnT wc lo (.slice (some ⟨g, 0, none⟩) S.length c1) S.reverse := by rcases hwc with rfl | rfl <;> exact q2.allocs _
      have r3 : OwnT wc lo (.slice A2 o.length c2) o := by rcases hwc with rfl | rfl <;> exact q3.allocs _
      have r4 : Foot b lo w wc := by
        rcases hwc with rfl | rfl
        · exact (q4.alloc hll _).drew
        · exact q4.drew.alloc hll _
      have hne : some b ≠ (Value.slice A2 o.length c2).ownBlock := fun e => by
        have := (r3.lt b e.symm).1
        omega
      have s1 : RdE w1 b wants call (.slice (some ⟨g, 0, none⟩) S.length c1) (ndeep S) (.slice A2 o.length c2) := r1.keep (q7.block b r1.lt hne)
      have s2 : OwnT w1 lo (.slice (some ⟨g, 0, none⟩) S.length c1) S.reverse := r2.other q7 fun g' h1 h2 => H4.out g' h2 h1
      have s4 : Foot b lo w w1 := r4.grown q7 (by omega) fun k hk => (r3.lt k hk).1
      have hown : OwnT w1 lo (.slice (some ⟨g1, 0, none⟩) (o.length + 1) cap1) (o ++ [x]) := by
        unfold OwnT
        rw [flatT_append, flatT_one, List.length_append]
        exact q6
      rw [hput]
      have hl1 : (o ++ [x]).length = o.length + 1 := by simp
      refine ⟨⟨⟨some ⟨g, 0, none⟩, c1, some ⟨g1, 0, none⟩, cap1, ?_, s2.set h5, ?_, ?_⟩, h5, ?_⟩, s4.setCell (.inl rfl) _⟩
      · simp only [hl1]
        exact s1.set4 _
      · simp only [hl1]
        exact hown.set h5
      · intro g' hg' he
        have hg2 : g = g' := by simpa [Value.ownBlock] using hg'
        have he2 : g1 = g' := by simpa [Value.ownBlock] using he
        rcases q8 with q8 | q8
        · exact H4.out g' (by simpa [Value.ownBlock] using hg2) (by rw [q8, he2])
        · have := (q2.lt g (by rfl)).2
          omega
      · have := s4.size
        show lo ≤ (w1.heap.modify _ _).size
        rw [Array.size_modify]
        omega
    have HF := Lib.hid fin
    have HNE := Lib.hid (show some b ≠ (Value.slice A2 o.length c2).ownBlock from fun e => by
      have := (A3'.out.lt b e.symm).1
      omega)
    clear fin
    by_cases h2 : isTwo x.op = true
    · have d2 : (takesD x.op != 2) = false := by rw [takesD_two.2 h2]; rfl
      have hD' : D = ndeep S := by rw [← hD, ndeep, if_pos h2]
      clear hm1 hD h2
      obtain ⟨op, ⟨vk, vn, vs⟩, nm⟩ := x
      simp only at *
      go_enter Tryz.func109, Tryz.ntmps109
      go_upto_region 3 with fail
      rw [HWA.out]
      go_upto_region 6 with (go_at_call 23; refine (HT.out _).mono ?_; rintro r w' ⟨rfl, rfl⟩)
      go_region_law ((refine step_append_lies _ rfl (.tmp 44) (.tmp 46) 22 rfl lo 44 i z 5 56 Tryz.underlying22 HI.out hz0 hz2 hz3 hzs (by omega) (.slice A2 o.length c2) o.length (flatT o) (by simp [Act.eval]) (by first | exact A3'.out.drews.allocs _ | exact (A3'.out.allocs _).drews) ⟨w.heap.size + 1, 0, none⟩ 1 1 (cellsT ⟨op, ⟨vk, vn, vs⟩, nm⟩) (by simp [Act.eval]) (by rfl) (HN.out _) (cellsT_one _) (by omega) (by unfold maxLen; omega) (by omega) (by simp; omega) (w.heap.size + 2) (by simp; omega) ?_; intro g1 cap1 w1 hown' hgrow hat hlt'; have hE : RdE w1 b wants call (.slice (some ⟨g, 0, none⟩) S.length c1) D (.slice A2 o.length c2) := (A1'.out.alloc _).keep (hgrow.block b (by simp; omega) HNE.out); have hc4 := hE.c4; have hf4' := hE.fz 4))
      all_goals
        go_wp2
        go_end0
        obtain ⟨r1, r2⟩ := HF.out w' w1 (w.heap.size + 2) 44 D g1 cap1 A1'.out A2'.out A3'.out A4'.out (by omega) _ (by first | exact .inl rfl | exact .inr rfl) hown' hgrow hat (by simp; omega)
        exact ⟨rfl, r1, r2⟩
    · have d2 : (takesD x.op != 2) = true := by
        rw [bne, show (takesD x.op == 2) = false from by rw [beq_eq_false_iff_ne]; exact fun e => h2 (takesD_two.1 e)]; rfl
      have hD' : (D : Int) - 1 = ndeep S := by rw [← hD, ndeep, if_neg h2]; omega
      clear hm1 hD h2
      obtain ⟨op, ⟨vk, vn, vs⟩, nm⟩ := x
      simp only at *
      go_enter Tryz.func109, Tryz.ntmps109
      go_upto_region 3 with fail
      rw [HWA.out]
      go_upto_region 6 with (go_at_call 23; refine (HT.out _).mono ?_; rintro r w' ⟨rfl, rfl⟩)
      obtain ⟨wb, hwb⟩ : ∃ y, w'.setCell ⟨b, 3, none⟩ (.int .i64 (ndeep S)) = y := ⟨_, rfl⟩
      have B1' := Lib.hid (show RdE wb b wants call (.slice (some ⟨g, 0, none⟩) S.length c1) (ndeep S) (.slice A2 o.length c2) from by rw [← hwb]; exact A1'.out.set3 _)
      have B2' := Lib.hid (show OwnT wb lo (.slice (some ⟨g, 0, none⟩) S.length c1) S.reverse from by rw [← hwb]; exact A2'.out.set h5)
      have B3' := Lib.hid (show OwnT wb lo (.slice A2 o.length c2) o from by rw [← hwb]; exact A3'.out.set h5)
      have B4' := Lib.hid (show Foot b lo w wb from by rw [← hwb]; exact A4'.out.setCell (.inl rfl) _)
      have hszb : wb.heap.size = w.heap.size + 1 := by rw [← hwb]; simp [World.setCell]; omega
      have gt : ∀ j (u : Value), w'.cell? ⟨w.heap.size, j, none⟩ = some u → wb.cell? ⟨w.heap.size, j, none⟩ = some u := fun j u hu => by
        rw [← hwb, World.cell?_setCell_other _ _ _ _ (by intro h; injection h; omega)]
        exact hu
      have u0' := gt 0 _ u0
      have u1' := gt 1 _ u1
      have u2' := gt 2 _ u2
      have u3' := gt 3 _ u3
      have u4' := gt 4 _ u4
      have hkb := B1'.out.c4
      have HNb := Lib.hid (show ∀ e j u, (cellsT ⟨op, ⟨vk, vn, vs⟩, nm⟩)[j]? = some u → (wb.alloc (.cells #[.int .i64 op, .int .i64 vk, .int .i64 vn, .string vs, .string nm] e)).cell? ((⟨w.heap.size + 1, 0, none⟩ : Addr).add j) = some u from fun e => by rw [← hszb]; exact newsT wb e ⟨op, ⟨vk, vn, vs⟩, nm⟩)
      rw [hwb]
      clear hwb gt
      go_region_law ((refine step_append_lies _ rfl (.tmp 44) (.tmp 46) 22 rfl lo 44 i z 5 56 Tryz.underlying22 HI.out hz0 hz2 hz3 hzs (by omega) (.slice A2 o.length c2) o.length (flatT o) (by simp [Act.eval]) (by first | exact B3'.out.drews.allocs _ | exact (B3'.out.allocs _).drews) ⟨w.heap.size + 1, 0, none⟩ 1 1 (cellsT ⟨op, ⟨vk, vn, vs⟩, nm⟩) (by simp [Act.eval]) (by rfl) (HNb.out _) (cellsT_one _) (by omega) (by unfold maxLen; omega) (by omega) (by simp; omega) (w.heap.size + 2) (by simp; omega) ?_; intro g1 cap1 w1 hown' hgrow hat hlt'; have hE : RdE w1 b wants call (.slice (some ⟨g, 0, none⟩) S.length c1) (ndeep S) (.slice A2 o.length c2) := (B1'.out.alloc _).keep (hgrow.block b (by simp; omega) HNE.out); have hc4 := hE.c4; have hf4' := hE.fz 4))
      all_goals
        go_wp2
        go_end0
        obtain ⟨r1, r2⟩ := HF.out wb w1 (w.heap.size + 2) 44 (ndeep S) g1 cap1 B1'.out B2'.out B3'.out B4'.out rfl _ (by first | exact .inl rfl | exact .inr rfl) hown' hgrow hat (by simp; omega)
        exact ⟨rfl, r1, r2⟩
end Go.Proofs.YtfpjepeikjfkpaaGreatDoor
