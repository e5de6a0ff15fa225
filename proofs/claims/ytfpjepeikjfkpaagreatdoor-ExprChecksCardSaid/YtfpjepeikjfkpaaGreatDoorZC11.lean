import Derived.Test.YtfpjepeikjfkpaaGreatDoorZC10
import Derived.Laws.AppendOwnNone
/-
  Package expr: signs of two are closed; what opens; a value that is whole.
-/
namespace Go.Proofs.YtfpjepeikjfkpaaGreatDoor
open Go.RowKit

theorem takesD_last {S : List TM} : (takesD (lastM S) = 2) ↔ ∃ t S', S = t :: S' ∧ isTwo t.op = true := by
  cases S with
  | nil => simp [lastM, takesD]
  | cons t S =>
    rw [lastM, takesD_two]
    constructor
    · exact fun h => ⟨t, S, rfl, h⟩
    · rintro ⟨t', S', e, h⟩
      injection e with e1 _
      rw [e1]; exact h

set_option maxHeartbeats 2000000 in
theorem closeSigns_any (b lo : Nat) (s : ST) (w : World) (hM : RdM w b lo s) (hs : s.st.length + s.out.length ≤ 100000) :
    Calls Tryz.prog 104 #[.pointer (some ⟨b, 0, none⟩)] w fun r w' => r = .returned (.tuple #[]) ∧ RdM w' b lo ⟨s.wants, s.call, (popTwo s.st s.out).1, (popTwo s.st s.out).2⟩ ∧ Foot b lo w w' := by
  obtain ⟨wants, call, S0, o0⟩ := s
  simp only at *
  have HM := Lib.hid hM
  clear hM
  go_enter Tryz.func104, Tryz.ntmps104
  go_wp2
  go_loopg [] S0.length (fun k wr => ∃ S o, S.length = k ∧ popTwo S0 o0 = popTwo S o ∧ S.length + o.length ≤ 100000 ∧ RdM wr b lo ⟨wants, call, S, o⟩ ∧ Foot b lo w wr)
  case atStart => exact ⟨S0, o0, rfl, rfl, hs, HM.out, Foot.refl _ _ _⟩
  case round =>
    obtain ⟨S, o, hk, hp, hl, hm, hf⟩ := hrel
    have HL := Lib.hid (last_any b lo _ wr hm (by simp only; omega))
    simp only at HL
    have HT := Lib.hid (dTakes_any (lastM S))
    have HF := Lib.hid hf
    have HP := Lib.hid hp
    have HMr := Lib.hid hm
    have HK := Lib.hid hk
    clear hf hp hm hk HM
    by_cases h2 : takesD (lastM S) = 2
    · obtain ⟨t, S', rfl, ht⟩ := takesD_last.1 h2
      have d : (takesD (lastM (t :: S')) == 2) = true := by rw [h2]; rfl
      have HP2 := Lib.hid (show popTwo S0 o0 = popTwo S' (o ++ [t]) by rw [HP.out, popTwo, if_pos ht])
      have hput : putM t o = o ++ [t] := by
        unfold putM
        rw [if_neg]
        intro e
        rw [e] at ht
        exact absurd ht (by decide)
      have HPu := Lib.hid hput
      generalize hL : lastM (t :: S') = L at *
      clear h2 ht hL hput
      rw [List.length_cons] at hl
      go_wp2_with (first | (go_at_call 108; refine HL.out.mono ?_; rintro r w1 ⟨rfl, hb1⟩) | (go_at_call 23; refine (HT.out _).mono ?_; rintro r w2 ⟨rfl, rfl⟩) | (go_at_call 109; refine (close_any b lo wants call t S' o _ (HMr.out.below hb1) (by omega) (by omega)).mono ?_; rintro r w3 ⟨rfl, hm3, hf3⟩))
      go_roundg S'.length
      case measure => have := HK.out; rw [List.length_cons] at this; omega
      case rel =>
        rw [HPu.out] at hm3
        exact ⟨S', o ++ [t], rfl, HP2.out, by rw [List.length_append, List.length_singleton]; omega, hm3, (HF.out.trans (Foot.of_below hb1 HMr.out.lo2)).trans hf3⟩
    · have d : (takesD (lastM S) == 2) = false := by rw [beq_eq_false_iff_ne]; exact h2
      have hpe : popTwo S o = (S, o) := by
        cases S with
        | nil => rfl
        | cons t S' => rw [popTwo, if_neg (fun ht => h2 (takesD_last.2 ⟨t, S', rfl, ht⟩))]
      have HE := Lib.hid hpe
      generalize hL : lastM S = L at *
      clear h2 hL hpe
      go_wp2_with (first | (go_at_call 108; refine HL.out.mono ?_; rintro r w1 ⟨rfl, hb1⟩) | (go_at_call 23; refine (HT.out _).mono ?_; rintro r w2 ⟨rfl, rfl⟩))
      go_end0
      rw [HP.out, HE.out]
      exact ⟨rfl, HMr.out.below hb1, HF.out.trans (Foot.of_below hb1 HMr.out.lo2)⟩

/-- Behind an append to what is open. -/
theorem pushed {w wa w1 : World} {b lo : Nat} {wa0 call deep : Int} {A1 A2 : Option Addr} {c1 c2 g1 cap1 : Nat} {S o : List TM} {x : TM} {ob : Obj} (wants : Int)
    (hE : RdE w1 b wa0 call (.slice A1 S.length c1) deep (.slice A2 o.length c2)) (g3 : OwnT wa lo (.slice A2 o.length c2) o) (g4 : Foot b lo w wa) (h5 : b < lo) (h6 : lo ≤ wa.heap.size)
    (hown : w1.ownsRow lo 44 5 (.slice (some ⟨g1, 0, none⟩) (S.length + 1) cap1) (S.length + 1) (flatT S.reverse ++ cellsT x)) (hgrow : (wa.alloc ob).grownBy w1 (Value.slice A1 S.length c1).ownBlock)
    (hat : (Value.slice A1 S.length c1).ownBlock = some g1 ∨ g1 = (wa.alloc ob).heap.size) (h4 : ∀ g, (Value.slice A1 S.length c1).ownBlock = some g → (Value.slice A2 o.length c2).ownBlock ≠ some g) (hlo : ∀ k, (Value.slice A1 S.length c1).ownBlock = some k → lo ≤ k) (hd : deep = ndeep (x :: S)) :
    RdM ((w1.setCell ⟨b, 2, none⟩ (.slice (some ⟨g1, 0, none⟩) (S.length + 1) cap1)).setCell ⟨b, 0, none⟩ (.int .i64 wants)) b lo ⟨wants, call, x :: S, o⟩ ∧ Foot b lo w ((w1.setCell ⟨b, 2, none⟩ (.slice (some ⟨g1, 0, none⟩) (S.length + 1) cap1)).setCell ⟨b, 0, none⟩ (.int .i64 wants)) := by
  subst hd
  have ho : OwnT w1 lo (.slice (some ⟨g1, 0, none⟩) (S.length + 1) cap1) (x :: S).reverse := by
    unfold OwnT
    rw [List.reverse_cons, flatT_append, flatT_one, List.length_append, List.length_reverse]
    exact hown
  have s3 : OwnT w1 lo (.slice A2 o.length c2) o := (g3.allocs ob).other hgrow h4
  have s4 : Foot b lo w w1 := (g4.alloc h6 ob).grown hgrow (by simp; omega) hlo
  refine ⟨⟨⟨some ⟨g1, 0, none⟩, cap1, A2, c2, (hE.set2 _).set0 wants, (ho.set h5).set h5, (s3.set h5).set h5, ?_⟩, h5, ?_⟩, (s4.setCell (.inl rfl) _).setCell (.inl rfl) _⟩
  · intro g hg he
    have hg2 : g1 = g := by simpa [Value.ownBlock] using hg
    rcases hat with hat | hat
    · exact h4 g (by rw [hat, hg2]) he
    · have := (g3.lt g he).2
      simp at hat
      omega
  · have hz : lo ≤ w1.heap.size := by have := hgrow.size; simp at this; omega
    simpa [World.setCell] using hz

set_option maxHeartbeats 4000000 in
theorem dBegin_deep (b lo : Nat) (s : ST) (op wants : Int) (w : World) (hM : RdM w b lo s) (hd : ndeep s.st = 12) :
    Calls Tryz.prog 107 #[.pointer (some ⟨b, 0, none⟩), .int .i64 op, .int .i64 wants] w fun r w' => r = .returned (.int .i64 50) ∧ w = w' := by
  obtain ⟨⟨A1, c1, A2, c2, h1, h2, h3, h4⟩, h5, h6⟩ := hM
  have k3 := h1.c3
  rw [hd] at k3
  have k3' : w.cell? ⟨b, 3, none⟩ = some (.int .i64 12) := k3
  clear h1 h2 h3 h4 k3
  go_enter Tryz.func107, Tryz.ntmps107
  go_wp2
  go_ret
  exact ⟨rfl, rfl⟩

set_option maxRecDepth 100000 in
set_option maxHeartbeats 4000000 in
theorem dBegin_any (b lo : Nat) (s : ST) (op wants : Int) (w : World) (hM : RdM w b lo s) (hd : ndeep s.st ≠ 12) (hop : isTwo op = false) (hs : s.st.length ≤ 100000) :
    Calls Tryz.prog 107 #[.pointer (some ⟨b, 0, none⟩), .int .i64 op, .int .i64 wants] w fun r w' => r = .returned (.int .i64 0) ∧ RdM w' b lo ⟨wants, s.call, opT op :: s.st, s.out⟩ ∧ Foot b lo w w' := by
  obtain ⟨wa0, call, S, o⟩ := s
  obtain ⟨⟨A1, c1, A2, c2, h1, h2, h3, h4⟩, h5, h6⟩ := hM
  simp only at *
  obtain ⟨i, z, hi0, hz0, hzs, hz2, hz3⟩ := infoTerm
  have hnl := ndeep_le S
  have k3 := h1.c3
  have k2 := h1.c2
  have f3 := h1.fz 3
  have hbl := h1.lt
  have d1 : ((ndeep S : Int) == 12) = false := by rw [beq_eq_false_iff_ne]; omega
  have hnd : ndeep (opT op :: S) = ndeep S + 1 := by rw [ndeep, if_neg (by show ¬ isTwo op = true; rw [hop]; simp)]
  have hli : OwnT (w.setCell ⟨b, 3, none⟩ (.int .i64 ((ndeep S : Int) + 1))) lo (.slice A1 S.length c1) S.reverse := h2.set h5
  have hown : (w.setCell ⟨b, 3, none⟩ (.int .i64 ((ndeep S : Int) + 1))).ownsRow lo 44 5 (.slice A1 S.length c1) S.length (flatT S.reverse) := by
    have : OwnT _ lo _ S.reverse := hli
    unfold OwnT at this
    rwa [List.length_reverse] at this
  obtain ⟨wa, hwa⟩ : ∃ y, w.setCell ⟨b, 3, none⟩ (.int .i64 ((ndeep S : Int) + 1)) = y := ⟨_, rfl⟩
  have hsz : wa.heap.size = w.heap.size := by rw [← hwa]; simp [World.setCell]
  rw [hwa] at hown
  have g1 : RdE wa b wa0 call (.slice A1 S.length c1) ((ndeep S : Int) + 1) (.slice A2 o.length c2) := by rw [← hwa]; exact h1.set3 _
  have g3 : OwnT wa lo (.slice A2 o.length c2) o := by rw [← hwa]; exact h3.set h5
  have g4 : Foot b lo w wa := by rw [← hwa]; exact (Foot.refl b lo w).setCell (.inl rfl) _
  have kk2 := g1.c2
  have HN := Lib.hid (show ∀ j u, (cellsT (opT op))[j]? = some u → (wa.alloc (.cells #[.int .i64 op, .int .i64 0, .int .i64 0, .string ⟨#[]⟩, .string ⟨#[]⟩] 44)).cell? ((⟨w.heap.size, 0, none⟩ : Addr).add j) = some u from by rw [← hsz]; exact newsT wa _ (opT op))
  have HWA := Lib.hid hwa
  have HO := Lib.hid hown
  have G1 := Lib.hid g1
  have G3 := Lib.hid g3
  have G4 := Lib.hid g4
  have H4 := Lib.hid h4
  have HI := Lib.hid hi0
  have HND := Lib.hid hnd
  have HNE := Lib.hid (show some b ≠ (Value.slice A1 S.length c1).ownBlock from fun e => by
    have := (World.ownsRow.lt hown b e.symm).1
    omega)
  clear h1 h2 h3 h4 hli hwa hown g1 g3 g4 hi0 hd hnd
  go_enter Tryz.func107, Tryz.ntmps107
  go_upto_region 4 with fail
  rw [HWA.out]
  go_wp2_with (at_builtin; refine wpList_append_lies _ rfl _ _ 22 rfl lo 44 i z 5 56 Tryz.underlying22 HI.out hz0 hz2 hz3 hzs (by omega) (.slice A1 S.length c1) S.length (flatT S.reverse) rfl (HO.out.alloc _) ⟨w.heap.size, 0, none⟩ 1 1 (cellsT (opT op)) (by simp [Act.eval]) rfl HN.out (cellsT_one _) (by omega) (by unfold maxLen; omega) (by omega) (by simp; omega) _ rfl ?_; intro g1 cap1 w1 hown' hgrow hat hlt'; have hE : RdE w1 b wa0 call (.slice A1 S.length c1) ((ndeep S : Int) + 1) (.slice A2 o.length c2) := (G1.out.alloc _).keep (hgrow.block b (by simp; omega) HNE.out); have hc4 := hE.c2; have hf4' := hE.fz 2; have hc0 := hE.c0; have hf0 := hE.fz 0)
  go_ret
  obtain ⟨r1, r2⟩ := pushed wants hE G3.out G4.out h5 (by rw [hsz]; exact h6) hown' hgrow hat H4.out (fun k hk => (World.ownsRow.lt HO.out k hk).1) (by rw [HND.out]; rfl)
  exact ⟨rfl, r1, r2⟩
end Go.Proofs.YtfpjepeikjfkpaaGreatDoor

/-
  Package expr: a value that is whole.
-/
namespace Go.Proofs.YtfpjepeikjfkpaaGreatDoor
open Go.RowKit

/-- Behind an append to the terms. -/
theorem put_done {w wa w1 : World} {b lo : Nat} {wa0 call deep : Int} {A1 A2 : Option Addr} {c1 c2 g1 cap1 : Nat} {S o : List TM} {x : TM} (wants : Int)
    (hE : RdE w1 b wa0 call (.slice A1 S.length c1) deep (.slice A2 o.length c2)) (g2 : OwnT wa lo (.slice A1 S.length c1) S.reverse) (g4 : Foot b lo w wa) (h5 : b < lo) (h6 : lo ≤ wa.heap.size)
    (hown : w1.ownsRow lo 44 5 (.slice (some ⟨g1, 0, none⟩) (o.length + 1) cap1) (o.length + 1) (flatT o ++ cellsT x)) (hgrow : wa.grownBy w1 (Value.slice A2 o.length c2).ownBlock)
    (hat : (Value.slice A2 o.length c2).ownBlock = some g1 ∨ g1 = wa.heap.size) (h4 : ∀ g, (Value.slice A1 S.length c1).ownBlock = some g → (Value.slice A2 o.length c2).ownBlock ≠ some g) (hlo : ∀ k, (Value.slice A2 o.length c2).ownBlock = some k → lo ≤ k) (hd : deep = ndeep S) :
    RdM ((w1.setCell ⟨b, 4, none⟩ (.slice (some ⟨g1, 0, none⟩) (o.length + 1) cap1)).setCell ⟨b, 0, none⟩ (.int .i64 wants)) b lo ⟨wants, call, S, o ++ [x]⟩ ∧ Foot b lo w ((w1.setCell ⟨b, 4, none⟩ (.slice (some ⟨g1, 0, none⟩) (o.length + 1) cap1)).setCell ⟨b, 0, none⟩ (.int .i64 wants)) := by
  subst hd
  have hl1 : (o ++ [x]).length = o.length + 1 := by simp
  have ho : OwnT w1 lo (.slice (some ⟨g1, 0, none⟩) (o.length + 1) cap1) (o ++ [x]) := by
    unfold OwnT
    rw [flatT_append, flatT_one, List.length_append]
    exact hown
  have s2 : OwnT w1 lo (.slice A1 S.length c1) S.reverse := g2.other hgrow fun g h1 h2 => h4 g h2 h1
  have s4 : Foot b lo w w1 := g4.grown hgrow h6 hlo
  refine ⟨⟨⟨A1, c1, some ⟨g1, 0, none⟩, cap1, ?_, (s2.set h5).set h5, ?_, ?_⟩, h5, ?_⟩, (s4.setCell (.inl rfl) _).setCell (.inl rfl) _⟩
  · simp only [hl1]
    exact (hE.set4 _).set0 wants
  · simp only [hl1]
    exact (ho.set h5).set h5
  · intro g hg he
    have he2 : g1 = g := by simpa [Value.ownBlock] using he
    rcases hat with hat | hat
    · exact h4 g hg (by rw [hat, he2])
    · have := (g2.lt g hg).2
      omega
  · have hz : lo ≤ w1.heap.size := by have := hgrow.size; omega
    simpa [World.setCell] using hz

set_option maxRecDepth 100000 in
set_option maxHeartbeats 4000000 in
theorem whole_none (b lo : Nat) (s : ST) (w : World) (hM : RdM w b lo s) (hs : s.st.length + s.out.length ≤ 99999) :
    Calls Tryz.prog 106 #[.pointer (some ⟨b, 0, none⟩), .slice none 0 0] w fun r w' => r = .returned (.tuple #[]) ∧ RdM w' b lo (wholeM s.call s.st s.out) ∧ Foot b lo w w' := by
  obtain ⟨wa0, call, S0, o0⟩ := s
  obtain ⟨⟨A1, c1, A2, c2, h1, h2, h3, h4⟩, h5, h6⟩ := hM
  simp only at *
  obtain ⟨i, z, hi0, hz0, hzs, hz2, hz3⟩ := infoTerm
  have k4 := h1.c4
  have f4 := h1.fz 4
  have k0 := h1.c0
  have f0 := h1.fz 0
  have hown : w.ownsRow lo 44 5 (.slice A2 o0.length c2) o0.length (flatT o0) := h3
  have H1 := Lib.hid h1
  have H2 := Lib.hid h2
  have H3 := Lib.hid h3
  have HO := Lib.hid hown
  have H4 := Lib.hid h4
  have HI := Lib.hid hi0
  have HNE := Lib.hid (show some b ≠ (Value.slice A2 o0.length c2).ownBlock from fun e => by
    have := (World.ownsRow.lt hown b e.symm).1
    omega)
  clear h1 h2 h3 h4 hi0 hown
  go_enter Tryz.func106, Tryz.ntmps106
  go_wp2_with (at_builtin; refine wpList_append_own_none rfl _ _ 22 rfl lo 44 i 5 Tryz.underlying22 HI.out (.slice A2 o0.length c2) o0.length (flatT o0) rfl HO.out rfl ?_)
  have r1 : RdM ((w.setCell ⟨b, 4, none⟩ (.slice A2 o0.length c2)).setCell ⟨b, 0, none⟩ (.int .i64 1)) b lo ⟨1, call, S0, o0⟩ :=
    ⟨⟨A1, c1, A2, c2, (H1.out.set4 _).set0 1, (H2.out.set h5).set h5, (H3.out.set h5).set h5, H4.out⟩, h5, by simpa [World.setCell] using h6⟩
  have r2 : Foot b lo w ((w.setCell ⟨b, 4, none⟩ (.slice A2 o0.length c2)).setCell ⟨b, 0, none⟩ (.int .i64 1)) := ((Foot.refl b lo w).setCell (.inl rfl) _).setCell (.inl rfl) _
  have R1 := Lib.hid r1
  have R2 := Lib.hid r2
  clear r1 r2
  go_loopg [] S0.length (fun k wr => ∃ S o, S.length = k ∧ popOnes S0 o0 = popOnes S o ∧ S.length + o.length ≤ 100000 ∧ RdM wr b lo ⟨1, call, S, o⟩ ∧ Foot b lo w wr)
  case atStart => exact ⟨S0, o0, rfl, rfl, by first | (rw [List.length_append, List.length_singleton]; omega) | omega, R1.out, R2.out⟩
  case round =>
    obtain ⟨S, o, hk, hp, hl, hm, hf⟩ := hrel
    have HL := Lib.hid (fun wx hb => last_any b lo ⟨1, call, S, o⟩ wx (hm.below hb) (by simp only; omega))
    simp only at HL
    have HF := Lib.hid hf
    have HP := Lib.hid hp
    have HMr := Lib.hid hm
    have HK := Lib.hid hk
    have HB0 := Lib.hid (Below.refl wr.heap.size wr)
    clear hf hp hm hk
    by_cases h2 : lastM S = 3 ∨ lastM S = 4
    · have hS : ∃ t S', S = t :: S' := by
        cases S with
        | nil => exact absurd h2 (by decide)
        | cons t S' => exact ⟨t, S', rfl⟩
      obtain ⟨t, S', rfl⟩ := hS
      have ht : t.op = 3 ∨ t.op = 4 := h2
      have HP2 := Lib.hid (show popOnes S0 o0 = popOnes S' (o ++ [t]) by rw [HP.out, popOnes, if_pos ht])
      have HPu := Lib.hid (show putM t o = o ++ [t] by
        unfold putM
        rw [if_neg (by omega)])
      have key : ((lastM (t :: S') == 3) = true ∧ True) ∨ ((lastM (t :: S') == 3) = false ∧ (lastM (t :: S') == 4) = true) := by
        rcases h2 with h2 | h2
        · exact .inl ⟨by rw [h2]; rfl, trivial⟩
        · exact .inr ⟨by rw [h2]; rfl, by rw [h2]; rfl⟩
      generalize hL : lastM (t :: S') = L at *
      clear h2 ht hL
      rw [List.length_cons] at hl
      rcases key with ⟨d1, d2⟩ | ⟨d1, d2⟩
      · go_wp2_with (first | (go_at_call 108; refine (HL.out _ HB0.out).mono ?_; rintro r w1 ⟨rfl, hb1⟩) | (go_at_call 109; refine (close_any b lo 1 call t S' o _ (HMr.out.below hb1) (by omega) (by omega)).mono ?_; rintro r w3 ⟨rfl, hm3, hf3⟩))
        go_roundg S'.length
        case measure => have := HK.out; rw [List.length_cons] at this; omega
        case rel =>
          rw [HPu.out] at hm3
          exact ⟨S', o ++ [t], rfl, HP2.out, by rw [List.length_append, List.length_singleton]; omega, hm3, (HF.out.trans (Foot.of_below hb1 HMr.out.lo2)).trans hf3⟩
      · go_upto_region 3 with (first | (go_at_call 108; (first | (refine (HL.out _ HB0.out).mono ?_; rintro r w1 ⟨rfl, hb1⟩) | (refine (HL.out _ hb1).mono ?_; rintro r w2 ⟨rfl, hb2⟩))))
        have hb3 := Lib.hid (hb1.trans (hb2.mono hb1.size))
        go_wp2_with (go_at_call 109; refine (close_any b lo 1 call t S' o _ (HMr.out.below hb3.out) (by omega) (by omega)).mono ?_; rintro r w3 ⟨rfl, hm3, hf3⟩)
        go_roundg S'.length
        case measure => have := HK.out; rw [List.length_cons] at this; omega
        case rel =>
          rw [HPu.out] at hm3
          exact ⟨S', o ++ [t], rfl, HP2.out, by rw [List.length_append, List.length_singleton]; omega, hm3, (HF.out.trans (Foot.of_below hb3.out HMr.out.lo2)).trans hf3⟩
    · have d1 : (lastM S == 3) = false := by rw [beq_eq_false_iff_ne]; exact fun e => h2 (.inl e)
      have d2 : (lastM S == 4) = false := by rw [beq_eq_false_iff_ne]; exact fun e => h2 (.inr e)
      have hpe : popOnes S o = (S, o) := by
        cases S with
        | nil => rfl
        | cons t S' => rw [popOnes, if_neg (show ¬ (t.op = 3 ∨ t.op = 4) from fun ht => h2 ht)]
      have HE := Lib.hid hpe
      generalize hL : lastM S = L at *
      clear h2 hL hpe
      go_wp2_with (first | (go_at_call 108; (first | (refine (HL.out _ HB0.out).mono ?_; rintro r w1 ⟨rfl, hb1⟩) | (refine (HL.out _ hb1).mono ?_; rintro r w2 ⟨rfl, hb2⟩))))
      have hb3 := hb1.trans (hb2.mono hb1.size)
      go_end0
      refine ⟨rfl, ?_, HF.out.trans (Foot.of_below hb3 HMr.out.lo2)⟩
      unfold wholeM
      rw [HP.out, HE.out]
      exact HMr.out.below hb3

set_option maxRecDepth 100000 in
set_option maxHeartbeats 4000000 in
theorem whole_one (b lo : Nat) (s : ST) (x : TM) (ad : Addr) (c : Nat) (w : World) (hM : RdM w b lo s) (hs : s.st.length + s.out.length ≤ 99999) (hx : ∀ j u, (cellsT x)[j]? = some u → w.cell? (ad.add j) = some u) :
    Calls Tryz.prog 106 #[.pointer (some ⟨b, 0, none⟩), .slice (some ad) 1 c] w fun r w' => r = .returned (.tuple #[]) ∧ RdM w' b lo (wholeM s.call s.st (s.out ++ [x])) ∧ Foot b lo w w' := by
  obtain ⟨wa0, call, S0, o0⟩ := s
  obtain ⟨⟨A1, c1, A2, c2, h1, h2, h3, h4⟩, h5, h6⟩ := hM
  simp only at *
  obtain ⟨i, z, hi0, hz0, hzs, hz2, hz3⟩ := infoTerm
  have k4 := h1.c4
  have f4 := h1.fz 4
  have k0 := h1.c0
  have f0 := h1.fz 0
  have hown : w.ownsRow lo 44 5 (.slice A2 o0.length c2) o0.length (flatT o0) := h3
  have H1 := Lib.hid h1
  have H2 := Lib.hid h2
  have H3 := Lib.hid h3
  have HO := Lib.hid hown
  have H4 := Lib.hid h4
  have HI := Lib.hid hi0
  have HNE := Lib.hid (show some b ≠ (Value.slice A2 o0.length c2).ownBlock from fun e => by
    have := (World.ownsRow.lt hown b e.symm).1
    omega)
  have HX := Lib.hid hx
  clear h1 h2 h3 h4 hi0 hown hx
  go_enter Tryz.func106, Tryz.ntmps106
  go_wp2_with (at_builtin; refine wpList_append_lies _ rfl _ _ 22 rfl lo 44 i z 5 56 Tryz.underlying22 HI.out hz0 hz2 hz3 hzs (by omega) (.slice A2 o0.length c2) o0.length (flatT o0) rfl HO.out ad 1 c (cellsT x) rfl rfl HX.out (cellsT_one _) (by omega) (by unfold maxLen; omega) (by omega) h6 _ rfl ?_; intro g1 cap1 w1 hown' hgrow hat hlt'; have hE : RdE w1 b wa0 call (.slice A1 S0.length c1) (ndeep S0) (.slice A2 o0.length c2) := H1.out.keep (hgrow.block b H1.out.lt HNE.out); have hc4 := hE.c4; have hf4' := hE.fz 4; have hc0 := hE.c0; have hf0 := hE.fz 0)
  obtain ⟨r1, r2⟩ := put_done 1 hE H2.out (Foot.refl b lo w) h5 h6 hown' hgrow hat H4.out (fun k hk => (World.ownsRow.lt HO.out k hk).1) rfl
  have R1 := Lib.hid r1
  have R2 := Lib.hid r2
  clear r1 r2
  go_loopg [] S0.length (fun k wr => ∃ S o, S.length = k ∧ popOnes S0 (o0 ++ [x]) = popOnes S o ∧ S.length + o.length ≤ 100000 ∧ RdM wr b lo ⟨1, call, S, o⟩ ∧ Foot b lo w wr)
  case atStart => exact ⟨S0, (o0 ++ [x]), rfl, rfl, by first | (rw [List.length_append, List.length_singleton]; omega) | omega, R1.out, R2.out⟩
  case round =>
    obtain ⟨S, o, hk, hp, hl, hm, hf⟩ := hrel
    have HL := Lib.hid (fun wx hb => last_any b lo ⟨1, call, S, o⟩ wx (hm.below hb) (by simp only; omega))
    simp only at HL
    have HF := Lib.hid hf
    have HP := Lib.hid hp
    have HMr := Lib.hid hm
    have HK := Lib.hid hk
    have HB0 := Lib.hid (Below.refl wr.heap.size wr)
    clear hf hp hm hk
    by_cases h2 : lastM S = 3 ∨ lastM S = 4
    · have hS : ∃ t S', S = t :: S' := by
        cases S with
        | nil => exact absurd h2 (by decide)
        | cons t S' => exact ⟨t, S', rfl⟩
      obtain ⟨t, S', rfl⟩ := hS
      have ht : t.op = 3 ∨ t.op = 4 := h2
      have HP2 := Lib.hid (show popOnes S0 (o0 ++ [x]) = popOnes S' (o ++ [t]) by rw [HP.out, popOnes, if_pos ht])
      have HPu := Lib.hid (show putM t o = o ++ [t] by
        unfold putM
        rw [if_neg (by omega)])
      have key : ((lastM (t :: S') == 3) = true ∧ True) ∨ ((lastM (t :: S') == 3) = false ∧ (lastM (t :: S') == 4) = true) := by
        rcases h2 with h2 | h2
        · exact .inl ⟨by rw [h2]; rfl, trivial⟩
        · exact .inr ⟨by rw [h2]; rfl, by rw [h2]; rfl⟩
      generalize hL : lastM (t :: S') = L at *
      clear h2 ht hL
      rw [List.length_cons] at hl
      rcases key with ⟨d1, d2⟩ | ⟨d1, d2⟩
      · go_wp2_with (first | (go_at_call 108; refine (HL.out _ HB0.out).mono ?_; rintro r w1 ⟨rfl, hb1⟩) | (go_at_call 109; refine (close_any b lo 1 call t S' o _ (HMr.out.below hb1) (by omega) (by omega)).mono ?_; rintro r w3 ⟨rfl, hm3, hf3⟩))
        go_roundg S'.length
        case measure => have := HK.out; rw [List.length_cons] at this; omega
        case rel =>
          rw [HPu.out] at hm3
          exact ⟨S', o ++ [t], rfl, HP2.out, by rw [List.length_append, List.length_singleton]; omega, hm3, (HF.out.trans (Foot.of_below hb1 HMr.out.lo2)).trans hf3⟩
      · go_upto_region 3 with (first | (go_at_call 108; (first | (refine (HL.out _ HB0.out).mono ?_; rintro r w1 ⟨rfl, hb1⟩) | (refine (HL.out _ hb1).mono ?_; rintro r w2 ⟨rfl, hb2⟩))))
        have hb3 := Lib.hid (hb1.trans (hb2.mono hb1.size))
        go_wp2_with (go_at_call 109; refine (close_any b lo 1 call t S' o _ (HMr.out.below hb3.out) (by omega) (by omega)).mono ?_; rintro r w3 ⟨rfl, hm3, hf3⟩)
        go_roundg S'.length
        case measure => have := HK.out; rw [List.length_cons] at this; omega
        case rel =>
          rw [HPu.out] at hm3
          exact ⟨S', o ++ [t], rfl, HP2.out, by rw [List.length_append, List.length_singleton]; omega, hm3, (HF.out.trans (Foot.of_below hb3.out HMr.out.lo2)).trans hf3⟩
    · have d1 : (lastM S == 3) = false := by rw [beq_eq_false_iff_ne]; exact fun e => h2 (.inl e)
      have d2 : (lastM S == 4) = false := by rw [beq_eq_false_iff_ne]; exact fun e => h2 (.inr e)
      have hpe : popOnes S o = (S, o) := by
        cases S with
        | nil => rfl
        | cons t S' => rw [popOnes, if_neg (show ¬ (t.op = 3 ∨ t.op = 4) from fun ht => h2 ht)]
      have HE := Lib.hid hpe
      generalize hL : lastM S = L at *
      clear h2 hL hpe
      go_wp2_with (first | (go_at_call 108; (first | (refine (HL.out _ HB0.out).mono ?_; rintro r w1 ⟨rfl, hb1⟩) | (refine (HL.out _ hb1).mono ?_; rintro r w2 ⟨rfl, hb2⟩))))
      have hb3 := hb1.trans (hb2.mono hb1.size)
      go_end0
      refine ⟨rfl, ?_, HF.out.trans (Foot.of_below hb3 HMr.out.lo2)⟩
      unfold wholeM
      rw [HP.out, HE.out]
      exact HMr.out.below hb3
end Go.Proofs.YtfpjepeikjfkpaaGreatDoor
