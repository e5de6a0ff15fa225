/-
  The document's own Reader, the other calls: Int, Byte, Text, Read.
-/
import Derived.Test.YtepniiaojhiogaaDoorRefR
import Derived.Test.YtepniiaojhiogaaDoorLive
namespace Go.Proofs.YtepniiaojhiogaaDoor
open Go.RowKit

theorem fUint_max (g lo e : Nat) (l : List UInt8) (w : World) (h : FRdr w lo g l e) :
    Calls Tryd.prog 64 #[.pointer (some ⟨g, 0, none⟩), .int .u64 18446744073709551615] w (FTold (.int .u64 (uintOf l e maxU).1) lo g (uintOf l e maxU).2.1 (uintOf l e maxU).2.2 w) := by
  have := fUint_any g lo e l 18446744073709551615 w h (by omega) (by omega)
  rwa [show (18446744073709551615 : Int).toNat = maxU from by unfold maxU; omega] at this

theorem fInt_r (g lo e : Nat) (l : List UInt8) (w : World) (h : FRdr w lo g l e) :
    Calls Tryd.prog 37 #[.pointer (some ⟨g, 0, none⟩)] w (FTold (.int .i64 (zag (uintOf l e maxU).1)) lo g (uintOf l e maxU).2.1 (uintOf l e maxU).2.2 w) := by
  have HN := Lib.hid (fUint_max g lo e l w h)
  have hle := uintOf_le l e maxU
  obtain ⟨n, l', e', hq⟩ : ∃ n l' e', uintOf l e maxU = (n, l', e') := ⟨_, _, _, rfl⟩
  rw [hq] at HN hle ⊢
  have hn : (n : Int) ≤ 18446744073709551615 := by unfold maxU at hle; omega
  clear hle hq h
  by_cases ho : n % 2 = 1
  · have hob : ((n : Int) % 2 == 1) = true := by rw [beq_iff_eq]; omega
    have HZ := Lib.hid (show zag n = -1 - (n : Int) / 2 by simp [zag, ho])
    clear ho
    go_enter Tryd.func37, Tryd.ntmps37
    go_wp2_with (go_at_call 64; refine HN.out.mono ?_; rintro x w' ⟨rfl, hrd, hgr⟩)
    go_ret
    rw [HZ.out]
    exact ⟨rfl, hrd, hgr⟩
  · have hob : ((n : Int) % 2 == 1) = false := by rw [beq_eq_false_iff_ne]; omega
    have HZ := Lib.hid (show zag n = (n : Int) / 2 by simp [zag, ho])
    clear ho
    go_enter Tryd.func37, Tryd.ntmps37
    go_wp2_with (go_at_call 64; refine HN.out.mono ?_; rintro x w' ⟨rfl, hrd, hgr⟩)
    go_ret
    rw [HZ.out]
    exact ⟨rfl, hrd, hgr⟩

theorem fRead_any (A : Option Addr) (l : List UInt8) (c : Nat) (w : World) (hl : l.length ≤ 140737488355328) (hz : A = none → c = 0) (hr : Rd w 0 w.heap.size A l) :
    Calls Tryd.prog 36 #[.slice A l.length c] w fun x w' => ∃ g, x = .returned (.pointer (some ⟨g, 0, none⟩)) ∧ w.heap.size ≤ g ∧ FRdr w' w.heap.size g l 0 ∧ Below w.heap.size w w' := by
  have hp := Parts.new w 24 [(A, c, l)] (fun p hp => by
    simp only [List.mem_cons, List.not_mem_nil, or_false] at hp
    subst hp
    exact ⟨hz, hr⟩)
  have HP := Lib.hid hp
  clear hp hr hz
  go_enter Tryd.func36, Tryd.ntmps36
  go_wp2_with (go_at_call 21; refine (fJoin_any _ _ [l] _ HP.out (by simp) (by simpa using hl)).mono ?_; rintro x w1 ⟨A1, c1, rfl, h1, hm1, h2, h3, h4⟩)
  have hsz : w.heap.size ≤ (w.alloc (.cells (List.map (fun p => Value.slice p.1 p.2.2.length p.2.1) [(A, c, l)]).toArray 24)).heap.size := by simp
  have hb1 : Below w.heap.size w w1 := ((Below.refl _ w).alloc (Nat.le_refl _) _).trans (h4.mono hsz)
  have hl1 : [l].flatten = l := by simp
  rw [hl1] at h1 h3
  have hb2 : Below w1.heap.size w1 (w1.alloc (.cells #[.slice A1 l.length c1, .int .i64 0] 64)) := (Below.refl _ w1).alloc (Nat.le_refl _) _
  go_ret
  refine ⟨w1.heap.size, rfl, hb1.size, ⟨A1, c1, heap_alloc_new w1 _, h1, hm1, h2, ?_⟩, hb1.trans (hb2.mono hb1.size)⟩
  exact (h3.wide hsz (Nat.le_refl _)).below hb2 (Nat.le_refl _)

/-- What Text tells, by what Uint tells. -/
theorem textOfR_uint (l : List UInt8) (x : Int) (hx : x ≤ 9223372036854775807) : textOfR l 0 x = if (uintOf l 0 maxU).2.2 ≠ 0 then ([], l, (uintOf l 0 maxU).2.2)
    else if x < 0 ∨ x < (uintOf l 0 maxU).1 then ([], l, 3) else if (uintOf l 0 maxU).2.1.length < (uintOf l 0 maxU).1 then ([], l, 6)
    else ((uintOf l 0 maxU).2.1.take (uintOf l 0 maxU).1, (uintOf l 0 maxU).2.1.drop (uintOf l 0 maxU).1, 0) := by
  obtain ⟨s, e, hq⟩ : ∃ s e, cuts l 0 = (s, e) := ⟨_, _, rfl⟩
  have h1 := numOf_cuts l maxU s e hq
  have h2 := numOf_cuts l x.toNat s e hq
  by_cases he : e = 0
  · subst he
    have hv := val_take l s hq
    rw [if_neg (by omega), if_neg (by rw [maxU_eq]; omega)] at h1
    rw [if_neg (by omega)] at h2
    have hu : uintOf l 0 maxU = (val (l.take s), l.drop s, 0) := by simp [uintOf, h1]
    rw [hu, if_neg (by simp)]
    simp only []
    generalize val (l.take s) = V at *
    by_cases hb : x.toNat < V
    · rw [if_pos hb] at h2
      rw [if_pos (by omega)]
      simp [textOfR, textOf, h2]
    · rw [if_neg hb] at h2
      by_cases hx0 : x < 0
      · rw [if_pos (.inl hx0)]
        simp [textOfR, textOf, h2, hx0]
      · rw [if_neg (by omega)]
        by_cases hl : l.length - s < V
        · rw [if_pos (by rw [List.length_drop]; exact hl)]
          simp [textOfR, textOf, h2, hx0, hl]
        · rw [if_neg (by rw [List.length_drop]; exact hl)]
          simp [textOfR, textOf, h2, hx0, hl]
  · rw [if_pos he] at h1 h2
    have hu : uintOf l 0 maxU = (0, l, e) := by simp [uintOf, h1]
    rw [hu, if_pos he]
    simp [textOfR, textOf, h2, he]

theorem uintOf_bad (l : List UInt8) (e most n e' : Nat) (l' : List UInt8) (h : uintOf l e most = (n, l', e')) (he : e' ≠ 0) : l' = l := by
  unfold uintOf at h
  split at h
  · simp only [Prod.mk.injEq] at h; exact h.2.1.symm
  · obtain ⟨n1, s, e1, hq, hbad, _⟩ := numOf_nat l most
    rw [hq] at h
    simp only [Prod.mk.injEq] at h
    obtain ⟨_, h2, h3⟩ := h
    have := (hbad (by omega)).2
    subst this
    simpa using h2.symm

set_option maxHeartbeats 1000000 in
set_option maxRecDepth 100000 in
theorem fText_r (g lo e : Nat) (l : List UInt8) (x : Int) (w : World) (h : FRdr w lo g l e) (h0 : -9223372036854775808 ≤ x) (h1 : x ≤ 9223372036854775807) :
    Calls Tryd.prog 38 #[.pointer (some ⟨g, 0, none⟩), .int .i64 x] w (FTold (.string ⟨(textOfR l e x).1.toArray⟩) lo g (textOfR l e x).2.1 (textOfR l e x).2.2 w) := by
  have HF := Lib.hid h
  have HN := Lib.hid (fUint_max g lo e l w h)
  have hle := uintOf_le l e maxU
  obtain ⟨A, c, hg, g1, g2, g3, g4⟩ := h
  have c0 : w.cell? ⟨g, 0, none⟩ = some (.slice A l.length c) := cell_of_row w g 0 _ _ _ hg
  have hlt := HF.out.lt
  by_cases he : e = 0
  · subst he
    have ht := textOfR_uint l x h1
    obtain ⟨V, l', e', hq⟩ : ∃ n l' e', uintOf l 0 maxU = (n, l', e') := ⟨_, _, _, rfl⟩
    rw [hq] at HN hle ht
    simp only [] at ht
    have hV : (V : Int) ≤ 18446744073709551615 := by unfold maxU at hle; omega
    have hbad := uintOf_bad l 0 maxU V e' l' hq
    clear hle hq hg
    by_cases he' : e' = 0
    · subst he'
      clear hbad
      rw [if_neg (by simp)] at ht
      go_enter Tryd.func38, Tryd.ntmps38
      have HT := Lib.hid ht
      have G4 := Lib.hid g4
      have G3 := Lib.hid g3
      have G2 := Lib.hid g2
      clear ht g4 g3 g2
      go_wp2_with fail
      refine HN.out.mono ?_
      rintro y w1 ⟨rfl, hrd, hgr⟩
      have HF1 := Lib.hid hrd
      have HG := Lib.hid hgr
      obtain ⟨A1, c1', hg1, k1, k2, k3, k4⟩ := hrd
      have d0 : w1.cell? ⟨g, 0, none⟩ = some (.slice A1 l'.length c1') := cell_of_row w1 g 0 _ _ _ hg1
      have d1 : w1.cell? ⟨g, 1, none⟩ = some (.int .i64 0) := cell_of_row w1 g 1 _ _ _ hg1
      have f0 : w1.frozen? ⟨g, 0, none⟩ = false := by simp [World.frozen?, hg1]
      have f1 : w1.frozen? ⟨g, 1, none⟩ = false := by simp [World.frozen?, hg1]
      have hcm : c1' ≤ 9223372036854775807 := by unfold maxLen at k2; omega
      have hrA : Rd w1 lo g A l := G4.out.grown hgr (by omega) (fun i hi => by injection hi with hi; omega)
      have HA := Lib.hid hrA
      have K2 := Lib.hid k2
      have K3 := Lib.hid k3
      have K4 := Lib.hid k4
      clear hg1 hgr hrA HN c0 k2 k3 k4
      by_cases hlong : x < 0 ∨ x < (V : Int)
      · have HE := Lib.hid (HT.out.trans (if_pos hlong))
        have hfin := ((HF1.out.err 3).put (A' := A) (c' := c) (n := l.length) rfl g1 G2.out G3.out (HA.out.grown (grown_set g 1 _) (by have := HF1.out.lt; omega) (fun i hi => by injection hi with hi; omega)))
        have hgf : w.grownBy ((w1.setCell ⟨g, 1, none⟩ (.int .i64 3)).setCell ⟨g, 0, none⟩ (.slice A l.length c)) (some g) := grown_step HG.out (grown_step (grown_set g 1 _) (grown_set g 0 _))
        have HFin := Lib.hid hfin
        have HGF := Lib.hid hgf
        clear hfin hgf HT
        rcases (show x < 0 ∨ (0 ≤ x ∧ x < (V : Int)) from by omega) with h | ⟨h, h'⟩
        all_goals
          clear hlong
          go_wp2
          go_ret
          rw [HE.out]
          exact ⟨rfl, HFin.out, HGF.out⟩
      · have hx0 : 0 ≤ x := by omega
        have hxV : (V : Int) ≤ x := by omega
        have HT2 := Lib.hid (HT.out.trans (if_neg hlong))
        clear hlong HT
        by_cases hsh : l'.length < V
        · have HE := Lib.hid (HT2.out.trans (if_pos hsh))
          have hfin := ((HF1.out.err 6).put (A' := A) (c' := c) (n := l.length) rfl g1 G2.out G3.out (HA.out.grown (grown_set g 1 _) (by have := HF1.out.lt; omega) (fun i hi => by injection hi with hi; omega)))
          have hgf : w.grownBy ((w1.setCell ⟨g, 1, none⟩ (.int .i64 6)).setCell ⟨g, 0, none⟩ (.slice A l.length c)) (some g) := grown_step HG.out (grown_step (grown_set g 1 _) (grown_set g 0 _))
          have HFin := Lib.hid hfin
          have HGF := Lib.hid hgf
          clear hfin hgf HT2
          go_wp2
          go_ret
          rw [HE.out]
          exact ⟨rfl, HFin.out, HGF.out⟩
        · have HE := Lib.hid (HT2.out.trans (if_neg hsh))
          have hVl : V ≤ l'.length := by omega
          have hcv : ∀ c', (convert 24 9 (.slice A1 V c')).run Tryd.prog w1 = .ok (.string ⟨(l'.take V).toArray⟩) w1 := fun c' => conv_ret (by rw [List.length_take]; omega) (K4.out.take V)
          have hcut : ∀ (A' : Option Addr) (n c'' : Nat), A' = (if c1' = V then A1 else A1.map (·.add V)) → c'' = c1' - V → n = l'.length - V → FRdr (w1.setCell ⟨g, 0, none⟩ (.slice A' n c'')) lo g (l'.drop V) 0 :=
            fun A' n c'' ha hc hn => HF1.out.cut k1 K2.out K3.out K4.out hVl ha hc hn
          have HCut := Lib.hid hcut
          generalize l'.take V = M at *
          clear hcut HT2 hsh
          go_wp2
          all_goals
            go_ret
            rw [HE.out]
            refine ⟨rfl, ?_, grown_step HG.out (grown_set g 0 _)⟩
            first
              | exact HCut.out _ _ _ (by rw [if_pos (by omega)]) (by omega) rfl
              | exact HCut.out _ _ _ (by rw [if_neg (by omega)]) rfl rfl
    · rw [if_pos he'] at ht
      obtain rfl := hbad he'
      have HT := Lib.hid ht
      have t2 : ((e' : Int) != 0) = true := by rw [bne_iff_ne]; omega
      clear ht he' g1 g2 g3 g4 hbad
      go_enter Tryd.func38, Tryd.ntmps38
      go_wp2_with fail
      refine HN.out.mono ?_
      rintro y w1 ⟨rfl, hrd, hgr⟩
      have d1 : w1.cell? ⟨g, 1, none⟩ = some (.int .i64 e') := by
        obtain ⟨A1, c1', hg1, _⟩ := hrd
        exact cell_of_row w1 g 1 _ _ _ hg1
      go_wp2
      go_ret
      rw [HT.out]
      exact ⟨rfl, hrd, hgr⟩
  · have HT := Lib.hid (show textOfR l e x = ([], l, e) by simp [textOfR, he])
    have hu : uintOf l e maxU = (0, l, e) := by simp [uintOf, he]
    rw [hu] at HN
    have t2 : ((e : Int) != 0) = true := by rw [bne_iff_ne]; omega
    clear hu he g1 g2 g3 g4 hle hg
    go_enter Tryd.func38, Tryd.ntmps38
    go_wp2_with fail
    refine HN.out.mono ?_
    rintro y w1 ⟨rfl, hrd, hgr⟩
    have d1 : w1.cell? ⟨g, 1, none⟩ = some (.int .i64 e) := by
      obtain ⟨A1, c1', hg1, _⟩ := hrd
      exact cell_of_row w1 g 1 _ _ _ hg1
    go_wp2
    go_ret
    rw [HT.out]
    exact ⟨rfl, hrd, hgr⟩

end Go.Proofs.YtepniiaojhiogaaDoor
