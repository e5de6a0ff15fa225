import Derived.Test.YtfdiidhilonkoaaZC28
import Derived.Test.YtfdiidhilonkoaaZC29
import Derived.Test.YtfdiidhilonkoaaZC30
set_option linter.unusedVariables false
/-
  Package order: free, and whether an order is right.
-/
namespace Go.Proofs.Ytfdiidhilonkoaa
open Go.RowKit

section
variable {w w' : World} {L : LayO} {lo : Nat} {A : Option Addr} {c : Nat} {ms : List MZ} {dn : Nat → Bool} {p1 p2 : Nat → Nat}
theorem layE_any (h : RestE w L lo A c ms dn p1 p2) {i : Nat} (hi : i < ms.length) : Calls Try.prog 31 #[.int .i64 (i : Nat), .pointer (some ⟨L.d0, 0, none⟩)] w fun r w' => r = .returned (.tuple #[]) ∧ RestE w' L lo A c ms (updB dn i) p1 p2 ∧ Mut (mvO L) w w' := by
  obtain ⟨hlo, n1, n2, ah, hM⟩ := h
  refine (lay_any L.d0 L.D ms.length dn w hM.d0 hM.bools i hi).mono ?_
  have hE : RestE (w.setCell ⟨L.D, i, none⟩ (.bool true)) L lo A c ms (updB dn i) p1 p2 := ⟨by simpa [World.setCell] using hlo, n1, n2, ah, hM.lay hlo i⟩
  have hm : Mut (mvO L) w (w.setCell ⟨L.D, i, none⟩ (.bool true)) := (mut_setI w L.D i (.bool true)).wide fun k q => .inl q
  rintro r w' ⟨rfl, rfl | rfl⟩
  · exact ⟨rfl, hE, hm⟩
  · exact ⟨rfl, hE.below (Below.refl _ _).drew, Mut.two hm (Below.mut (Below.refl _ _).drew _)⟩
theorem toldE_any (h : RestE w L lo A c ms dn p1 p2) {i : Nat} (hi : i < ms.length) : Calls Try.prog 30 #[.int .i64 (i : Nat), .pointer (some ⟨L.d0, 0, none⟩)] w fun r w' => r = .returned (.bool (dn i)) ∧ RestE w' L lo A c ms dn p1 p2 ∧ Mut (mvO L) w w' := by
  obtain ⟨hlo, n1, n2, ah, hM⟩ := h
  refine (hM.told w i hi (Below.refl _ _)).mono ?_
  rintro r w' ⟨rfl, hb⟩
  exact ⟨rfl, RestE.below ⟨hlo, n1, n2, ah, hM⟩ hb, Below.mut hb _⟩
end
set_option maxRecDepth 100000 in
set_option maxHeartbeats 4000000 in
theorem dFree_any (K : SpanC) (w : World) (L : LayO) (lo : Nat) (A : Option Addr) (c : Nat) (ms : List MZ) (dn : Nat → Bool) (p1 p2 : Nat → Nat) (h : RestE w L lo A c ms dn p1 p2) (i : Nat) (hi : i < ms.length) (hd : dn i = false) :
    Calls Try.prog 23 #[.pointer (some ⟨L.r, 0, none⟩), .int .i64 (i : Nat)] w fun r w' => r = .returned (.bool (freeD (dz ms) dn i)) ∧ RestE w' L lo A c ms dn p1 p2 ∧ Mut (mvO L) w w' := by
  have HFr := Lib.hid (free_waits (dz ms) dn i)
  have H1 := Lib.hid (dWaitE_any w L lo A c ms dn p1 p2 h i hi hd)
  have H2 := Lib.hid (fun (W : World) (hW : RestE W L lo A c ms dn p1 p2) => dWaitR_any K W L lo A c ms dn p1 p2 hW i hi)
  clear h hd K
  generalize waitE (dz ms) dn i = e1 at *
  generalize waitR (dz ms) dn i = e2 at *
  go_enter Try.func23, Try.ntmps23
  go_wp2_with fail
  (with_reducible refine H1.out.mono ?_)
  rintro r w1 ⟨rfl, hE, hm⟩
  have HE := Lib.hid hE
  have HM := Lib.hid hm
  clear hE hm H1
  cases e1 with
  | true =>
    have HF := Lib.hid (show freeD (dz ms) dn i = false by rw [HFr.out]; rfl)
    clear HFr H2
    go_wp2_with fail
    go_ret
    rw [HF.out]
    exact ⟨rfl, HE.out, HM.out⟩
  | false =>
    have H3 := Lib.hid (H2.out w1 HE.out)
    have HF := Lib.hid (show freeD (dz ms) dn i = !e2 by rw [HFr.out]; simp)
    clear HFr H2
    go_wp2_with fail
    (with_reducible refine H3.out.mono ?_)
    rintro r w2 ⟨rfl, hE2, hm2⟩
    have HE2 := Lib.hid hE2
    have HM2 := Lib.hid (Mut.two HM.out hm2)
    clear hE2 hm2 H3
    go_wp2_with fail
    go_ret
    rw [HF.out]
    exact ⟨rfl, HE2.out, HM2.out⟩
/-! ### is an order right? -/
/-- Those that are laid, and that nobody who is left must stand ahead of them. -/
structure LaidZ (l : List DoneZ) (ps : List Int) : Prop where
  pre : PreZ l ps
  shut : ∀ b ∈ ps, ∀ k, k < l.length → (k : Int) ∉ ps → edgeD (atD l k) (atD l b.toNat) = false
theorem laidZ_nil (l : List DoneZ) : LaidZ l [] := ⟨preZ_nil l, fun _ h => by cases h⟩
theorem freeD_no {l : List DoneZ} {dn : Nat → Bool} {i : Nat} (h : freeD l dn i = true) {k : Nat} (hk : k < l.length) (hki : k ≠ i) (hd : dn k = false) : edgeD (atD l k) (atD l i) = false := by
  have := List.all_eq_true.1 h k (List.mem_range.2 hk)
  rw [hd, Bool.or_false, Bool.or_eq_true] at this
  rcases this with q | q
  · exact absurd (by simpa using q) hki
  · simpa using q
theorem freeD_yes {l : List DoneZ} {dn : Nat → Bool} {i : Nat} (h : freeD l dn i = false) : ∃ k, k < l.length ∧ k ≠ i ∧ dn k = false ∧ edgeD (atD l k) (atD l i) = true := by
  unfold freeD at h
  rw [List.all_eq_false] at h
  obtain ⟨k, hk, hn⟩ := h
  rw [Bool.not_eq_true, Bool.or_eq_false_iff, Bool.or_eq_false_iff] at hn
  obtain ⟨⟨h1, h2⟩, h3⟩ := hn
  exact ⟨k, List.mem_range.1 hk, by simpa using h1, h2, by simpa using h3⟩
theorem LaidZ.add {l : List DoneZ} {ps : List Int} {dn : Nat → Bool} {k : Nat} (h : LaidZ l ps) (hk : k < l.length) (hd : ∀ x, x < l.length → (dn x = true ↔ (x : Int) ∈ ps)) (hkd : dn k = false) (hf : freeD l dn k = true) : LaidZ l (ps ++ [(k : Int)]) := by
  have hkn : (k : Int) ∉ ps := fun q => by
    have := (hd k hk).2 q
    rw [hkd] at this
    cases this
  refine ⟨h.pre.add (by omega) (by omega) hkn (fun b hb => ?_), fun b hb x hx hxn => ?_⟩
  · simpa using h.shut b hb k hk hkn
  · have hx1 : (x : Int) ∉ ps := fun q => hxn (List.mem_append_left _ q)
    rcases List.mem_append.1 hb with hb | hb
    · exact h.shut b hb x hx hx1
    · rw [List.mem_singleton] at hb
      subst hb
      rw [Int.toNat_natCast]
      refine freeD_no hf hx (fun e => hxn (by rw [e]; simp)) ?_
      cases q : dn x
      · rfl
      · exact absurd ((hd x hx).1 q) hx1
theorem take_mid {ps : List Int} {j : Nat} (h : j < ps.length) : ps = ps.take j ++ ps[j] :: ps.drop (j + 1) := by
  rw [← List.drop_eq_getElem_cons h, List.take_append_drop]
set_option maxRecDepth 100000 in
set_option maxHeartbeats 8000000 in
theorem dRight_any (K : SpanC) (ms : List MZ) (A : Option Addr) (c : Nat) (ps : List Int) (B : Option Addr) (d : Nat) (w : World) (hr : ChZ w w.heap.size A c ms) (hf : ∀ x ∈ ms, fewMZ x) (hl : ms.length ≤ 1000) (hp : RowG inZ w 0 w.heap.size B ps) (hpl : ps.length ≤ 9223372036854775807) :
    Calls Try.prog 11 #[.slice A ms.length c, .slice B ps.length d] w fun r w' => ∃ b, r = .returned (.bool b) ∧ (b = true ↔ RightZ (dz ms) ps) ∧ Below w.heap.size w w' := by
  have q9 : (ms.length : Int) ≤ 1000 := by omega
  by_cases hlen : ps.length = ms.length
  · have HLen := Lib.hid hlen
    have HP := Lib.hid hp
    have HK := Lib.hid K
    have HR := Lib.hid (dRestOf_any ms A c w hr hf hl)
    have hn : ((ps.length : Int) != (ms.length : Int)) = false := by rw [bne_eq_false_iff_eq]; omega
    rw [hlen]
    have hn2 : ((ms.length : Int) != (ms.length : Int)) = false := by simp
    clear hr hf hp hlen hpl K hn
    go_enter Try.func11, Try.ntmps11
    go_wp2_with fail
    (with_reducible refine HR.out.mono ?_)
    rintro r w1 ⟨L, p1, p2, rfl, hE, hO, hb⟩
    have HE1 := Lib.hid hE
    have HO := Lib.hid hO
    have HB1 := Lib.hid hb
    clear hE hO hb HR
    go_wp2_with fail
    go_loopg [7, 17] ms.length (fun q _ iv wr => ∃ (j : Nat) (dn : Nat → Bool), j + q = ms.length ∧ iv = .int .i64 (j : Nat) ∧ RestE wr L w.heap.size A c ms dn p1 p2 ∧ (∀ x, x < (dz ms).length → (dn x = true ↔ (x : Int) ∈ ps.take j)) ∧ LaidZ (dz ms) (ps.take j) ∧ Below w.heap.size w wr)
    case atStart => exact ⟨0, fun _ => false, by omega, rfl, HE1.out, by simp, laidZ_nil _, HB1.out⟩
    case round =>
      obtain ⟨j, dn, hj, rfl, hE, hD, hL, hb⟩ := hrel
      have HJ := Lib.hid hj
      have HE := Lib.hid hE
      have HD := Lib.hid hD
      have HL := Lib.hid hL
      have HB := Lib.hid hb
      clear hj hE hD hL hb
      by_cases hjn : j < ms.length
      · have hlt : decide ((j : Int) < (ms.length : Int)) = true := by simpa using hjn
        have hlt2 : decide (j < ms.length) = true := by simpa using hjn
        have hjp : j < ps.length := by rw [HLen.out]; exact hjn
        have q7 : (j : Int) < (ms.length : Int) := by omega
        obtain ⟨b, o, rfl, _, hbl, hc⟩ := (HP.out.below HB.out (Nat.le_refl _)).at_ inZF hjp
        have c0 := hc 0 (.int .i64 ps[j]) rfl
        have HTk := Lib.hid (List.take_succ_eq_append_getElem hjp)
        have HPre := Lib.hid (fun (q : RightZ (dz ms) ps) => q.pre (take_mid hjp))
        have HFree := Lib.hid (fun (q : RightZ (dz ms) ps) (k : Nat) => q.free (k := k) (take_mid hjp))
        simp only [Nat.add_zero, Nat.mul_one] at c0
        clear hc hbl
        generalize ps[j] = p at *
        clear hjp
        by_cases hp0 : p < 0
        · have d1 : decide (p < 0) = true := by simpa using hp0
          have HNo := Lib.hid (show ¬ RightZ (dz ms) ps from fun q => by have := (HPre.out q).1; omega)
          clear hp0 hjn
          go_wp2_with fail
          go_ret
          exact ⟨false, rfl, by simp [HNo.out], HB.out⟩
        · have d1 : decide (p < 0) = false := by simpa using (by omega : 0 ≤ p)
          by_cases hpn : (ms.length : Int) ≤ p
          · have d2 : decide (p ≥ (ms.length : Int)) = true := by simpa using hpn
            have d3 : decide ((ms.length : Int) ≤ p) = true := by simpa using hpn
            have HNo := Lib.hid (show ¬ RightZ (dz ms) ps from fun q => by have := (HPre.out q).2.1; rw [dz_len] at this; omega)
            clear hp0 hpn hjn
            go_wp2_with fail
            go_ret
            exact ⟨false, rfl, by simp [HNo.out], HB.out⟩
          · have d2 : decide (p ≥ (ms.length : Int)) = false := by simpa using (by omega : p < (ms.length : Int))
            have d3 : decide ((ms.length : Int) ≤ p) = false := by simpa using (by omega : p < (ms.length : Int))
            obtain ⟨k, rfl⟩ : ∃ k : Nat, p = (k : Int) := ⟨p.toNat, by omega⟩
            have hkn : k < ms.length := by omega
            have HT := Lib.hid (toldE_any HE.out hkn)
            have HDk := Lib.hid (HD.out k (by rw [dz_len]; exact hkn))
            have HKn := Lib.hid hkn
            obtain ⟨_, n1, n2, ah, hM⟩ := HE.out
            obtain ⟨rc0, rc1, rc2, rc3, rc4, rc5, rc6, rc7⟩ := hM.rcells
            clear hM hp0 hpn hkn hjn
            cases hdk : dn k with
            | true =>
              rw [hdk] at HT HDk
              have HNo := Lib.hid (show ¬ RightZ (dz ms) ps from fun q => (HPre.out q).2.2.1 (HDk.out.1 rfl))
              clear hdk
              go_wp2_with fail
              (with_reducible refine HT.out.mono ?_)
              rintro r w5 ⟨rfl, _, hm⟩
              have HB5 := Lib.hid (HB.out.trans ((mvO.below HO.out hm HB.out.size).mono (Nat.le_refl _)))
              clear hm
              go_wp2_with fail
              go_ret
              exact ⟨false, rfl, by simp [HNo.out], HB5.out⟩
            | false =>
              rw [hdk] at HT HDk
              have HDn := Lib.hid hdk
              clear hdk
              go_wp2_with fail
              (with_reducible refine HT.out.mono ?_)
              rintro r w5 ⟨rfl, hE5, hm⟩
              have HE5 := Lib.hid hE5
              have HB5 := Lib.hid (HB.out.trans ((mvO.below HO.out hm HB.out.size).mono (Nat.le_refl _)))
              have HFr := Lib.hid (dFree_any HK.out w5 L w.heap.size A c ms dn p1 p2 hE5 k HKn.out HDn.out)
              clear hm hE5 HT
              go_wp2_with fail
              (with_reducible refine HFr.out.mono ?_)
              rintro r w6 ⟨rfl, hE6, hm6⟩
              have HE6 := Lib.hid hE6
              have HB6 := Lib.hid (HB5.out.trans ((mvO.below HO.out hm6 HB5.out.size).mono (Nat.le_refl _)))
              clear hm6 HFr rc0 rc1 rc2 rc3 rc4 rc5 rc6 rc7
              cases hfr : freeD (dz ms) dn k with
              | false =>
                have HNo := Lib.hid (show ¬ RightZ (dz ms) ps from fun q => by
                  obtain ⟨x, h1, h2, h3, h4⟩ := freeD_yes hfr
                  have := HFree.out q x h1 (by omega) (fun e => by have := (HD.out x h1).2 e; rw [h3] at this; cases this)
                  rw [Int.toNat_natCast, h4] at this
                  cases this)
                clear hfr hE6
                go_wp2_with fail
                go_ret
                exact ⟨false, rfl, by simp [HNo.out], HB6.out⟩
              | true =>
                have HLy := Lib.hid (layE_any hE6 HKn.out)
                have HNx := Lib.hid (HL.out.add (by rw [dz_len]; exact HKn.out) HD.out HDn.out hfr)
                obtain ⟨_, n1, n2, ah, hM⟩ := hE6
                obtain ⟨rc0, rc1, rc2, rc3, rc4, rc5, rc6, rc7⟩ := hM.rcells
                clear hfr hM
                go_wp2_with fail
                (with_reducible refine HLy.out.mono ?_)
                rintro r w7 ⟨rfl, hE7, hm7⟩
                have HE7 := Lib.hid hE7
                have HB7 := Lib.hid (HB6.out.trans ((mvO.below HO.out hm7 HB6.out.size).mono (Nat.le_refl _)))
                clear hE7 hm7 HLy rc0 rc1 rc2 rc3 rc4 rc5 rc6 rc7
                go_wp2_with fail
                go_roundg (gk - 1)
                case measure => have := HJ.out; omega
                case rel => exact ⟨j + 1, updB dn k, by have := HJ.out; omega, by go_num, HE7.out, fun x hx => by
                  rw [HTk.out, List.mem_append, List.mem_singleton, ← HD.out x hx]
                  unfold updB
                  rw [Bool.or_eq_true, beq_iff_eq]
                  constructor
                  · rintro (q | q)
                    · exact .inr (by omega)
                    · exact .inl q
                  · rintro (q | q)
                    · exact .inr q
                    · exact .inl (by omega), by rw [HTk.out]; exact HNx.out, HB7.out⟩
      · have hlt : decide ((j : Int) < (ms.length : Int)) = false := by simpa using hjn
        have hlt2 : decide (j < ms.length) = false := by simpa using hjn
        have HYes := Lib.hid (show RightZ (dz ms) ps from by
          have h1 : ps.take j = ps := List.take_of_length_le (by rw [HLen.out]; omega)
          have h2 := HL.out.pre
          rw [h1] at h2
          exact ⟨by rw [dz_len]; exact HLen.out, h2.1, h2.2⟩)
        clear hjn
        go_wp2_with fail
        go_ret
        exact ⟨true, rfl, by simp [HYes.out], HB.out⟩
  · have hn : ((ps.length : Int) != (ms.length : Int)) = true := by rw [bne_iff_ne]; omega
    have HNo := Lib.hid (show ¬ RightZ (dz ms) ps from fun q => hlen (by rw [q.1, dz_len]))
    clear hr hf hp hlen
    go_enter Try.func11, Try.ntmps11
    go_wp2_with fail
    go_ret
    exact ⟨false, rfl, by simp [HNo.out], Below.refl _ _⟩
end Go.Proofs.Ytfdiidhilonkoaa
