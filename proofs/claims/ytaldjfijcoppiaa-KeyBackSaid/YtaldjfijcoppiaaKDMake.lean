/-
  What package key answers: Make, Under.
-/
import Derived.Test.YtaldjfijcoppiaaKCon
namespace Go.Proofs.Ytaldjfijcoppiaa
open Go.RowKit

theorem own_byte (w : World) (e : TypeId) (b : UInt8) : (w.alloc (.cells #[.int .u8 (b.toNat : Int)] e)).ownsRow w.heap.size e 1 (.slice (some ⟨w.heap.size, 0, none⟩) 1 1) 1 (bvs [b]) :=
  ⟨rfl, .inr ⟨w.heap.size, 1, #[.int .u8 (b.toNat : Int)], rfl, Nat.le_refl _, heap_alloc_new w _, Nat.le_refl _, by decide, rfl, rfl⟩⟩

set_option maxRecDepth 100000 in
set_option maxHeartbeats 2000000 in
theorem make_any : MakeC := by
  intro kind A n c l lo hi w hn hl5 hp hr hhi _ _
  subst hn
  obtain ⟨i0, hi0, hz0, hz1, hz2⟩ := infoByte
  have I0 := Lib.hid hi0
  have I1 := Lib.hid hz0
  have I2 := Lib.hid hz1
  have I3 := Lib.hid hz2
  clear hi0 hz0 hz1 hz2
  have HR := Lib.hid hr
  have HP := Lib.hid hp
  clear hr hp
  go_enter Try.func15, Try.ntmps15
  go_wp2
  go_loopg [5, 13] l.length (fun q v i wr => ∃ j n : Nat, j + q = l.length ∧ i = .int .i64 j ∧ wr.ownsRow w.heap.size 5 1 v n (bvs (kind :: keyPre l j)) ∧ Below w.heap.size w wr)
  case atStart => exact ⟨0, 1, by omega, rfl, own_byte w _ kind, (Below.refl _ w).alloc (Nat.le_refl _) _⟩
  case round =>
    obtain ⟨j, n, hk, rfl, hown, hb⟩ := hrel
    have HK := Lib.hid hk
    have HB := Lib.hid hb
    clear hb hk
    by_cases hj : j < l.length
    · have hlt : decide ((j : Int) < (l.length : Int)) = true := by simpa using hj
      obtain ⟨b, o, rfl, d1⟩ := (HR.out.below HB.out hhi).at_ hj
      have HS := Lib.hid (keyPre_succ l j hj)
      have hz := HP.out _ (List.getElem_mem hj)
      have hkl := keyPre_len (l := l) (fun p hm => by have := HP.out p hm; omega) j
      have hpl : (kind :: keyPre l j).length ≤ 1100000000 := by
        rw [List.length_cons]
        have hj5 : j ≤ 5000 := by omega
        omega
      have HPL := Lib.hid hpl
      clear hkl hpl
      generalize hpj : l[j] = pj at d1 HS hz
      clear hpj
      have HPre : ∃ pre, pre = kind :: keyPre l j := ⟨_, rfl⟩
      obtain ⟨pre, hpre⟩ := HPre
      have HE := Lib.hid hpre
      rw [← hpre] at hown HPL
      clear hpre
      go_wp2
      go_loopg [5, 19] pj.size (fun q v i wr => ∃ (k n : Nat), k + q = pj.size ∧ i = .int .i64 k ∧ wr.ownsRow w.heap.size 5 1 v n (bvs (pre ++ encL (pj.data.toList.take k))) ∧ Below w.heap.size w wr)
      case atStart => exact ⟨0, n, by omega, rfl, by simpa [encL] using hown, HB.out⟩
      case round =>
        obtain ⟨k, n, hk, rfl, hown, hb⟩ := hrel
        have HK2 := Lib.hid hk
        have hl1 := encL_len (pj.data.toList.take k)
        have hl2 : (pj.data.toList.take k).length ≤ k := List.length_take_le _ _
        have hle : (pre ++ encL (pj.data.toList.take k)).length ≤ 1100010000 := by rw [List.length_append]; have := HPL.out; omega
        have hn : n = (pre ++ encL (pj.data.toList.take k)).length := by have := hown.1; rw [bvs_length] at this; omega
        have hnn : n ≤ 1100010000 := by omega
        have hbs := hb.size
        have HL := Lib.hid hle
        clear hk hn hl1 hl2 hle
        by_cases hj2 : k < pj.size
        · have hlt2 : decide ((k : Int) < (pj.size : Int)) = true := by simpa using hj2
          have HT := Lib.hid (take_snocB pj k hj2)
          by_cases hc : pj[k] = 0
          · have hz0 : ((pj[k].toNat : Int) == 0) = true := by rw [hc]; rfl
            have HC := Lib.hid hc
            clear hc
            go_wp2_with (first | (at_builtin; refine append_rd _ rfl _ _ 49 rfl w.heap.size 5 i0 (.int .u8 0) Try.underlying49 I0.out I1.out I2.out I3.out rfl _ _ _ rfl (hown1.alloc _) _ _ _ 1 _ [255] rfl rfl (by intro h; cases h) (Rd.one _ _ _ _ rfl) (by have := HL.out; simp only [List.length_append, List.length_cons, List.length_nil] at this ⊢; omega) (by have := hb1.size; simp; omega) ?_; intro v2 w2 hown2 hgrow2; have hb2 : Below w.heap.size w w2 := (hb1.alloc hb1.size _).grown hgrow2 (by simp; have := hb1.size; omega) (fun g hg => (hown1.lt g hg).1); clear hgrow2) | (at_builtin; refine append_rd _ rfl _ _ 49 rfl w.heap.size 5 i0 (.int .u8 0) Try.underlying49 I0.out I1.out I2.out I3.out rfl _ _ _ rfl (hown.alloc _) _ _ _ 1 _ [pj[k]] rfl rfl (by intro h; cases h) (Rd.one _ _ _ _ rfl) (by have := HL.out; simp only [List.length_append, List.length_cons, List.length_nil] at this ⊢; omega) (by simp; omega) ?_; intro v1 w1 hown1 hgrow1; have hb1 : Below w.heap.size w w1 := (hb.alloc hb.size _).grown hgrow1 (by simp; have := hb.size; omega) (fun g hg => (hown.lt g hg).1); clear hgrow1))
            go_roundg (gk - 1)
            case measure => have := HK2.out; omega
            case rel =>
              refine ⟨k + 1, n + 1 + 1, by have := HK2.out; omega, by go_num, ?_, hb2⟩
              rw [HT.out, encL_snoc, HC.out, show encB 0 = [0, 255] from rfl]
              rw [HC.out, List.append_assoc, List.append_assoc] at hown2
              exact hown2
          · have hz0 : ((pj[k].toNat : Int) == 0) = false := by
              rw [beq_eq_false_iff_ne]
              intro h
              exact hc (UInt8.toNat_inj.1 (by show pj[k].toNat = 0; omega))
            have HC := Lib.hid hc
            clear hc
            go_wp2_with ((at_builtin; refine append_rd _ rfl _ _ 49 rfl w.heap.size 5 i0 (.int .u8 0) Try.underlying49 I0.out I1.out I2.out I3.out rfl _ _ _ rfl (hown.alloc _) _ _ _ 1 _ [pj[k]] rfl rfl (by intro h; cases h) (Rd.one _ _ _ _ rfl) (by have := HL.out; simp only [List.length_append, List.length_cons, List.length_nil] at this ⊢; omega) (by simp; omega) ?_; intro v1 w1 hown1 hgrow1; have hb1 : Below w.heap.size w w1 := (hb.alloc hb.size _).grown hgrow1 (by simp; have := hb.size; omega) (fun g hg => (hown.lt g hg).1); clear hgrow1))
            go_roundg (gk - 1)
            case measure => have := HK2.out; omega
            case rel =>
              refine ⟨k + 1, n + 1, by have := HK2.out; omega, by go_num, ?_, hb1⟩
              rw [HT.out, encL_snoc, show encB pj[k] = [pj[k]] from if_neg HC.out, ← List.append_assoc]
              exact hown1
        · have hj' : k = pj.size := by have := HK2.out; omega
          have hlt2 : decide ((k : Int) < (pj.size : Int)) = false := by simpa using hj2
          subst hj'
          go_wp2_with ((at_builtin; refine append_rd _ rfl _ _ 49 rfl w.heap.size 5 i0 (.int .u8 0) Try.underlying49 I0.out I1.out I2.out I3.out rfl _ _ _ rfl (hown.alloc _) _ _ _ 2 _ [0, 1] rfl rfl (by intro h; cases h) (Rd.two _ _ 0 1) (by have := HL.out; simp only [List.length_append, List.length_cons, List.length_nil] at this ⊢; omega) (by simp; omega) ?_; intro v1 w1 hown1 hgrow1; have hb1 : Below w.heap.size w w1 := (hb.alloc hb.size _).grown hgrow1 (by simp; have := hb.size; omega) (fun g hg => (hown.lt g hg).1); clear hgrow1))
          go_roundg (l.length - (j + 1))
          case measure => have := HK.out; omega
          case rel =>
            refine ⟨j + 1, n + 2, by omega, by go_num, ?_, hb1⟩
            rw [HS.out, ← List.cons_append, ← HE.out, encP]
            rw [show pj.data.toList.take pj.size = pj.data.toList from List.take_length, List.append_assoc] at hown1
            exact hown1
    · have hj' : j = l.length := by have := HK.out; omega
      have hlt : decide ((j : Int) < (l.length : Int)) = false := by simpa using hj
      subst hj'
      obtain ⟨A9, c9, rfl⟩ := own_slice hown
      have hcv := conv_rd 49 9 5 Try.underlying49 Try.underlying5 Try.underlying9 (c := c9) (Rd.own hown).1 (Rd.own hown).2.2.2.2
      clear hown
      go_wp2_with fail
      go_ret
      refine ⟨?_, HB.out⟩
      unfold keyPre keyB
      rw [List.take_length]
      rfl

theorem keyB_len (kind : UInt8) (l : List ByteArray) (h : l.length ≤ 20) (hp : ∀ p ∈ l, p.size ≤ 100) : (keyB kind l).length ≤ 5000 := by
  have h1 : ∀ (l : List ByteArray), (∀ p ∈ l, p.size ≤ 100) → (encAll (l.map (·.data.toList))).length ≤ 202 * l.length := by
    intro l
    induction l with
    | nil => intro _; simp [encAll]
    | cons p l ih =>
      intro hp
      have h1 := ih fun q hq => hp q (List.mem_cons_of_mem _ hq)
      have h2 := hp p (List.mem_cons_self ..)
      have h3 := encP_len p.data.toList
      have h4 : p.data.toList.length = p.size := rfl
      rw [List.map_cons, encAll_cons, List.length_append, List.length_cons]
      omega
  have := h1 l hp
  unfold keyB
  rw [List.length_cons]
  omega

set_option maxHeartbeats 1000000 in
theorem under_of (HAf : AfterC) : UnderC := by
  intro kind A n c l lo hi w hn hl20 hp hr hhi hz hc
  have HL := Lib.hid (keyB_len kind l (by omega) hp)
  have HM := Lib.hid (make_any kind A n c l lo hi w hn (by omega) (fun p hm => by have := hp p hm; omega) hr hhi hz hc)
  have HA := Lib.hid HAf
  clear hn hp hr hz hc HAf
  go_enter Try.func13, Try.ntmps13
  go_wp2_with fail
  refine (HM.out).mono ?_
  rintro r w1 ⟨rfl, hb1⟩
  have HB := Lib.hid hb1
  clear hb1 HM
  go_wp2_with fail
  refine (HA.out (keyB kind l) _ HL.out).mono ?_
  rintro r w2 ⟨rfl, hb2⟩
  have HB2 := Lib.hid (HB.out.trans (hb2.mono HB.out.size))
  clear hb2 HB
  go_wp2_with fail
  go_ret2
  exact ⟨rfl, HB2.out⟩
end Go.Proofs.Ytaldjfijcoppiaa
