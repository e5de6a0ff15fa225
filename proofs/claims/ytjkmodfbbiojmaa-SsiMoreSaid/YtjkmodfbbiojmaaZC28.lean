import Derived.Test.YtjkmodfbbiojmaaZC27
import Derived.Test.YtjkmodfbbiojmaaZC11
import Derived.Lib.MinMax
/-
  Package span, as it landed: Add, Join, normal, Fit.
-/
namespace Go.Proofs.Ytjkmodfbbiojmaa
open Go.RowKit

theorem chL_two {w : World} {g : Nat} {x y : ML} {e : TypeId} (h : w.heap[g]? = some (.cells #[.slice x.A x.l.length x.c, .slice y.A y.l.length y.c] e (0, 0))) (hx : ChI w w.heap.size x.A x.c x.l) (hy : ChI w w.heap.size y.A y.c y.l) : ChL w w.heap.size (some ⟨g, 0, none⟩) [x, y] :=
  ⟨(RowG.block h (fun j u hu => by simpa [flatG, mlCells] using hu)).wide (Nat.zero_le _) (lt_of_heap h), fun z hz => by
    rw [List.mem_cons, List.mem_singleton] at hz
    rcases hz with rfl | rfl
    · exact hx
    · exact hy⟩
theorem chL_one {w : World} {g : Nat} {x : ML} {e : TypeId} (h : w.heap[g]? = some (.cells #[.slice x.A x.l.length x.c] e (0, 0))) (hx : ChI w w.heap.size x.A x.c x.l) : ChL w w.heap.size (some ⟨g, 0, none⟩) [x] :=
  ⟨(RowG.block h (fun j u hu => by simpa [flatG, mlCells] using hu)).wide (Nat.zero_le _) (lt_of_heap h), fun z hz => by
    rw [List.mem_singleton] at hz
    rcases hz with rfl
    exact hx⟩
theorem allL_two (x y : ML) : allL [x, y] = x.l ++ y.l := by simp [allL]
theorem allL_one (x : ML) : allL [x] = x.l := by simp [allL]
set_option maxRecDepth 100000 in
set_option maxHeartbeats 2000000 in
theorem dJoin_any (a b : List Sp) (A B : Option Addr) (c d : Nat) (w : World) (ha : okI a) (hb : okI b) (hca : ChI w w.heap.size A c a) (hcb : ChI w w.heap.size B d b) :
    Calls Try.prog 28 #[.slice A a.length c, .slice B b.length d] w (RetI (joinSp (a ++ b)) w) := by
  have hb1 : Below w.heap.size w (w.alloc (.cells #[.slice A a.length c, .slice B b.length d] 27)) := (Below.refl _ w).alloc (Nat.le_refl _) _
  have hx1 := heap_alloc_new w (.cells #[.slice A a.length c, .slice B b.length d] 27)
  have hu := dUnited_any [⟨A, c, a⟩, ⟨B, d, b⟩] (some ⟨w.heap.size, 0, none⟩) 2 _ (by simp) (by rw [allL_two, List.length_append]; unfold okI at ha hb; simp only; omega) (chL_two hx1 (hca.below hb1 (Nat.le_refl _) hb1.size) (hcb.below hb1 (Nat.le_refl _) hb1.size))
  rw [allL_two] at hu
  have HU := Lib.hid hu
  have HB1 := Lib.hid hb1
  clear hb1 hx1 hu hca hcb
  go_enter Try.func28, Try.ntmps28
  go_wp2_with fail
  refine HU.out.mono ?_
  rintro r w2 ⟨v, rfl, ho, hb2⟩
  obtain ⟨A9, c9, rfl, hc9⟩ := ho.chI
  have HC9 := Lib.hid hc9
  have HB2 := Lib.hid (HB1.out.trans (hb2.mono HB1.out.size))
  clear ho hc9 hb2
  go_wp2_with fail
  go_ret
  exact ⟨A9, c9, rfl, HC9.out, HB2.out⟩
set_option maxRecDepth 100000 in
set_option maxHeartbeats 2000000 in
theorem dUnite_one (a : List Sp) (A : Option Addr) (c : Nat) (w : World) (ha : okI a) (hca : ChI w w.heap.size A c a) :
    Calls Try.prog 46 #[.slice (some ⟨w.heap.size, 0, none⟩) 1 1] (w.alloc (.cells #[.slice A a.length c] 27)) fun e w' => ∃ v, e = .returned v ∧ OwnG 58 2 spCells w' (w.heap.size + 1) v (joinSp a) ∧ Below w.heap.size w w' := by
  have hb1 : Below w.heap.size w (w.alloc (.cells #[.slice A a.length c] 27)) := (Below.refl _ w).alloc (Nat.le_refl _) _
  have hx1 := heap_alloc_new w (.cells #[.slice A a.length c] 27)
  have hu := dUnited_any [⟨A, c, a⟩] (some ⟨w.heap.size, 0, none⟩) 1 _ (by simp) (by rw [allL_one]; unfold okI at ha; simp only; omega) (chL_one hx1 (hca.below hb1 (Nat.le_refl _) hb1.size))
  rw [allL_one] at hu
  exact hu.mono fun _ _ ⟨v, e, ho, hb⟩ => ⟨v, e, by rw [show w.heap.size + 1 = (w.alloc (.cells #[.slice A a.length c] 27)).heap.size by simp]; exact ho, hb1.trans (hb.mono hb1.size)⟩
set_option maxRecDepth 100000 in
set_option maxHeartbeats 2000000 in
theorem dNormalOf_any (a : List Sp) (A : Option Addr) (c : Nat) (w : World) (ha : okI a) (hca : ChI w w.heap.size A c a) :
    Calls Try.prog 57 #[.slice A a.length c] w (RetI (joinSp a) w) := by
  have HN := Lib.hid (dNormal_any a A c w (by unfold okI at ha; omega) hca.2.2.2)
  have HC := Lib.hid hca
  cases hq : normB a with
  | true =>
    rw [hq] at HN
    have HE := Lib.hid (show joinSp a = a from (join_eq (normB_iff.1 hq) fun _ => rfl).symm)
    clear hca hq
    go_enter Try.func57, Try.ntmps57
    go_wp2_with fail
    refine HN.out.mono ?_
    rintro r w1 ⟨rfl, hb1⟩
    have HB1 := Lib.hid hb1
    clear hb1
    go_wp2_with fail
    go_ret
    exact ⟨A, c, by rw [HE.out]; rfl, by rw [HE.out]; exact HC.out.below HB1.out (Nat.le_refl _) HB1.out.size, HB1.out⟩
  | false =>
    rw [hq] at HN
    clear hca hq
    go_enter Try.func57, Try.ntmps57
    go_wp2_with fail
    refine HN.out.mono ?_
    rintro r w1 ⟨rfl, hb1⟩
    have HU := Lib.hid (dUnite_one a A c w1 ha (HC.out.below hb1 (Nat.le_refl _) hb1.size))
    have HB1 := Lib.hid hb1
    clear hb1
    go_wp2_with fail
    refine HU.out.mono ?_
    rintro r w2 ⟨v, rfl, ho, hb2⟩
    obtain ⟨A9, c9, rfl, hc9⟩ := ho.chI
    have HC9 := Lib.hid hc9
    have HB2 := Lib.hid (HB1.out.trans (hb2.mono HB1.out.size))
    clear ho hc9 hb2
    go_wp2_with fail
    go_ret
    exact ⟨A9, c9, rfl, HC9.out, HB2.out⟩
set_option maxRecDepth 100000 in
set_option maxHeartbeats 4000000 in
theorem dFit_any (a : List Sp) (A : Option Addr) (c : Nat) (n : Int) (w : World) (ha : okI a) (hn1 : -9223372036854775808 ≤ n) (hn2 : n ≤ 9223372036854775807) (hca : ChI w w.heap.size A c a) :
    Calls Try.prog 27 #[.slice A a.length c, .int .i64 n] w (RetI (fitI n (joinSp a)) w) := by
  have HU := Lib.hid (dUnite_one a A c w ha hca)
  have HMx := fitN_cast n
  have hjl : (joinSp a).length ≤ 1000 := Nat.le_trans (join_len a) ha
  have hN2 : fitN n ≤ 9223372036854775807 := by unfold fitN; omega
  have hN1 := fitN_pos n
  clear hca hn1 hn2
  generalize joinSp a = J at *
  go_enter Try.func27, Try.ntmps27
  go_wp2_with fail
  refine HU.out.mono ?_
  rintro r w1 ⟨v, rfl, ho, hb1⟩
  have HB1 := Lib.hid hb1
  clear hb1 HU
  by_cases hle : J.length ≤ fitN n
  · obtain ⟨A9, c9, rfl, hc9⟩ := ho.chI
    have HC9 := Lib.hid hc9
    have HE := Lib.hid (fitI_few hle)
    have d1 : decide ((J.length : Int) - (fitN n : Int) ≤ 0) = true := by rw [decide_eq_true_iff]; omega
    have d2 : (J.length : Int) - (fitN n : Int) ≤ 0 := by omega
    clear ho hc9
    go_wp2_with fail
    go_ret
    exact ⟨A9, c9, by rw [HE.out]; rfl, by rw [HE.out]; exact HC9.out, HB1.out⟩
  · rcases ho.blk with ⟨rfl, h0⟩ | ⟨b, cap, rfl, hbl⟩
    · rw [h0] at hle
      exact absurd (Nat.zero_le _) hle
    · obtain ⟨m, hm⟩ : ∃ m, J.length = fitN n + m := ⟨J.length - fitN n, by omega⟩
      have hm0 : 0 < m := by omega
      have hmJ : m < J.length := by omega
      have h0J : 0 < J.length := by omega
      have e1 : (J.length : Int) - (fitN n : Int) = (m : Int) := by omega
      have d1 : decide ((m : Int) ≤ 0) = false := by rw [decide_eq_false_iff_not]; omega
      have d2 : ¬ ((m : Int) ≤ 0) := by omega
      have i1 : (0 : Int) < (J.length : Int) := by omega
      have i2 : (m : Int) < (J.length : Int) := by omega
      obtain ⟨b0, b1⟩ := hbl.at_ h0J
      obtain ⟨c0, c1⟩ := hbl.at_ hmJ
      rw [Nat.zero_mul] at b0 b1
      have f0 := hbl.frozen (m * 2)
      have hst := hbl.store_lo m (J[0]'h0J).lo hmJ
      have hfd : fitI n J = ⟨(J[0]'h0J).lo, (J[m]'hmJ).hi⟩ :: J.drop (m + 1) := fit_drop (fitN n) m J (by omega) (by omega)
      have hJd : (J.set m ⟨(J[0]'h0J).lo, (J[m]'hmJ).hi⟩).take 0 ++ (J.set m ⟨(J[0]'h0J).lo, (J[m]'hmJ).hi⟩).drop m = fitI n J := by
        rw [hfd, List.take_zero, List.nil_append, List.drop_eq_getElem_cons (by rw [List.length_set]; exact hmJ), List.getElem_set_self, List.drop_set_of_lt (by omega)]
      have hsl : (J.set m ⟨(J[0]'h0J).lo, (J[m]'hmJ).hi⟩).length = J.length := by rw [List.length_set]
      generalize J.set m ⟨(J[0]'h0J).lo, (J[m]'hmJ).hi⟩ = J2 at *
      generalize (J[0]'h0J).lo = x0 at *
      generalize J[m]'hmJ = y0 at *
      generalize J[0]'h0J = z0 at *
      obtain ⟨w2, hw2⟩ : ∃ y, w1.setCell ⟨b, m * 2, none⟩ (.string (bs x0)) = y := ⟨_, rfl⟩
      have hdel := dDelete_any J2 0 m (w.heap.size + 1) b cap w2 (Nat.zero_le _) (by omega) (by omega) (by rw [← hw2]; exact hst) (by rw [← hw2]; have := HB1.out.size; have := hbl.lt; simp [World.setCell]; omega)
      rw [hsl, hJd] at hdel
      have HDel := Lib.hid hdel
      have HB2 := Lib.hid (show Below w.heap.size w w2 by rw [← hw2]; exact HB1.out.setCell (show w.heap.size ≤ b by have := hbl.lt.1; omega) _)
      have HW2 := Lib.hid hw2
      clear ho hbl hst hdel hw2 hfd hJd hm hle h0J
      go_upto_region 6 with fail
      rw [HW2.out]
      clear HW2
      go_wp2_with fail
      refine HDel.out.mono ?_
      rintro r w3 ⟨rfl, hb3, hw3⟩
      obtain ⟨A9, c9, e9, hc9⟩ := hb3.own.chI
      have HC9 := Lib.hid hc9
      have HB3 := Lib.hid (HB2.out.trans (hw3.mono (by omega)))
      have HE9 := Lib.hid e9
      clear hb3 hw3 hc9 e9
      go_wp2_with fail
      go_ret
      exact ⟨A9, c9, congrArg Ending.returned HE9.out, HC9.out, HB3.out⟩
end Go.Proofs.Ytjkmodfbbiojmaa
