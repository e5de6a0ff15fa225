import Derived.Test.YtdpbllacfljmoaaGreatZF09
import Derived.Test.YtdpbllacfljmoaaGreatZF04
import Derived.IntWalk
set_option maxRecDepth 100000
set_option maxHeartbeats 16000000
set_option linter.unusedVariables false
namespace Go.Proofs.YtdpbllacfljmoaaGreat
open Go.RowKit
def qgv (St : q2w) (o : Nat) (w : World) (p : Nat) (F : Nat → Prop) (L : LimT) (b : q08) (op : OpT) (r : Ending) (w' : World) : Prop :=
 ∃ (A B : Option Addr) (c d : Nat) (F' : Nat → Prop), r = .returned (q1d (q1g (FT L) L b op).2 A c B d) ∧ q6P w' (ResT F' o w) (q1g (FT L) L b op).2 A c B d ∧ q2b St o w p F L (q1g (FT L) L b op).1 w' F'
theorem q2l {St : q2w} (K : TxnC St) {o : Nat} {w w1 w2 w3 : World} {p c d : Nat} {F F' : Nat → Prop} {L : LimT} {b : q08} {op : OpT} {A B : Option Addr} {r : Ending}
  (ho : o ≤ w.heap.size) (hb : Below w.heap.size w w1) (hs : w1.heap.size = w.heap.size + 2) (hF : ∀ k, F k → k < w.heap.size) (hst : St o w2 p F' L (q1g (FT L) L b op).1) (hm : Mut F w1 w2) (hF' : ∀ k, F' k → F k ∨ w1.heap.size ≤ k)
  (ht : q6P w2 (ResT F' o w1) (q1g (FT L) L b op).2 A c B d) (h3 : Mut (fun k => k = w.heap.size + 1) w2 w3) (hr : r = .returned (q1d (q1g (FT L) L b op).2 A c B d)) :
  qgv St o w p F L b op r w3 := by
 have hfar : ∀ k, F' k → k ≠ w.heap.size + 1 := fun k hk => by
  rcases hF' k hk with h | h
  ·have := hF k h; omega
  ·omega
 refine ⟨A, B, c, d, F', hr, ht.keep (fun g hg hg2 => ?_), K.keep hst (fun k hk hlt => ?_) h3.size, ?_, fun k hk => ?_⟩
 ·rcases hg with h | h | h
  ·exact ⟨h3.block g hg2 (hfar g h), .inl h⟩
  ·exact ⟨h3.block g hg2 (by omega), .inr (.inl h)⟩
  ·exact ⟨h3.block g hg2 (by omega), .inr (.inr (by omega))⟩
 ·rcases hk with h | h
  ·exact h3.block k hlt (hfar k h)
  ·exact h3.block k hlt (by omega)
 ·exact ((Below.mut hb F).trans (hm.wide (fun k hk => hk)) (fun k hk => .inl hk)).trans h3 (fun k hk => .inr (by omega))
 ·rcases hF' k hk with h | h
  ·exact .inl h
  ·exact .inr (by omega)
theorem qeH {L : LimT} {b : q08} (h : q0L b) : (q0N L b).2.n ≤ 991 := by
 have h1 := h.1
 unfold WgtT at h1
 unfold q0N
 split
 ·exact Nat.zero_le _
 ·show b.last + 1 ≤ 991
  omega
theorem qcX {St : q2w} (K : TxnC St) (o : Nat) (op : OpT) (A : Option Addr) (c p : Nat) (F : Nat → Prop) (L : LimT) (b : q08) (w : World) (hst : St o w p F L b) (hsm : q0L b) (hw : q2q op.w) (hhi : op.hi.length ≤ 300)
  (harg : OkOT w o ⟨op, A, c⟩) (ho : o ≤ w.heap.size) :
  Calls Tryz.prog 18 #[ptrS p, qfh op A c] w (qgv St o w p F L b op) := by
 obtain ⟨what, id, ⟨key, gone, dat⟩, hi⟩ := op
 obtain ⟨hwh, hid, _, _, hdat⟩ := harg
 simp only at hwh hid hdat hw hhi
 obtain ⟨w0, hw0⟩ : ∃ y, w.alloc (.cells #[.int .i64 what, .int .i64 id, .string (bs key), .bool gone, .slice A dat.length c, .string (bs hi)] 39) = y := ⟨_, rfl⟩
 obtain ⟨w1, hw1⟩ : ∃ y, w0.alloc (.cells #[.int .u64 0, .int .i64 0, .slice none 0 0, .bool false, .slice none 0 0] 43) = y := ⟨_, rfl⟩
 have s0 : w0.heap.size = w.heap.size + 1 := by rw [← hw0]; simp
 have s1 : w1.heap.size = w.heap.size + 2 := by rw [← hw1]; simp [s0]
 have b0 : Below w.heap.size w w0 := by rw [← hw0]; exact (Below.refl _ w).alloc (Nat.le_refl _) _
 have b1 : Below w.heap.size w w1 := b0.trans (by rw [← hw1]; exact (Below.refl _ w0).alloc (by omega) _)
 have h0 : w1.heap[w.heap.size]? = some (.cells #[.int .i64 what, .int .i64 id, .string (bs key), .bool gone, .slice A dat.length c, .string (bs hi)] 39 (0, 0)) := by
  rw [← hw1]; exact q0G (by rw [← hw0]; exact heap_alloc_new w _) _
 have h1 : w1.heap[w.heap.size + 1]? = some (.cells #[.int .u64 0, .int .i64 0, .slice none 0 0, .bool false, .slice none 0 0] 43 (0, 0)) := by
  rw [← hw1, ← s0]; exact heap_alloc_new w0 _
 have hupF := K.upto hst
 have hst1 : St o w1 p F L b := K.keep hst (fun k _ hk => b1.block k hk) b1.size
 have hdat1 : ByS w1 (fun k => k < o ∨ (o ≤ k ∧ ¬ F k)) A c dat := ⟨hdat.1, hdat.2.1, hdat.2.2.1, RdS.of_rd ((hdat.keep (fun g _ hg => b1.block g (by omega))).2.2.2) fun g _ hg => .inl hg⟩
 have HBe := qh (K.begin_ o p F L b w1 hst1 hsm)
 have HRd := qh (K.read o p F L b id key w1 hst1 hsm hid hw.1)
 have HSc := qh (K.scan o p F L b id key hi w1 hst1 hsm hid hw.1 hhi)
 have HWr := qh (K.write o p F L b id ⟨key, gone, dat⟩ A c w1 hst1 hsm hid hw hdat1)
 have HCm := qh (K.commit o p F L b id w1 hst1 hsm hid)
 have HAb := qh (K.abort o p F L b id w1 hst1 hsm hid)
 have HCo := qh (K.collect o p F L b w1 hst1 hsm)
 have HLo := qh (fun (k : Nat) (s : Nat × Nat) => And.intro (hdat.1) (And.intro hdat1 trivial))
 have HS1 := qh s1
 have HB1 := qh b1
 have H1 := qh h1
 have HUp := qh hupF
 have HSt := qh hst1
 have HOw := qh ho
 have HW0 := qh hw0
 have HW1 := qh hw1
 have HDa := qh hdat
 have HBg := qh (qeH (L := L) hsm)
 have HOkay := qh (K.okay hst1)
 obtain ⟨c0, c1, c2, c3, c4, c5⟩ := q0O h0
 have HD : Hid (q1g (FT L) L b ⟨what, id, ⟨key, gone, dat⟩, hi⟩ = if what = 0 then q0N L b else if what = 1 then q16 (FT L) b id key else if what = 2 then q1P (FT L) b id key hi else if what = 3 then q0J b id ⟨key, gone, dat⟩ else if what = 4 then q0r (FT L) L b id else if what = 5 then q1X (FT L) L b id else if what = 6 then q15 b else (b, qgU)) := qh rfl
 clear hst hw hhi ho hw0 hw1 s0 s1 b0 b1 h0 h1 hupF hst1 hdat hdat1 hsm HLo
 unfold qfh ptrS
 simp only
 by_cases k0 : what = 0
 ·rw [if_pos k0] at HD
  subst k0
  obtain ⟨Xb, Xt, hX⟩ : ∃ u v, q0N L b = (u, v) := ⟨_, _, rfl⟩
  have hsh : Xt = ⟨Xt.n, Xt.e, [], false, []⟩ := by
   have h : (q0N L b).2 = Xt := by rw [hX]
   rw [← h]
   unfold q0N
   split <;> rfl
  have hn9 := HBg.out
  rw [hX] at hn9
  simp only at hn9
  obtain ⟨Xn, Xe, Xd, Xi, Xs⟩ := Xt
  obtain ⟨-, -, rfl, rfl, rfl⟩ : Xn = Xn ∧ Xe = Xe ∧ Xd = [] ∧ Xi = false ∧ Xs = [] := by
   injection hsh with _ _ h1 h2 h3
   exact ⟨rfl, rfl, h1, h2, h3⟩
  simp only at hn9
  clear hsh
  have hcv : IntKind.u64.wrap (Xn : Int) = (Xn : Int) := IntWalk.u64_in _ ⟨by omega, by omega⟩
  rw [hX] at HD HBe
  clear hX
  (try simp only at HBe)
  go_enter Tryz.func18, Tryz.ntmps18
  go_upto_region 1 with fail
  rw [HW0.out, HW1.out]
  clear HW0 HW1
  go_wp2_with fail
  refine HBe.out.mono ?_
  rintro r w2 ⟨rfl, F', hT⟩
  obtain ⟨hst2, hm2, hf2⟩ := hT
  have hx : w2.heap[w.heap.size + 1]? = _ := (hm2.block _ (by have := HS1.out; omega) (fun hk => by have := (HUp.out _ hk).2; omega)).trans H1.out
  have HQ := qh (And.intro hst2 (And.intro hm2 hf2))
  clear hst2 hm2 hf2
  have f0 := q02 hx 0
  have f1 := q02 hx 1
  have f2 := q02 hx 2
  have f3 := q02 hx 3
  have f4 := q02 hx 4
  have z0 := cell_of_row w2 _ 0 _ _ _ hx
  have z1 := cell_of_row w2 _ 1 _ _ _ hx
  have z2 := cell_of_row w2 _ 2 _ _ _ hx
  have z3 := cell_of_row w2 _ 3 _ _ _ hx
  have z4 := cell_of_row w2 _ 4 _ _ _ hx
  have HX := qh hx
  clear hx
  clear c0 c1 c2 c3 c4 c5 HBe HRd HSc HWr HCm HAb HCo
  go_wp2_with fail
  have HZ := qh (q2Q HX.out (.int .u64 Xn) (.int .i64 Xe) (.slice none 0 0) (.bool false) (.slice none 0 0))
  have t0 := cell_of_row _ _ 0 _ _ _ HZ.out
  have t1 := cell_of_row _ _ 1 _ _ _ HZ.out
  have t2 := cell_of_row _ _ 2 _ _ _ HZ.out
  have t3 := cell_of_row _ _ 3 _ _ _ HZ.out
  have t4 := cell_of_row _ _ 4 _ _ _ HZ.out
  refine bodyPost_ret (v := q1d ⟨Xn, Xe, [], false, []⟩ none 0 none 0) (by simp [results, Tryz.results18, go_sem, t0, t1, t2, t3, t4]; rfl) rfl ?_
  exact q2l K HOw.out HB1.out HS1.out (fun k hk => (HUp.out k hk).2) (by rw [HD.out]; exact HQ.out.1) HQ.out.2.1 HQ.out.2.2 (A := none) (B := none) (c := 0) (d := 0) (by rw [HD.out]; exact ⟨ByS.none_ _ _, PaS.none_ _ _⟩) (q2j _ _ _ _ _ _ _) (by rw [HD.out])
 ·rw [if_neg k0] at HD
  have n0 : (what == 0) = false := by rw [beq_eq_false_iff_ne]; exact k0
  by_cases k1 : what = 1
  ·rw [if_pos k1] at HD
   subst k1
   obtain ⟨Xb, Xt, hX⟩ : ∃ u v, q16 (FT L) b id key = (u, v) := ⟨_, _, rfl⟩
   have hsh : Xt = ⟨0, Xt.e, Xt.b, Xt.is, []⟩ := by
    have h : (q16 (FT L) b id key).2 = Xt := by rw [hX]
    rw [← h]
    unfold q16
    cases ofT b id with
    | none => rfl
    | some u =>
     simp only
     cases u.ws.find? fun w => w.key == key <;> rfl
   obtain ⟨Xn, Xe, Xd, Xi, Xs⟩ := Xt
   obtain ⟨rfl, rfl⟩ : Xn = 0 ∧ Xs = [] := by
    injection hsh with h0 _ _ _ h3
    exact ⟨h0, h3⟩
   clear hsh
   rw [hX] at HD HRd
   clear hX
   (try simp only at HRd)
   go_enter Tryz.func18, Tryz.ntmps18
   go_upto_region 1 with fail
   rw [HW0.out, HW1.out]
   clear HW0 HW1
   go_wp2_with fail
   refine HRd.out.mono ?_
   rintro r w2 ⟨A9, c9, F', rfl, hs9, hT⟩
   have HS9 := qh hs9
   clear hs9
   obtain ⟨hst2, hm2, hf2⟩ := hT
   have hx : w2.heap[w.heap.size + 1]? = _ := (hm2.block _ (by have := HS1.out; omega) (fun hk => by have := (HUp.out _ hk).2; omega)).trans H1.out
   have HQ := qh (And.intro hst2 (And.intro hm2 hf2))
   clear hst2 hm2 hf2
   have f0 := q02 hx 0
   have f1 := q02 hx 1
   have f2 := q02 hx 2
   have f3 := q02 hx 3
   have f4 := q02 hx 4
   have z0 := cell_of_row w2 _ 0 _ _ _ hx
   have z1 := cell_of_row w2 _ 1 _ _ _ hx
   have z2 := cell_of_row w2 _ 2 _ _ _ hx
   have z3 := cell_of_row w2 _ 3 _ _ _ hx
   have z4 := cell_of_row w2 _ 4 _ _ _ hx
   have HX := qh hx
   clear hx
   clear c0 c1 c2 c3 c4 c5 HBe HRd HSc HWr HCm HAb HCo
   go_wp2_with fail
   have HZ := qh (q2Q HX.out (.int .u64 0) (.int .i64 Xe) (.slice A9 Xd.length c9) (.bool Xi) (.slice none 0 0))
   have t0 := cell_of_row _ _ 0 _ _ _ HZ.out
   have t1 := cell_of_row _ _ 1 _ _ _ HZ.out
   have t2 := cell_of_row _ _ 2 _ _ _ HZ.out
   have t3 := cell_of_row _ _ 3 _ _ _ HZ.out
   have t4 := cell_of_row _ _ 4 _ _ _ HZ.out
   refine bodyPost_ret (v := q1d ⟨0, Xe, Xd, Xi, []⟩ A9 c9 none 0) (by simp [results, Tryz.results18, go_sem, t0, t1, t2, t3, t4]; rfl) rfl ?_
   exact q2l K HOw.out HB1.out HS1.out (fun k hk => (HUp.out k hk).2) (by rw [HD.out]; exact HQ.out.1) HQ.out.2.1 HQ.out.2.2 (A := A9) (B := none) (c := c9) (d := 0) (by rw [HD.out]; exact ⟨HS9.out, PaS.none_ _ _⟩) (q2j _ _ _ _ _ _ _) (by rw [HD.out])
  ·rw [if_neg k1] at HD
   have n1 : (what == 1) = false := by rw [beq_eq_false_iff_ne]; exact k1
   by_cases k2 : what = 2
   ·rw [if_pos k2] at HD
    subst k2
    obtain ⟨Xb, Xt, hX⟩ : ∃ u v, q1P (FT L) b id key hi = (u, v) := ⟨_, _, rfl⟩
    have hsh : Xt = ⟨0, Xt.e, [], false, Xt.scan⟩ := by
     have h : (q1P (FT L) b id key hi).2 = Xt := by rw [hX]
     rw [← h]
     unfold q1P
     cases ofT b id with
     | none => rfl
     | some u =>
      simp only
      split <;> rfl
    obtain ⟨Xn, Xe, Xd, Xi, Xs⟩ := Xt
    obtain ⟨rfl, rfl, rfl⟩ : Xn = 0 ∧ Xd = [] ∧ Xi = false := by
     injection hsh with h0 _ h1 h2 _
     exact ⟨h0, h1, h2⟩
    clear hsh
    rw [hX] at HD HSc
    clear hX
    (try simp only at HSc)
    go_enter Tryz.func18, Tryz.ntmps18
    go_upto_region 1 with fail
    rw [HW0.out, HW1.out]
    clear HW0 HW1
    go_wp2_with fail
    refine HSc.out.mono ?_
    rintro r w2 ⟨A9, c9, F', rfl, hs9, hT⟩
    have HS9 := qh hs9
    clear hs9
    obtain ⟨hst2, hm2, hf2⟩ := hT
    have hx : w2.heap[w.heap.size + 1]? = _ := (hm2.block _ (by have := HS1.out; omega) (fun hk => by have := (HUp.out _ hk).2; omega)).trans H1.out
    have HQ := qh (And.intro hst2 (And.intro hm2 hf2))
    clear hst2 hm2 hf2
    have f0 := q02 hx 0
    have f1 := q02 hx 1
    have f2 := q02 hx 2
    have f3 := q02 hx 3
    have f4 := q02 hx 4
    have z0 := cell_of_row w2 _ 0 _ _ _ hx
    have z1 := cell_of_row w2 _ 1 _ _ _ hx
    have z2 := cell_of_row w2 _ 2 _ _ _ hx
    have z3 := cell_of_row w2 _ 3 _ _ _ hx
    have z4 := cell_of_row w2 _ 4 _ _ _ hx
    have HX := qh hx
    clear hx
    clear c0 c1 c2 c3 c4 c5 HBe HRd HSc HWr HCm HAb HCo
    go_wp2_with fail
    have HZ := qh (q2Q HX.out (.int .u64 0) (.int .i64 Xe) (.slice none 0 0) (.bool false) (.slice A9 Xs.length c9))
    have t0 := cell_of_row _ _ 0 _ _ _ HZ.out
    have t1 := cell_of_row _ _ 1 _ _ _ HZ.out
    have t2 := cell_of_row _ _ 2 _ _ _ HZ.out
    have t3 := cell_of_row _ _ 3 _ _ _ HZ.out
    have t4 := cell_of_row _ _ 4 _ _ _ HZ.out
    refine bodyPost_ret (v := q1d ⟨0, Xe, [], false, Xs⟩ none 0 A9 c9) (by simp [results, Tryz.results18, go_sem, t0, t1, t2, t3, t4]; rfl) rfl ?_
    exact q2l K HOw.out HB1.out HS1.out (fun k hk => (HUp.out k hk).2) (by rw [HD.out]; exact HQ.out.1) HQ.out.2.1 HQ.out.2.2 (A := none) (B := A9) (c := 0) (d := c9) (by rw [HD.out]; exact ⟨ByS.none_ _ _, HS9.out⟩) (q2j _ _ _ _ _ _ _) (by rw [HD.out])
   ·rw [if_neg k2] at HD
    have n2 : (what == 2) = false := by rw [beq_eq_false_iff_ne]; exact k2
    by_cases k3 : what = 3
    ·rw [if_pos k3] at HD
     subst k3
     obtain ⟨Xb, Xt, hX⟩ : ∃ u v, q0J b id ⟨key, gone, dat⟩ = (u, v) := ⟨_, _, rfl⟩
     have hsh : Xt = errT Xt.e := by
      have h : (q0J b id ⟨key, gone, dat⟩).2 = Xt := by rw [hX]
      rw [← h]
      unfold q0J
      cases ofT b id with
      | none => rfl
      | some u =>
       simp only
       split <;> rfl
     obtain ⟨Xn, Xe, Xd, Xi, Xs⟩ := Xt
     obtain ⟨rfl, rfl, rfl, rfl⟩ : Xn = 0 ∧ Xd = [] ∧ Xi = false ∧ Xs = [] := by
      unfold errT at hsh
      injection hsh with h0 _ h1 h2 h3
      exact ⟨h0, h1, h2, h3⟩
     clear hsh
     rw [hX] at HD HWr
     clear hX
     (try simp only at HWr)
     go_enter Tryz.func18, Tryz.ntmps18
     go_upto_region 1 with fail
     rw [HW0.out, HW1.out]
     clear HW0 HW1
     go_wp2_with fail
     refine HWr.out.mono ?_
     rintro r w2 ⟨rfl, F', hst9, hm9, hf9⟩
     have hT : q2b St o w1 p F L Xb w2 F' := ⟨hst9, hm9, fun k hk => by
      rcases hf9 k hk with h | h | ⟨h0, d, s, e⟩
      ·exact .inl h
      ·exact .inr h
      ·exfalso
       have h1 := (K.upto hst9 k hk).1
       obtain ⟨b9, o9, e9, _, hlt, _⟩ := HDa.out.2.2.2 h0
       rw [e] at e9
       injection e9 with e9
       injection e9 with e9
       omega⟩
     clear hst9 hm9 hf9
     obtain ⟨hst2, hm2, hf2⟩ := hT
     have hx : w2.heap[w.heap.size + 1]? = _ := (hm2.block _ (by have := HS1.out; omega) (fun hk => by have := (HUp.out _ hk).2; omega)).trans H1.out
     have HQ := qh (And.intro hst2 (And.intro hm2 hf2))
     clear hst2 hm2 hf2
     have f0 := q02 hx 0
     have f1 := q02 hx 1
     have f2 := q02 hx 2
     have f3 := q02 hx 3
     have f4 := q02 hx 4
     have z0 := cell_of_row w2 _ 0 _ _ _ hx
     have z1 := cell_of_row w2 _ 1 _ _ _ hx
     have z2 := cell_of_row w2 _ 2 _ _ _ hx
     have z3 := cell_of_row w2 _ 3 _ _ _ hx
     have z4 := cell_of_row w2 _ 4 _ _ _ hx
     have HX := qh hx
     clear hx
     clear c0 c1 c2 c3 c4 c5 HBe HRd HSc HWr HCm HAb HCo
     go_wp2_with fail
     have HZ := qh (q2Q HX.out (.int .u64 0) (.int .i64 Xe) (.slice none 0 0) (.bool false) (.slice none 0 0))
     have t0 := cell_of_row _ _ 0 _ _ _ HZ.out
     have t1 := cell_of_row _ _ 1 _ _ _ HZ.out
     have t2 := cell_of_row _ _ 2 _ _ _ HZ.out
     have t3 := cell_of_row _ _ 3 _ _ _ HZ.out
     have t4 := cell_of_row _ _ 4 _ _ _ HZ.out
     refine bodyPost_ret (v := q1d ⟨0, Xe, [], false, []⟩ none 0 none 0) (by simp [results, Tryz.results18, go_sem, t0, t1, t2, t3, t4]; rfl) rfl ?_
     exact q2l K HOw.out HB1.out HS1.out (fun k hk => (HUp.out k hk).2) (by rw [HD.out]; exact HQ.out.1) HQ.out.2.1 HQ.out.2.2 (A := none) (B := none) (c := 0) (d := 0) (by rw [HD.out]; exact ⟨ByS.none_ _ _, PaS.none_ _ _⟩) (q2j _ _ _ _ _ _ _) (by rw [HD.out])
    ·rw [if_neg k3] at HD
     have n3 : (what == 3) = false := by rw [beq_eq_false_iff_ne]; exact k3
     by_cases k4 : what = 4
     ·rw [if_pos k4] at HD
      subst k4
      obtain ⟨Xb, Xt, hX⟩ : ∃ u v, q0r (FT L) L b id = (u, v) := ⟨_, _, rfl⟩
      have hsh : Xt = ⟨Xt.n, Xt.e, [], false, []⟩ := by
       have h : (q0r (FT L) L b id).2 = Xt := by rw [hX]
       rw [← h]
       unfold q0r
       cases ofT b id with
       | none => rfl
       | some u =>
        simp only
        split
        ·rfl
        ·cases q1M b.recs (askT (FT L) b.st u) with
         | none => rfl
         | some out =>
          simp only
          split <;> rfl
      obtain ⟨Xn, Xe, Xd, Xi, Xs⟩ := Xt
      obtain ⟨rfl, rfl, rfl⟩ : Xd = [] ∧ Xi = false ∧ Xs = [] := by
       injection hsh with _ _ h1 h2 h3
       exact ⟨h1, h2, h3⟩
      clear hsh
      rw [hX] at HD HCm
      clear hX
      (try simp only at HCm)
      go_enter Tryz.func18, Tryz.ntmps18
      go_upto_region 1 with fail
      rw [HW0.out, HW1.out]
      clear HW0 HW1
      go_wp2_with fail
      refine HCm.out.mono ?_
      rintro r w2 ⟨rfl, F', hT⟩
      obtain ⟨hst2, hm2, hf2⟩ := hT
      have hx : w2.heap[w.heap.size + 1]? = _ := (hm2.block _ (by have := HS1.out; omega) (fun hk => by have := (HUp.out _ hk).2; omega)).trans H1.out
      have HQ := qh (And.intro hst2 (And.intro hm2 hf2))
      clear hst2 hm2 hf2
      have f0 := q02 hx 0
      have f1 := q02 hx 1
      have f2 := q02 hx 2
      have f3 := q02 hx 3
      have f4 := q02 hx 4
      have z0 := cell_of_row w2 _ 0 _ _ _ hx
      have z1 := cell_of_row w2 _ 1 _ _ _ hx
      have z2 := cell_of_row w2 _ 2 _ _ _ hx
      have z3 := cell_of_row w2 _ 3 _ _ _ hx
      have z4 := cell_of_row w2 _ 4 _ _ _ hx
      have HX := qh hx
      clear hx
      clear c0 c1 c2 c3 c4 c5 HBe HRd HSc HWr HCm HAb HCo
      go_wp2_with fail
      have HZ := qh (q2Q HX.out (.int .u64 Xn) (.int .i64 Xe) (.slice none 0 0) (.bool false) (.slice none 0 0))
      have t0 := cell_of_row _ _ 0 _ _ _ HZ.out
      have t1 := cell_of_row _ _ 1 _ _ _ HZ.out
      have t2 := cell_of_row _ _ 2 _ _ _ HZ.out
      have t3 := cell_of_row _ _ 3 _ _ _ HZ.out
      have t4 := cell_of_row _ _ 4 _ _ _ HZ.out
      refine bodyPost_ret (v := q1d ⟨Xn, Xe, [], false, []⟩ none 0 none 0) (by simp [results, Tryz.results18, go_sem, t0, t1, t2, t3, t4]; rfl) rfl ?_
      exact q2l K HOw.out HB1.out HS1.out (fun k hk => (HUp.out k hk).2) (by rw [HD.out]; exact HQ.out.1) HQ.out.2.1 HQ.out.2.2 (A := none) (B := none) (c := 0) (d := 0) (by rw [HD.out]; exact ⟨ByS.none_ _ _, PaS.none_ _ _⟩) (q2j _ _ _ _ _ _ _) (by rw [HD.out])
     ·rw [if_neg k4] at HD
      have n4 : (what == 4) = false := by rw [beq_eq_false_iff_ne]; exact k4
      by_cases k5 : what = 5
      ·rw [if_pos k5] at HD
       subst k5
       obtain ⟨Xb, Xt, hX⟩ : ∃ u v, q1X (FT L) L b id = (u, v) := ⟨_, _, rfl⟩
       have hsh : Xt = errT Xt.e := by
        have h : (q1X (FT L) L b id).2 = Xt := by rw [hX]
        rw [← h]
        unfold q1X
        cases ofT b id <;> rfl
       obtain ⟨Xn, Xe, Xd, Xi, Xs⟩ := Xt
       obtain ⟨rfl, rfl, rfl, rfl⟩ : Xn = 0 ∧ Xd = [] ∧ Xi = false ∧ Xs = [] := by
        unfold errT at hsh
        injection hsh with h0 _ h1 h2 h3
        exact ⟨h0, h1, h2, h3⟩
       clear hsh
       rw [hX] at HD HAb
       clear hX
       (try simp only at HAb)
       go_enter Tryz.func18, Tryz.ntmps18
       go_upto_region 1 with fail
       rw [HW0.out, HW1.out]
       clear HW0 HW1
       go_wp2_with fail
       refine HAb.out.mono ?_
       rintro r w2 ⟨rfl, F', hT⟩
       obtain ⟨hst2, hm2, hf2⟩ := hT
       have hx : w2.heap[w.heap.size + 1]? = _ := (hm2.block _ (by have := HS1.out; omega) (fun hk => by have := (HUp.out _ hk).2; omega)).trans H1.out
       have HQ := qh (And.intro hst2 (And.intro hm2 hf2))
       clear hst2 hm2 hf2
       have f0 := q02 hx 0
       have f1 := q02 hx 1
       have f2 := q02 hx 2
       have f3 := q02 hx 3
       have f4 := q02 hx 4
       have z0 := cell_of_row w2 _ 0 _ _ _ hx
       have z1 := cell_of_row w2 _ 1 _ _ _ hx
       have z2 := cell_of_row w2 _ 2 _ _ _ hx
       have z3 := cell_of_row w2 _ 3 _ _ _ hx
       have z4 := cell_of_row w2 _ 4 _ _ _ hx
       have HX := qh hx
       clear hx
       clear c0 c1 c2 c3 c4 c5 HBe HRd HSc HWr HCm HAb HCo
       go_wp2_with fail
       have HZ := qh (q2Q HX.out (.int .u64 0) (.int .i64 Xe) (.slice none 0 0) (.bool false) (.slice none 0 0))
       have t0 := cell_of_row _ _ 0 _ _ _ HZ.out
       have t1 := cell_of_row _ _ 1 _ _ _ HZ.out
       have t2 := cell_of_row _ _ 2 _ _ _ HZ.out
       have t3 := cell_of_row _ _ 3 _ _ _ HZ.out
       have t4 := cell_of_row _ _ 4 _ _ _ HZ.out
       refine bodyPost_ret (v := q1d ⟨0, Xe, [], false, []⟩ none 0 none 0) (by simp [results, Tryz.results18, go_sem, t0, t1, t2, t3, t4]; rfl) rfl ?_
       exact q2l K HOw.out HB1.out HS1.out (fun k hk => (HUp.out k hk).2) (by rw [HD.out]; exact HQ.out.1) HQ.out.2.1 HQ.out.2.2 (A := none) (B := none) (c := 0) (d := 0) (by rw [HD.out]; exact ⟨ByS.none_ _ _, PaS.none_ _ _⟩) (q2j _ _ _ _ _ _ _) (by rw [HD.out])
      ·rw [if_neg k5] at HD
       have n5 : (what == 5) = false := by rw [beq_eq_false_iff_ne]; exact k5
       by_cases k6 : what = 6
       ·rw [if_pos k6] at HD
        subst k6
        obtain ⟨Xb, Xt, hX⟩ : ∃ u v, q15 b = (u, v) := ⟨_, _, rfl⟩
        have hn9 : Xt.n ≤ 1048576 := by
         have h : (q15 b).2 = Xt := by rw [hX]
         rw [← h]
         obtain ⟨h1, h2, h3⟩ := HOkay.out
         unfold MayT at h1
         simp only [Bool.and_eq_true] at h1
         have h4 := qaS h1.1.1.1 h3
         unfold q15
         simp only
         omega
        have hsh : Xt = ⟨Xt.n, 0, [], false, []⟩ := by
         have h : (q15 b).2 = Xt := by rw [hX]
         rw [← h]
         rfl
        obtain ⟨Xn, Xe, Xd, Xi, Xs⟩ := Xt
        obtain ⟨rfl, rfl, rfl, rfl⟩ : Xe = 0 ∧ Xd = [] ∧ Xi = false ∧ Xs = [] := by
         injection hsh with _ h0 h1 h2 h3
         exact ⟨h0, h1, h2, h3⟩
        simp only at hn9
        clear hsh
        have hcv : IntKind.u64.wrap (Xn : Int) = (Xn : Int) := IntWalk.u64_in _ ⟨by omega, by omega⟩
        rw [hX] at HD HCo
        clear hX
        (try simp only at HCo)
        go_enter Tryz.func18, Tryz.ntmps18
        go_upto_region 1 with fail
        rw [HW0.out, HW1.out]
        clear HW0 HW1
        go_wp2_with fail
        refine HCo.out.mono ?_
        rintro r w2 ⟨rfl, F', hT⟩
        obtain ⟨hst2, hm2, hf2⟩ := hT
        have hx : w2.heap[w.heap.size + 1]? = _ := (hm2.block _ (by have := HS1.out; omega) (fun hk => by have := (HUp.out _ hk).2; omega)).trans H1.out
        have HQ := qh (And.intro hst2 (And.intro hm2 hf2))
        clear hst2 hm2 hf2
        have f0 := q02 hx 0
        have f1 := q02 hx 1
        have f2 := q02 hx 2
        have f3 := q02 hx 3
        have f4 := q02 hx 4
        have z0 := cell_of_row w2 _ 0 _ _ _ hx
        have z1 := cell_of_row w2 _ 1 _ _ _ hx
        have z2 := cell_of_row w2 _ 2 _ _ _ hx
        have z3 := cell_of_row w2 _ 3 _ _ _ hx
        have z4 := cell_of_row w2 _ 4 _ _ _ hx
        have HX := qh hx
        clear hx
        clear c0 c1 c2 c3 c4 c5 HBe HRd HSc HWr HCm HAb HCo
        go_wp2_with fail
        have HZ := qh (q2Q HX.out (.int .u64 Xn) (.int .i64 0) (.slice none 0 0) (.bool false) (.slice none 0 0))
        have t0 := cell_of_row _ _ 0 _ _ _ HZ.out
        have t1 := cell_of_row _ _ 1 _ _ _ HZ.out
        have t2 := cell_of_row _ _ 2 _ _ _ HZ.out
        have t3 := cell_of_row _ _ 3 _ _ _ HZ.out
        have t4 := cell_of_row _ _ 4 _ _ _ HZ.out
        refine bodyPost_ret (v := q1d ⟨Xn, 0, [], false, []⟩ none 0 none 0) (by simp [results, Tryz.results18, go_sem, t0, t1, t2, t3, t4]; rfl) rfl ?_
        exact q2l K HOw.out HB1.out HS1.out (fun k hk => (HUp.out k hk).2) (by rw [HD.out]; exact HQ.out.1) HQ.out.2.1 HQ.out.2.2 (A := none) (B := none) (c := 0) (d := 0) (by rw [HD.out]; exact ⟨ByS.none_ _ _, PaS.none_ _ _⟩) (q2j _ _ _ _ _ _ _) (by rw [HD.out])
       ·rw [if_neg k6] at HD
        have n6 : (what == 6) = false := by rw [beq_eq_false_iff_ne]; exact k6
        go_enter Tryz.func18, Tryz.ntmps18
        go_upto_region 1 with fail
        rw [HW0.out, HW1.out]
        clear HW0 HW1
        have hx := H1.out
        have f0 := q02 hx 0
        have f1 := q02 hx 1
        have f2 := q02 hx 2
        have f3 := q02 hx 3
        have f4 := q02 hx 4
        have z0 := cell_of_row w1 _ 0 _ _ _ hx
        have z1 := cell_of_row w1 _ 1 _ _ _ hx
        have z2 := cell_of_row w1 _ 2 _ _ _ hx
        have z3 := cell_of_row w1 _ 3 _ _ _ hx
        have z4 := cell_of_row w1 _ 4 _ _ _ hx
        have HX := qh hx
        clear hx
        clear HBe HRd HSc HWr HCm HAb HCo
        go_wp2_with fail
        have HZ := qh (q2Q HX.out (.int .u64 0) (.int .i64 0) (.slice none 0 0) (.bool false) (.slice none 0 0))
        have t0 := cell_of_row _ _ 0 _ _ _ HZ.out
        have t1 := cell_of_row _ _ 1 _ _ _ HZ.out
        have t2 := cell_of_row _ _ 2 _ _ _ HZ.out
        have t3 := cell_of_row _ _ 3 _ _ _ HZ.out
        have t4 := cell_of_row _ _ 4 _ _ _ HZ.out
        refine bodyPost_ret (v := q1d ⟨0, 0, [], false, []⟩ none 0 none 0) (by simp [results, Tryz.results18, go_sem, t0, t1, t2, t3, t4]; rfl) rfl ?_
        exact q2l K HOw.out HB1.out HS1.out (fun k hk => (HUp.out k hk).2) (by rw [HD.out]; exact HSt.out) (Mut.refl _ _) (fun k hk => .inl hk) (A := none) (B := none) (c := 0) (d := 0) (by rw [HD.out]; exact ⟨ByS.none_ _ _, PaS.none_ _ _⟩) (q2j _ _ _ _ _ _ _) (by rw [HD.out]; rfl)
end Go.Proofs.YtdpbllacfljmoaaGreat
