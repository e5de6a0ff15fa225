import Derived.Test.YtooegjdppeiccaaZC12
import Derived.Deep.DeepCutAuto
/-
  The statements' own helper: an operation, done to the developers' store.
-/
namespace Go.Proofs.Ytooegjdppeiccaa
open Go.RowKit

theorem box5_set {w : World} {b : Nat} {e : TypeId} {a0 a1 a2 a3 a4 : Value} (h : w.heap[b]? = some (.cells #[a0, a1, a2, a3, a4] e (0, 0))) (v0 v1 v2 v3 v4 : Value) :
    (((((w.setCell ⟨b, 0, none⟩ v0).setCell ⟨b, 1, none⟩ v1).setCell ⟨b, 2, none⟩ v2).setCell ⟨b, 3, none⟩ v3).setCell ⟨b, 4, none⟩ v4).heap[b]? = some (.cells #[v0, v1, v2, v3, v4] e (0, 0)) := by
  simp [World.setCell, Array.getElem?_modify, h]
theorem box5_other {w : World} {b g : Nat} (hg : g ≠ b) (v0 v1 v2 v3 v4 : Value) : (((((w.setCell ⟨b, 0, none⟩ v0).setCell ⟨b, 1, none⟩ v1).setCell ⟨b, 2, none⟩ v2).setCell ⟨b, 3, none⟩ v3).setCell ⟨b, 4, none⟩ v4).heap[g]? = w.heap[g]? := by
  have hg' : b ≠ g := fun e => hg e.symm
  simp [World.setCell, Array.getElem?_modify, hg']
theorem mut_cell (w : World) (p : Addr) (v : Value) : Mut (fun k => k = p.block) w (w.setCell p v) := by
  have h := (Below.refl 0 w).setCell (Nat.zero_le p.block) v
  refine ⟨h.os, h.tape, h.output, h.size, fun k _ hk => ?_⟩
  have hk' : p.block ≠ k := fun e => hk e.symm
  simp [World.setCell, Array.getElem?_modify, hk']
theorem box5_same (w : World) (b : Nat) (v0 v1 v2 v3 v4 : Value) : Mut (fun k => k = b) w (((((w.setCell ⟨b, 0, none⟩ v0).setCell ⟨b, 1, none⟩ v1).setCell ⟨b, 2, none⟩ v2).setCell ⟨b, 3, none⟩ v3).setCell ⟨b, 4, none⟩ v4) :=
  (((((mut_cell w ⟨b, 0, none⟩ v0).trans (mut_cell _ ⟨b, 1, none⟩ v1) (fun _ h => .inl h)).trans (mut_cell _ ⟨b, 2, none⟩ v2) (fun _ h => .inl h)).trans (mut_cell _ ⟨b, 3, none⟩ v3) (fun _ h => .inl h)).trans (mut_cell _ ⟨b, 4, none⟩ v4) (fun _ h => .inl h))
/-- What an operation tells, and the store behind it. -/
def DoesQ (St : InStore) (w : World) (p : Nat) (F : Nat → Prop) (L : LimS) (st : PS) (o : OpS) (r : Ending) (w' : World) : Prop :=
  ∃ (A B : Option Addr) (c d lo hi : Nat) (F' : Nat → Prop), r = .returned (toldVal (doesS L st o).2 A c B d) ∧ ToldIn w' lo hi (doesS L st o).2 A c B d ∧ w.heap.size ≤ lo ∧ hi ≤ w'.heap.size ∧ (∀ k, F' k → k < lo ∨ hi ≤ k) ∧
    St w' p F' L (doesS L st o).1 ∧ Mut F w w' ∧ ∀ k, F' k → F k ∨ w.heap.size ≤ k
theorem ToldIn.keep {w w' : World} {lo hi c d : Nat} {t : ToldS} {A B : Option Addr} (h : ToldIn w lo hi t A c B d) (hk : ∀ g, lo ≤ g → g < hi → w'.heap[g]? = w.heap[g]?) : ToldIn w' lo hi t A c B d := ⟨h.1.keep hk, h.2.keep hk⟩
theorem does_end {St : InStore} (K : StoreC St) {w w1 w2 w3 : World} {p lo hi c d : Nat} {F F' : Nat → Prop} {L : LimS} {st : PS} {o : OpS} {A B : Option Addr} {r : Ending}
    (hb : Below w.heap.size w w1) (hs : w1.heap.size = w.heap.size + 2) (hF : ∀ k, F k → k < w.heap.size) (hst : St w2 p F' L (doesS L st o).1) (hm : Mut F w1 w2) (hF' : ∀ k, F' k → F k ∨ w1.heap.size ≤ k)
    (ht : ToldIn w2 lo hi (doesS L st o).2 A c B d) (hlo : w1.heap.size ≤ lo) (hhi : hi ≤ w2.heap.size) (hout : ∀ k, F' k → k < lo ∨ hi ≤ k) (h3 : Mut (fun k => k = w.heap.size + 1) w2 w3) (hr : r = .returned (toldVal (doesS L st o).2 A c B d)) :
    DoesQ St w p F L st o r w3 := by
  have hblk : ∀ g, g < w2.heap.size → g ≠ w.heap.size + 1 → w3.heap[g]? = w2.heap[g]? := fun g h1 h2 => h3.block g h1 h2
  refine ⟨A, B, c, d, lo, hi, F', hr, ht.keep (fun g h1 h2 => hblk g (by omega) (by omega)), by omega, Nat.le_trans hhi h3.size, hout, K.keep hst (fun k hk => hblk k (K.upto hst k hk) ?_), ?_, fun k hk => ?_⟩
  · rcases hF' k hk with h | h
    · have := hF k h; omega
    · omega
  · refine ((Below.mut hb F).trans (hm.wide (fun k hk => hk)) (fun k hk => .inl hk)).trans h3 (fun k hk => .inr (by omega))
  · rcases hF' k hk with h | h
    · exact .inl h
    · exact .inr (by omega)

set_option maxRecDepth 100000 in
set_option maxHeartbeats 8000000 in
theorem does_any {St : InStore} (K : StoreC St) (o : OpS) (A : Option Addr) (c p : Nat) (F : Nat → Prop) (L : LimS) (st : PS) (hi : Nat) (w : World) (hst : St w p F L st) (hw : okW o.l) (hlo : o.lo.length ≤ 300) (hhi : o.hi.length ≤ 300)
    (harg : OkMO w hi ⟨o, A, c⟩) (hsz : hi ≤ w.heap.size) (hF : ∀ k, F k → hi ≤ k) :
    Calls Try.prog 16 #[ptrS p, opVal o A c] w (DoesQ St w p F L st o) := by
  obtain ⟨what, ws, low, tm, klo, khi⟩ := o
  obtain ⟨hwh, hlow, htm, _, _, hch⟩ := harg
  simp only at hwh hlow htm hch hw hlo hhi
  obtain ⟨w0, hw0⟩ : ∃ y, w.alloc (.cells #[.int .i64 what, .slice A ws.length c, .int .u64 low, .int .u64 tm, .string (bs klo), .string (bs khi)] 39) = y := ⟨_, rfl⟩
  obtain ⟨w1, hw1⟩ : ∃ y, w0.alloc (.cells #[.int .u64 0, .int .i64 0, .slice none 0 0, .bool false, .slice none 0 0] 44) = y := ⟨_, rfl⟩
  have s0 : w0.heap.size = w.heap.size + 1 := by rw [← hw0]; simp
  have s1 : w1.heap.size = w.heap.size + 2 := by rw [← hw1]; simp [s0]
  have b0 : Below w.heap.size w w0 := by rw [← hw0]; exact (Below.refl _ w).alloc (Nat.le_refl _) _
  have b1 : Below w.heap.size w w1 := b0.trans (by rw [← hw1]; exact (Below.refl _ w0).alloc (by omega) _)
  have h0 : w1.heap[w.heap.size]? = some (.cells #[.int .i64 what, .slice A ws.length c, .int .u64 low, .int .u64 tm, .string (bs klo), .string (bs khi)] 39 (0, 0)) := by
    rw [← hw1]; exact heap_allocs (by rw [← hw0]; exact heap_alloc_new w _) _
  have h1 : w1.heap[w.heap.size + 1]? = some (.cells #[.int .u64 0, .int .i64 0, .slice none 0 0, .bool false, .slice none 0 0] 44 (0, 0)) := by
    rw [← hw1, ← s0]; exact heap_alloc_new w0 _
  have hupF := K.upto hst
  have hst1 : St w1 p F L st := K.keep hst fun k hk => b1.block k (hupF k hk)
  have HCom := Lib.hid (K.commit p F L st ws 0 hi A c low w1 hst1 hw (hch.below b1 hsz (Nat.le_refl _)) (by omega) (fun k hk => .inr (hF k hk)) hlow)
  have HCol := Lib.hid (K.collect p F L st low w1 hst1 hlow)
  have HRd := Lib.hid (K.read p F L st klo tm w1 hst1 (by omega) htm)
  have HSc := Lib.hid (K.scan p F L st klo khi tm w1 hst1 (by omega) (by omega) htm)
  have HLa : Hid (∀ W, Below w1.heap.size w1 W → Calls Try.prog 63 #[ptrS p, .string (bs klo)] W fun r w' => r = .returned (.int .u64 (lastH (chainS st.K klo) : Nat)) ∧ Below W.heap.size W w') := Lib.hid fun W hb =>
    K.latest p F L st klo W (K.keep hst1 fun k hk => hb.block k (by have := hupF k hk; omega)) (by omega)
  have HS1 := Lib.hid s1
  have HB1 := Lib.hid b1
  have H1 := Lib.hid h1
  have HUp := Lib.hid hupF
  have HSt := Lib.hid hst1
  have HW0 := Lib.hid hw0
  have HW1 := Lib.hid hw1
  have c0 := cell_of_row w1 _ 0 _ _ _ h0
  have c1 := cell_of_row w1 _ 1 _ _ _ h0
  have c2 := cell_of_row w1 _ 2 _ _ _ h0
  have c3 := cell_of_row w1 _ 3 _ _ _ h0
  have c4 := cell_of_row w1 _ 4 _ _ _ h0
  have c5 := cell_of_row w1 _ 5 _ _ _ h0
  have H0 := Lib.hid h0
  have HVer := Lib.hid (Nat.sub_le (versS st.K) (versS (collectS st.K low)))
  have HBig := Lib.hid (in_sizes (K.okay hst1).2.2.1 (K.okay hst1).2.1)
  have HD : Hid (doesS L st ⟨what, ws, low, tm, klo, khi⟩ = if what = 0 then ((commitS L st ws low).1, ⟨(commitS L st ws low).2.1, (commitS L st ws low).2.2, [], false, []⟩)
    else if what = 1 then (⟨st.time, collectS st.K low⟩, ⟨versS st.K - versS (collectS st.K low), 0, [], false, []⟩)
    else if what = 2 then (st, ⟨lastH (chainS st.K klo), 0, (readS st.K klo tm).getD [], (readS st.K klo tm).isSome, []⟩)
    else if what = 3 then (st, ⟨0, 0, [], false, scanS st.K klo khi tm⟩)
    else (st, told0)) := Lib.hid rfl
  clear hst hw hlo hhi hch hsz hF hw0 hw1 s0 s1 b0 b1 h0 h1 hupF hst1 hlow htm
  unfold opVal ptrS
  simp only
  by_cases k0 : what = 0
  · rw [k0, if_pos rfl] at HD
    have e0 : (what == 0) = true := by rw [k0]; rfl
    subst k0
    go_enter Try.func16, Try.ntmps16
    go_upto_region 1 with fail
    rw [HW0.out, HW1.out]
    clear HW0 HW1
    go_wp2_with fail
    refine HCom.out.mono ?_
    rintro r w2 ⟨rfl, F', hst2, hm2, hF2⟩
    have hx : w2.heap[w.heap.size + 1]? = _ := (hm2.block _ (by have := HS1.out; omega) (fun hk => by have := HUp.out _ hk; omega)).trans H1.out
    have f0 := frozen_of hx 0
    have f1 := frozen_of hx 1
    have f2 := frozen_of hx 2
    have f3 := frozen_of hx 3
    have f4 := frozen_of hx 4
    have z0 := cell_of_row w2 _ 0 _ _ _ hx
    have z1 := cell_of_row w2 _ 1 _ _ _ hx
    have z2 := cell_of_row w2 _ 2 _ _ _ hx
    have z3 := cell_of_row w2 _ 3 _ _ _ hx
    have z4 := cell_of_row w2 _ 4 _ _ _ hx
    have HX := Lib.hid hx
    have HQ := Lib.hid (And.intro hst2 (And.intro hm2 hF2))
    clear hx hst2 hm2 hF2 c0 c1 c2 c3 c4 c5 HCom HCol HRd HSc HLa
    go_wp2_with fail
    have HZ := Lib.hid (box5_set HX.out (.int .u64 (commitS L st ws low).2.1) (.int .i64 (commitS L st ws low).2.2) (.slice none 0 0) (.bool false) (.slice none 0 0))
    have t0 := cell_of_row _ _ 0 _ _ _ HZ.out
    have t1 := cell_of_row _ _ 1 _ _ _ HZ.out
    have t2 := cell_of_row _ _ 2 _ _ _ HZ.out
    have t3 := cell_of_row _ _ 3 _ _ _ HZ.out
    have t4 := cell_of_row _ _ 4 _ _ _ HZ.out
    refine bodyPost_ret (v := toldVal ⟨(commitS L st ws low).2.1, (commitS L st ws low).2.2, [], false, []⟩ none 0 none 0) (by simp [results, Try.results16, go_sem, t0, t1, t2, t3, t4]; rfl) rfl ?_
    obtain ⟨hst2, hm2, hF2⟩ := HQ.out
    refine does_end K HB1.out HS1.out HUp.out (by rw [HD.out]; exact hst2) hm2 hF2 (lo := w2.heap.size) (hi := w2.heap.size) (A := none) (B := none) (c := 0) (d := 0) (by rw [HD.out]; exact ⟨SlI.none_ _ _ _, ChP.none_ _ _ _⟩) hm2.size (Nat.le_refl _) (fun k hk => .inl (K.upto hst2 k hk)) (box5_same _ _ _ _ _ _ _) (by rw [HD.out])
  · rw [if_neg k0] at HD
    have n0 : (what == 0) = false := by rw [beq_eq_false_iff_ne]; exact k0
    by_cases k1 : what = 1
    · rw [if_pos k1] at HD
      subst k1
      obtain ⟨n, hn⟩ : ∃ n, versS st.K - versS (collectS st.K low) = n := ⟨_, rfl⟩
      rw [hn] at HD HCol
      have hn2 : n ≤ 1048576 := by have := HVer.out; have := HBig.out; omega
      clear hn
      go_enter Try.func16, Try.ntmps16
      go_upto_region 1 with fail
      rw [HW0.out, HW1.out]
      clear HW0 HW1
      go_wp2_with fail
      refine HCol.out.mono ?_
      rintro r w2 ⟨rfl, F', hst2, hm2, hF2⟩
      have hx : w2.heap[w.heap.size + 1]? = _ := (hm2.block _ (by have := HS1.out; omega) (fun hk => by have := HUp.out _ hk; omega)).trans H1.out
      have f0 := frozen_of hx 0
      have f1 := frozen_of hx 1
      have f2 := frozen_of hx 2
      have f3 := frozen_of hx 3
      have f4 := frozen_of hx 4
      have z0 := cell_of_row w2 _ 0 _ _ _ hx
      have z1 := cell_of_row w2 _ 1 _ _ _ hx
      have z2 := cell_of_row w2 _ 2 _ _ _ hx
      have z3 := cell_of_row w2 _ 3 _ _ _ hx
      have z4 := cell_of_row w2 _ 4 _ _ _ hx
      have HX := Lib.hid hx
      have HQ := Lib.hid (And.intro hst2 (And.intro hm2 hF2))
      clear hx hst2 hm2 hF2 c0 c1 c2 c3 c4 c5 HCom HCol HRd HSc HLa
      go_wp2_with fail
      have HZ := Lib.hid (box5_set HX.out (.int .u64 n) (.int .i64 0) (.slice none 0 0) (.bool false) (.slice none 0 0))
      have t0 := cell_of_row _ _ 0 _ _ _ HZ.out
      have t1 := cell_of_row _ _ 1 _ _ _ HZ.out
      have t2 := cell_of_row _ _ 2 _ _ _ HZ.out
      have t3 := cell_of_row _ _ 3 _ _ _ HZ.out
      have t4 := cell_of_row _ _ 4 _ _ _ HZ.out
      refine bodyPost_ret (v := toldVal ⟨n, 0, [], false, []⟩ none 0 none 0) (by simp [results, Try.results16, go_sem, t0, t1, t2, t3, t4]; rfl) rfl ?_
      obtain ⟨hst2, hm2, hF2⟩ := HQ.out
      exact does_end K HB1.out HS1.out HUp.out (by rw [HD.out]; exact hst2) hm2 hF2 (lo := w2.heap.size) (hi := w2.heap.size) (A := none) (B := none) (c := 0) (d := 0) (by rw [HD.out]; exact ⟨SlI.none_ _ _ _, ChP.none_ _ _ _⟩) hm2.size (Nat.le_refl _) (fun k hk => .inl (K.upto hst2 k hk)) (box5_same _ _ _ _ _ _ _) (by rw [HD.out])
    · rw [if_neg k1] at HD
      have n1 : (what == 1) = false := by rw [beq_eq_false_iff_ne]; exact k1
      by_cases k2 : what = 2
      · rw [if_pos k2] at HD
        subst k2
        go_enter Try.func16, Try.ntmps16
        go_upto_region 1 with fail
        rw [HW0.out, HW1.out]
        clear HW0 HW1
        go_wp2_with fail
        refine HRd.out.mono ?_
        rintro r w2' ⟨A9, c9, rfl, hs9, hb9⟩
        have HS9 := Lib.hid hs9
        have HB9 := Lib.hid hb9
        have x4 : w2'.cell? ⟨w.heap.size, 4, none⟩ = _ := (hb9.cell (p := ⟨w.heap.size, 4, none⟩) (by have := HS1.out; show w.heap.size < w1.heap.size; omega)).trans c4
        clear hs9 hb9
        generalize (readS st.K klo tm).getD [] = rb at *
        generalize (readS st.K klo tm).isSome = ri at *
        go_wp2_with fail
        refine (HLa.out w2' HB9.out).mono ?_
        rintro r w2 ⟨rfl, hb2'⟩
        have HQ9 := Lib.hid hb2'
        have hb2 : Below w1.heap.size w1 w2 := HB9.out.trans (hb2'.mono HB9.out.size)
        clear hb2'
        have hx : w2.heap[w.heap.size + 1]? = _ := (hb2.block _ (by have := HS1.out; omega)).trans H1.out
        have f0 := frozen_of hx 0
        have f1 := frozen_of hx 1
        have f2 := frozen_of hx 2
        have f3 := frozen_of hx 3
        have f4 := frozen_of hx 4
        have z0 := cell_of_row w2 _ 0 _ _ _ hx
        have z1 := cell_of_row w2 _ 1 _ _ _ hx
        have z2 := cell_of_row w2 _ 2 _ _ _ hx
        have z3 := cell_of_row w2 _ 3 _ _ _ hx
        have z4 := cell_of_row w2 _ 4 _ _ _ hx
        have HX := Lib.hid hx
        have HB2 := Lib.hid hb2
        have HHB : Hid (∀ g, w1.heap.size ≤ g → g < w2'.heap.size → w2.heap[g]? = w2'.heap[g]?) := Lib.hid (fun g _ hg => (HQ9.out).block g hg)
        clear hx hb2 c0 c1 c2 c3 c4 c5 x4 HCom HCol HRd HSc HLa
        go_wp2_with fail
        have HZ := Lib.hid (box5_set HX.out (.int .u64 (lastH (chainS st.K klo) : Nat)) (.int .i64 0) (.slice A9 rb.length c9) (.bool ri) (.slice none 0 0))
        have t0 := cell_of_row _ _ 0 _ _ _ HZ.out
        have t1 := cell_of_row _ _ 1 _ _ _ HZ.out
        have t2 := cell_of_row _ _ 2 _ _ _ HZ.out
        have t3 := cell_of_row _ _ 3 _ _ _ HZ.out
        have t4 := cell_of_row _ _ 4 _ _ _ HZ.out
        refine bodyPost_ret (v := toldVal ⟨lastH (chainS st.K klo), 0, rb, ri, []⟩ A9 c9 none 0) (by simp [results, Try.results16, go_sem, t0, t1, t2, t3, t4]; rfl) rfl ?_
        refine does_end K HB1.out HS1.out HUp.out (by rw [HD.out]; exact K.keep HSt.out fun k hk => HB2.out.block k (by have := HUp.out k hk; have := HS1.out; omega)) (Below.mut HB2.out F) (fun k hk => .inl hk) (lo := w1.heap.size) (hi := w2'.heap.size) (A := A9) (B := none) (c := c9) (d := 0) (by rw [HD.out]; exact ⟨HS9.out.keep (HHB.out), ChP.none_ _ _ _⟩) (Nat.le_refl _) HQ9.out.size (fun k hk => .inl (by have := HUp.out k hk; have := HS1.out; omega)) (box5_same _ _ _ _ _ _ _) (by rw [HD.out])
      · rw [if_neg k2] at HD
        have n2 : (what == 2) = false := by rw [beq_eq_false_iff_ne]; exact k2
        by_cases k3 : what = 3
        · rw [if_pos k3] at HD
          subst k3
          go_enter Try.func16, Try.ntmps16
          go_upto_region 1 with fail
          rw [HW0.out, HW1.out]
          clear HW0 HW1
          go_wp2_with fail
          refine HSc.out.mono ?_
          rintro r w2 ⟨A9, c9, rfl, hs9, hb2⟩
          have hx : w2.heap[w.heap.size + 1]? = _ := (hb2.block _ (by have := HS1.out; omega)).trans H1.out
          have f0 := frozen_of hx 0
          have f1 := frozen_of hx 1
          have f2 := frozen_of hx 2
          have f3 := frozen_of hx 3
          have f4 := frozen_of hx 4
          have z0 := cell_of_row w2 _ 0 _ _ _ hx
          have z1 := cell_of_row w2 _ 1 _ _ _ hx
          have z2 := cell_of_row w2 _ 2 _ _ _ hx
          have z3 := cell_of_row w2 _ 3 _ _ _ hx
          have z4 := cell_of_row w2 _ 4 _ _ _ hx
          have HX := Lib.hid hx
          have HB2 := Lib.hid hb2
          have HS9 := Lib.hid hs9
          clear hx hb2 hs9 c0 c1 c2 c3 c4 c5 HCom HCol HRd HSc HLa
          generalize scanS st.K klo khi tm = sp at *
          go_wp2_with fail
          have HZ := Lib.hid (box5_set HX.out (.int .u64 0) (.int .i64 0) (.slice none 0 0) (.bool false) (.slice A9 sp.length c9))
          have t0 := cell_of_row _ _ 0 _ _ _ HZ.out
          have t1 := cell_of_row _ _ 1 _ _ _ HZ.out
          have t2 := cell_of_row _ _ 2 _ _ _ HZ.out
          have t3 := cell_of_row _ _ 3 _ _ _ HZ.out
          have t4 := cell_of_row _ _ 4 _ _ _ HZ.out
          refine bodyPost_ret (v := toldVal ⟨0, 0, [], false, sp⟩ none 0 A9 c9) (by simp [results, Try.results16, go_sem, t0, t1, t2, t3, t4]; rfl) rfl ?_
          exact does_end K HB1.out HS1.out HUp.out (by rw [HD.out]; exact K.keep HSt.out fun k hk => HB2.out.block k (by have := HUp.out k hk; have := HS1.out; omega)) (Below.mut HB2.out F) (fun k hk => .inl hk) (lo := w1.heap.size) (hi := w2.heap.size) (A := none) (B := A9) (c := 0) (d := c9) (by rw [HD.out]; exact ⟨SlI.none_ _ _ _, HS9.out⟩) (Nat.le_refl _) (Nat.le_refl _) (fun k hk => .inl (by have := HUp.out k hk; have := HS1.out; omega)) (box5_same _ _ _ _ _ _ _) (by rw [HD.out])
        · rw [if_neg k3] at HD
          have n3 : (what == 3) = false := by rw [beq_eq_false_iff_ne]; exact k3
          have hb2 := Below.refl w1.heap.size w1
          have f0 := frozen_of H1.out 0
          have f1 := frozen_of H1.out 1
          have f2 := frozen_of H1.out 2
          have f3 := frozen_of H1.out 3
          have f4 := frozen_of H1.out 4
          have z0 := cell_of_row w1 _ 0 _ _ _ H1.out
          have z1 := cell_of_row w1 _ 1 _ _ _ H1.out
          have z2 := cell_of_row w1 _ 2 _ _ _ H1.out
          have z3 := cell_of_row w1 _ 3 _ _ _ H1.out
          have z4 := cell_of_row w1 _ 4 _ _ _ H1.out
          have HX := H1
          have HB2 := Lib.hid hb2
          clear hb2 HCom HCol HRd HSc HLa
          go_enter Try.func16, Try.ntmps16
          go_upto_region 1 with fail
          rw [HW0.out, HW1.out]
          clear HW0 HW1
          go_wp2_with fail
          have HZ := Lib.hid (box5_set HX.out (.int .u64 0) (.int .i64 0) (.slice none 0 0) (.bool false) (.slice none 0 0))
          have t0 := cell_of_row _ _ 0 _ _ _ HZ.out
          have t1 := cell_of_row _ _ 1 _ _ _ HZ.out
          have t2 := cell_of_row _ _ 2 _ _ _ HZ.out
          have t3 := cell_of_row _ _ 3 _ _ _ HZ.out
          have t4 := cell_of_row _ _ 4 _ _ _ HZ.out
          refine bodyPost_ret (v := toldVal told0 none 0 none 0) (by simp [results, Try.results16, go_sem, t0, t1, t2, t3, t4]; rfl) rfl ?_
          exact does_end K HB1.out HS1.out HUp.out (by rw [HD.out]; exact HSt.out) (Mut.refl F w1) (fun k hk => .inl hk) (lo := w1.heap.size) (hi := w1.heap.size) (A := none) (B := none) (c := 0) (d := 0) (by rw [HD.out]; exact ⟨SlI.none_ _ _ _, ChP.none_ _ _ _⟩) (Nat.le_refl _) (Nat.le_refl _) (fun k hk => .inl (by have := HUp.out k hk; have := HS1.out; omega)) (box5_same _ _ _ _ _ _ _) (by rw [HD.out])
end Go.Proofs.Ytooegjdppeiccaa
