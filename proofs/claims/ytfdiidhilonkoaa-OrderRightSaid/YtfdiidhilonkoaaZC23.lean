import Derived.Test.YtfdiidhilonkoaaZC22
set_option linter.unusedVariables false
/-
  Package order: what restOf makes, in memory; what is laid, and how it is told.
-/
namespace Go.Proofs.Ytfdiidhilonkoaa
open Go.RowKit

/-- The first n cells of block g are these truths. -/
def BoolsAt (w : World) (g n : Nat) (d : Nat → Bool) : Prop := ∃ cur : Array Value, w.heap[g]? = some (.cells cur 4 (0, 0)) ∧ ∀ i, i < n → cur[i]? = some (.bool (d i))
def updB (d : Nat → Bool) (i : Nat) : Nat → Bool := fun k => k == i || d k
section
variable {w w' : World} {g n : Nat} {d : Nat → Bool}
theorem BoolsAt.lt (h : BoolsAt w g n d) : g < w.heap.size := by
  obtain ⟨cur, h1, _⟩ := h
  exact lt_of_heap h1
theorem BoolsAt.cell (h : BoolsAt w g n d) {i : Nat} (hi : i < n) : w.cell? ⟨g, i, none⟩ = some (.bool (d i)) := by
  obtain ⟨cur, h1, h2⟩ := h
  rw [cell_of_row w g i _ _ _ h1]
  exact h2 i hi
theorem BoolsAt.frozen (h : BoolsAt w g n d) (i : Nat) : w.frozen? ⟨g, i, none⟩ = false := by
  obtain ⟨cur, h1, h2⟩ := h
  exact frozen_of h1 i
theorem BoolsAt.keep (h : BoolsAt w g n d) (hk : w'.heap[g]? = w.heap[g]?) : BoolsAt w' g n d := by
  obtain ⟨cur, h1, h2⟩ := h
  exact ⟨cur, hk.trans h1, h2⟩
theorem BoolsAt.set (h : BoolsAt w g n d) (i : Nat) : BoolsAt (w.setCell ⟨g, i, none⟩ (.bool true)) g n (updB d i) := by
  obtain ⟨cur, h1, h2⟩ := h
  refine ⟨_, heap_setCell_same w g i _ _ _ h1, fun k hk => ?_⟩
  unfold updB
  have hc := h2 k hk
  have hks : k < cur.size := (Array.getElem?_eq_some_iff.1 hc).1
  by_cases e : k = i
  · subst e
    rw [Array.getElem?_setIfInBounds_self_of_lt hks]
    simp
  · rw [Array.getElem?_setIfInBounds_ne (fun q => e q.symm)]
    have : (k == i) = false := by simpa using e
    rw [this]
    exact hc
end
/-- Where what restOf makes lies. -/
structure LayO where
  r : Nat
  d0 : Nat
  D : Nat
  q1 : Nat
  g1 : Nat
  h1 : Nat
  q2 : Nat
  g2 : Nat
  h2 : Nat
  a : Nat
structure LayO.Ok (L : LayO) (lo : Nat) : Prop where
  mD : L.D ≠ L.r ∧ L.D ≠ L.d0 ∧ L.D ≠ L.q1 ∧ L.D ≠ L.g1 ∧ L.D ≠ L.q2 ∧ L.D ≠ L.g2 ∧ lo ≤ L.D
  m1 : L.h1 ≠ L.r ∧ L.h1 ≠ L.d0 ∧ L.h1 ≠ L.q1 ∧ L.h1 ≠ L.g1 ∧ L.h1 ≠ L.q2 ∧ L.h1 ≠ L.g2 ∧ lo ≤ L.h1
  m2 : L.h2 ≠ L.r ∧ L.h2 ≠ L.d0 ∧ L.h2 ≠ L.q1 ∧ L.h2 ≠ L.g1 ∧ L.h2 ≠ L.q2 ∧ L.h2 ≠ L.g2 ∧ lo ≤ L.h2
  ma : L.a ≠ L.r ∧ L.a ≠ L.d0 ∧ L.a ≠ L.q1 ∧ L.a ≠ L.g1 ∧ L.a ≠ L.q2 ∧ L.a ≠ L.g2 ∧ lo ≤ L.a
  four : L.D ≠ L.h1 ∧ L.D ≠ L.h2 ∧ L.D ≠ L.a ∧ L.h1 ≠ L.h2 ∧ L.h1 ≠ L.a ∧ L.h2 ≠ L.a
def laidV (L : LayO) : Value := .func (.func 30) #[] #[.pointer (some ⟨L.d0, 0, none⟩)]
def layV (L : LayO) : Value := .func (.func 31) #[] #[.pointer (some ⟨L.d0, 0, none⟩)]
/-- What turns while some are laid. -/
def mvO (L : LayO) (k : Nat) : Prop := k = L.D ∨ k = L.h1 ∨ k = L.h2 ∨ k = L.a
structure RestM (w : World) (L : LayO) (lo : Nat) (A : Option Addr) (c : Nat) (ms : List MZ) (dn : Nat → Bool) (p1 n1 p2 n2 : Nat → Nat) (ah : Nat → Int) : Prop where
  ok : L.Ok lo
  box : w.heap[L.r]? = some (.cells #[.slice A ms.length c, laidV L, layV L, .pointer (some ⟨L.q1, 0, none⟩), .pointer (some ⟨L.q2, 0, none⟩), .slice (some ⟨L.a, 0, none⟩) ms.length ms.length] 45 (0, 0))
  d0 : w.heap[L.d0]? = some (.cells #[.slice (some ⟨L.D, 0, none⟩) ms.length ms.length] 55 (0, 0))
  bools : BoolsAt w L.D ms.length dn
  r1 : RowP_ w L.q1 L.g1 L.h1 ms.length (laidV L) p1 n1
  r2 : RowP_ w L.q2 L.g2 L.h2 ms.length (laidV L) p2 n2
  ahd : IntsAt w L.a ms.length ah
  row : ChZ w lo A c ms
  few : ∀ x ∈ ms, fewMZ x
  len : ms.length ≤ 1000
  by1 : ByEnd (dz ms) p1
  by2 : ByBegan (dz ms) p2
  nx1 : NextP dn p1 n1 ms.length
  nx2 : NextP dn p2 n2 ms.length
  ahp : ∀ i, i < ms.length → AheadP (dz ms) dn p2 i (ah i)
theorem LayO.Ok.mv {L : LayO} {lo k : Nat} (h : L.Ok lo) (hk : mvO L k) : k ≠ L.r ∧ k ≠ L.d0 ∧ k ≠ L.q1 ∧ k ≠ L.g1 ∧ k ≠ L.q2 ∧ k ≠ L.g2 ∧ lo ≤ k := by
  rcases hk with rfl | rfl | rfl | rfl
  · exact h.mD
  · exact h.m1
  · exact h.m2
  · exact h.ma
section
variable {w w' : World} {L : LayO} {lo : Nat} {A : Option Addr} {c : Nat} {ms : List MZ} {dn dn' : Nat → Bool} {p1 n1 p2 n2 n1' n2' : Nat → Nat} {ah ah' : Nat → Int} {F : Nat → Prop}
theorem ChZ.mut (h : ChZ w lo A c ms) (hm : Mut F w w') (hF : ∀ k, F k → lo ≤ k) (hlo : lo ≤ w.heap.size) : ChZ w' lo A c ms := h.kept (fun g hg => hm.block g (by omega) fun q => by have := hF g q; omega) (Nat.le_refl _)
theorem RowP_.mut {q g1 g2 n : Nat} {fv : Value} {pp nn nn' : Nat → Nat} (h : RowP_ w q g1 g2 n fv pp nn) (hm : Mut F w w') (hq : ¬ F q) (hg : ¬ F g1) (hn : IntsAt w' g2 n fun i => (nn' i : Int)) : RowP_ w' q g1 g2 n fv pp nn' :=
  ⟨(hm.block _ (lt_of_heap h.box) hq).trans h.box, h.pl.keep (hm.block _ h.pl.lt hg), hn⟩
theorem RestM.turn (h : RestM w L lo A c ms dn p1 n1 p2 n2 ah) (hlo : lo ≤ w.heap.size) (hm : Mut F w w') (hF : ∀ k, F k → mvO L k)
    (b : BoolsAt w' L.D ms.length dn') (i1 : IntsAt w' L.h1 ms.length fun i => (n1' i : Int)) (i2 : IntsAt w' L.h2 ms.length fun i => (n2' i : Int)) (i3 : IntsAt w' L.a ms.length ah')
    (x1 : NextP dn' p1 n1' ms.length) (x2 : NextP dn' p2 n2' ms.length) (x3 : ∀ i, i < ms.length → AheadP (dz ms) dn' p2 i (ah' i)) : RestM w' L lo A c ms dn' p1 n1' p2 n2' ah' := by
  have no : ∀ k, k = L.r ∨ k = L.d0 ∨ k = L.q1 ∨ k = L.g1 ∨ k = L.q2 ∨ k = L.g2 → ¬ F k := fun k hk q => by
    obtain ⟨m1, m2, m3, m4, m5, m6, _⟩ := h.ok.mv (hF k q)
    rcases hk with e | e | e | e | e | e
    · exact m1 e
    · exact m2 e
    · exact m3 e
    · exact m4 e
    · exact m5 e
    · exact m6 e
  exact ⟨h.ok, (hm.block _ (lt_of_heap h.box) (no _ (by simp))).trans h.box, (hm.block _ (lt_of_heap h.d0) (no _ (by simp))).trans h.d0, b, h.r1.mut hm (no _ (by simp)) (no _ (by simp)) i1, h.r2.mut hm (no _ (by simp)) (no _ (by simp)) i2, i3,
    h.row.mut hm (fun k q => (h.ok.mv (hF k q)).2.2.2.2.2.2) hlo, h.few, h.len, h.by1, h.by2, x1, x2, x3⟩
theorem RestM.below (h : RestM w L lo A c ms dn p1 n1 p2 n2 ah) (hlo : lo ≤ w.heap.size) (hb : Below w.heap.size w w') : RestM w' L lo A c ms dn p1 n1 p2 n2 ah :=
  h.turn hlo (Below.mut hb (fun _ => False)) (fun _ q => q.elim) (h.bools.keep (hb.block _ h.bools.lt)) (h.r1.nx.keep (hb.block _ h.r1.nx.lt)) (h.r2.nx.keep (hb.block _ h.r2.nx.lt)) (h.ahd.keep (hb.block _ h.ahd.lt)) h.nx1 h.nx2 h.ahp
theorem RestM.row1 (h : RestM w L lo A c ms dn p1 n1 p2 n2 ah) (hlo : lo ≤ w.heap.size) (hm : Mut (fun k => k = L.h1) w w') (hr : RowP_ w' L.q1 L.g1 L.h1 ms.length (laidV L) p1 n1') (hn : NextP dn p1 n1' ms.length) : RestM w' L lo A c ms dn p1 n1' p2 n2 ah := by
  have := h.ok.four
  exact h.turn hlo hm (fun k q => .inr (.inl q)) (h.bools.keep (hm.block _ h.bools.lt this.1)) hr.nx (h.r2.nx.keep (hm.block _ h.r2.nx.lt this.2.2.2.1.symm)) (h.ahd.keep (hm.block _ h.ahd.lt this.2.2.2.2.1.symm)) hn h.nx2 h.ahp
theorem RestM.row2 (h : RestM w L lo A c ms dn p1 n1 p2 n2 ah) (hlo : lo ≤ w.heap.size) (hm : Mut (fun k => k = L.h2) w w') (hr : RowP_ w' L.q2 L.g2 L.h2 ms.length (laidV L) p2 n2') (hn : NextP dn p2 n2' ms.length) : RestM w' L lo A c ms dn p1 n1 p2 n2' ah := by
  have := h.ok.four
  exact h.turn hlo hm (fun k q => .inr (.inr (.inl q))) (h.bools.keep (hm.block _ h.bools.lt this.2.1)) (h.r1.nx.keep (hm.block _ h.r1.nx.lt this.2.2.2.1)) hr.nx (h.ahd.keep (hm.block _ h.ahd.lt this.2.2.2.2.2.symm)) h.nx1 hn h.ahp
theorem RestM.put (h : RestM w L lo A c ms dn p1 n1 p2 n2 ah) (hlo : lo ≤ w.heap.size) {i k : Nat} (hk : AheadP (dz ms) dn p2 i (k : Nat)) : RestM (w.setCell ⟨L.a, i, none⟩ (.int .i64 (k : Nat))) L lo A c ms dn p1 n1 p2 n2 (updI ah i (k : Nat)) := by
  have := h.ok.four
  have hm := mut_setI w L.a i (.int .i64 (k : Nat))
  refine h.turn hlo hm (fun k q => .inr (.inr (.inr q))) (h.bools.keep (hm.block _ h.bools.lt this.2.2.1)) (h.r1.nx.keep (hm.block _ h.r1.nx.lt this.2.2.2.2.1)) (h.r2.nx.keep (hm.block _ h.r2.nx.lt this.2.2.2.2.2)) (h.ahd.set i (k : Nat)) h.nx1 h.nx2 fun x hx => ?_
  unfold updI
  by_cases z : x = i
  · rw [if_pos z, z]; exact hk
  · rw [if_neg z]; exact h.ahp x hx
theorem NextP.mono {pp nn : Nat → Nat} {n : Nat} (h : NextP dn pp nn n) (hd : ∀ k, dn k = true → dn' k = true) : NextP dn' pp nn n := fun i hi => ⟨(h i hi).1, (h i hi).2.1, fun j a b => hd _ ((h i hi).2.2 j a b)⟩
theorem updB_mono (i : Nat) : ∀ k, dn k = true → updB dn i k = true := fun k h => by unfold updB; rw [h, Bool.or_true]
theorem RestM.lay (h : RestM w L lo A c ms dn p1 n1 p2 n2 ah) (hlo : lo ≤ w.heap.size) (i : Nat) : RestM (w.setCell ⟨L.D, i, none⟩ (.bool true)) L lo A c ms (updB dn i) p1 n1 p2 n2 ah := by
  have := h.ok.four
  have hm := mut_setI w L.D i (.bool true)
  exact h.turn hlo hm (fun k q => .inl q) (h.bools.set i) (h.r1.nx.keep (hm.block _ h.r1.nx.lt this.1.symm)) (h.r2.nx.keep (hm.block _ h.r2.nx.lt this.2.1.symm)) (h.ahd.keep (hm.block _ h.ahd.lt this.2.2.1.symm)) (h.nx1.mono (updB_mono i)) (h.nx2.mono (updB_mono i)) fun x hx => (h.ahp x hx).mono (updB_mono i)
end
/-- What is left of these, wherever one looked already. -/
def RestE (w : World) (L : LayO) (lo : Nat) (A : Option Addr) (c : Nat) (ms : List MZ) (dn : Nat → Bool) (p1 p2 : Nat → Nat) : Prop := lo ≤ w.heap.size ∧ ∃ n1 n2 ah, RestM w L lo A c ms dn p1 n1 p2 n2 ah
theorem RestE.below {w w' : World} {L : LayO} {lo : Nat} {A : Option Addr} {c : Nat} {ms : List MZ} {dn : Nat → Bool} {p1 p2 : Nat → Nat} (h : RestE w L lo A c ms dn p1 p2) (hb : Below w.heap.size w w') : RestE w' L lo A c ms dn p1 p2 := by
  obtain ⟨h1, n1, n2, ah, h2⟩ := h
  exact ⟨Nat.le_trans h1 hb.size, n1, n2, ah, h2.below h1 hb⟩
theorem mvO.below {w w' : World} {L : LayO} {lo : Nat} (h : L.Ok lo) (hm : Mut (mvO L) w w') (hlo : lo ≤ w.heap.size) : Below lo w w' := hm.below hlo fun k hk => (h.mv hk).2.2.2.2.2.2
set_option maxRecDepth 100000 in
set_option maxHeartbeats 4000000 in
theorem laid_any (d0 D n : Nat) (dn : Nat → Bool) (w : World) (h0 : w.heap[d0]? = some (.cells #[.slice (some ⟨D, 0, none⟩) n n] 55 (0, 0))) (hb : BoolsAt w D n dn) (x : Nat) (hx : x < n) :
    Calls Try.prog 30 #[.int .i64 (x : Nat), .pointer (some ⟨d0, 0, none⟩)] w fun r w' => r = .returned (.bool (dn x)) ∧ Below w.heap.size w w' := by
  have c0 : w.cell? ⟨d0, 0, none⟩ = some (.slice (some ⟨D, 0, none⟩) n n) := by rw [cell_of_row w d0 0 _ _ _ h0]; rfl
  have c1 := hb.cell hx
  have q1 : (x : Int) < (n : Int) := by omega
  clear h0 hb
  generalize dn x = b at *
  go_enter Try.func30, Try.ntmps30
  go_wp2
  first
  | (go_ret; exact ⟨rfl, Below.refl _ _⟩)
  | (go_region; go_wp2; go_ret; exact ⟨rfl, (Below.refl _ _).drew⟩)
set_option maxRecDepth 100000 in
set_option maxHeartbeats 4000000 in
theorem lay_any (d0 D n : Nat) (dn : Nat → Bool) (w : World) (h0 : w.heap[d0]? = some (.cells #[.slice (some ⟨D, 0, none⟩) n n] 55 (0, 0))) (hb : BoolsAt w D n dn) (x : Nat) (hx : x < n) :
    Calls Try.prog 31 #[.int .i64 (x : Nat), .pointer (some ⟨d0, 0, none⟩)] w fun r w' => r = .returned (.tuple #[]) ∧ (w' = w.setCell ⟨D, x, none⟩ (.bool true) ∨ w' = (w.setCell ⟨D, x, none⟩ (.bool true)).drew) := by
  have c0 : w.cell? ⟨d0, 0, none⟩ = some (.slice (some ⟨D, 0, none⟩) n n) := by rw [cell_of_row w d0 0 _ _ _ h0]; rfl
  have c1 := hb.cell hx
  have f1 := hb.frozen x
  have q1 : (x : Int) < (n : Int) := by omega
  clear h0 hb
  generalize dn x = b at *
  go_enter Try.func31, Try.ntmps31
  go_wp2
  exact bodyPost_end (v := .tuple #[]) (by simp [results, Try.results31, go_sem]) rfl ⟨rfl, .inl rfl⟩
end Go.Proofs.Ytfdiidhilonkoaa
