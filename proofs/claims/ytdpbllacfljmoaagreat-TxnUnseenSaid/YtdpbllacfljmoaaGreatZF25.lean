import Derived.Test.YtdpbllacfljmoaaGreatZF14
import Derived.Test.YtdpbllacfljmoaaGreatZF11
import Derived.Test.YtdpbllacfljmoaaGreatZF24
set_option maxRecDepth 100000
set_option maxHeartbeats 16000000
set_option linter.unusedVariables false
namespace Go.Proofs.YtdpbllacfljmoaaGreat
open Go.RowKit
abbrev q0o := Nat → Nat
def datR (ρ : q0o) : Nat → Prop := fun k => ρ k = 6
def stoR (ρ : q0o) : Nat → Prop := fun k => ρ k = 3
def ownR (ρ : q0o) : Nat → Prop := fun k => ρ k ≠ 0
structure q0P (R : Nat → Prop) (ρ ρ' : q0o) (w w' : World) : Prop where
 size : w.heap.size ≤ w'.heap.size
 same : ∀ k, k < w.heap.size → ρ k ≠ 0 → ¬ R (ρ k) → w'.heap[k]? = w.heap[k]? ∧ ρ' k = ρ k
theorem q0P.refl (R : Nat → Prop) (ρ : q0o) (w : World) : q0P R ρ ρ w w := ⟨Nat.le_refl _, fun _ _ _ _ => ⟨rfl, rfl⟩⟩
theorem q0P.trans {R : Nat → Prop} {ρ ρ' ρ'' : q0o} {w w' w'' : World} (h : q0P R ρ ρ' w w') (k : q0P R ρ' ρ'' w' w'') : q0P R ρ ρ'' w w'' := ⟨Nat.le_trans h.size k.size, fun j h1 h2 h3 => by
 obtain ⟨a1, a2⟩ := h.same j h1 h2 h3
 obtain ⟨b1, b2⟩ := k.same j (Nat.lt_of_lt_of_le h1 h.size) (by rw [a2]; exact h2) (by rw [a2]; exact h3)
 exact ⟨b1.trans a1, b2.trans a2⟩⟩
theorem q0P.mono {R R' : Nat → Prop} {ρ ρ' : q0o} {w w' : World} (h : q0P R ρ ρ' w w') (hr : ∀ n, R n → R' n) : q0P R' ρ ρ' w w' := ⟨h.size, fun k h1 h2 h3 => h.same k h1 h2 fun e => h3 (hr _ e)⟩
theorem q0P.below {R : Nat → Prop} {ρ : q0o} {w w' : World} (h : Below w.heap.size w w') : q0P R ρ ρ w w' := ⟨h.size, fun k h1 _ _ => ⟨h.block k h1, rfl⟩⟩
def newR (ρ : q0o) (n m r : Nat) : q0o := fun k => if n ≤ k ∧ k < m then r else ρ k
theorem q1f {ρ : q0o} {n m r k : Nat} (h : k < n) : newR ρ n m r k = ρ k := if_neg (by omega)
theorem q5F {ρ : q0o} {n m r k : Nat} (h : n ≤ k) (h2 : k < m) : newR ρ n m r k = r := if_pos ⟨h, h2⟩
theorem q1b {ρ : q0o} {n m r k : Nat} (h : newR ρ n m r k ≠ 0) : (n ≤ k ∧ k < m ∧ newR ρ n m r k = r) ∨ newR ρ n m r k = ρ k := by
 unfold newR at *
 split
 ·rename_i e
  exact .inl ⟨e.1, e.2, rfl⟩
 ·exact .inr rfl
theorem q0P.fresh {R : Nat → Prop} {ρ : q0o} {w w' : World} (h : Below w.heap.size w w') (r : Nat) : q0P R ρ (newR ρ w.heap.size w'.heap.size r) w w' := ⟨h.size, fun k h1 _ _ => ⟨h.block k h1, q1f h1⟩⟩
theorem q1o {w : World} {b : Nat} {t : TypeId} {x : Array Value} (h : w.heap[b]? = some (.cells x t (0, 0))) (o : Nat) (v : Value) : (w.setCell ⟨b, o, none⟩ v).heap[b]? = some (.cells (x.setIfInBounds o v) t (0, 0)) := heap_setCell_same w b o x t v h
structure TxP where
 q : Nat
 m : Nat
 A : Option Addr
 c : Nat
 ad : KeyS → Option Addr × Nat
def qax (t : TxS) (a : TxP) : Array Value := #[.int .u64 (t.began : Nat), .int .i64 (t.start : Nat), .slice a.A t.marks.length a.c, .map (some a.m)]
def wrF (ws : List Wr) (ad : KeyS → Option Addr × Nat) (k : KeyS) : Option Value := (ws.find? fun x => x.key == k).map fun x => q4o x (ad x.key).1 (ad x.key).2
structure TxM (w : World) (ρ : q0o) (t : TxS) (a : TxP) : Prop where
 box : w.heap[a.q]? = some (.cells (qax t a) 117 (0, 0))
 marks : SpS w (datR ρ) a.A a.c t.marks
 map : MapK strK w a.m (wrF t.ws a.ad)
 dat : ∀ x ∈ t.ws, ByS w (datR ρ) (a.ad x.key).1 (a.ad x.key).2 x.dat
 rq : ρ a.q = 7 + 2 * t.id
 rm : ρ a.m = 8 + 2 * t.id
section
variable {w w' : World} {ρ ρ' : q0o} {t : TxS} {a : TxP} {R : Nat → Prop}
theorem TxM.step (h : TxM w ρ t a) (s : q0P R ρ ρ' w w') (h6 : ¬ R 6) (h7 : ¬ R (7 + 2 * t.id)) (h8 : ¬ R (8 + 2 * t.id)) : TxM w' ρ' t a := by
 have k6 : ∀ g, datR ρ g → g < w.heap.size → w'.heap[g]? = w.heap[g]? ∧ datR ρ' g := fun g hg hl => by
  obtain ⟨e1, e2⟩ := s.same g hl (by unfold datR at hg; omega) (by rw [hg]; exact h6)
  exact ⟨e1, by unfold datR; rw [e2]; exact hg⟩
 obtain ⟨q1, q2⟩ := s.same a.q (q00 h.box) (by rw [h.rq]; omega) (by rw [h.rq]; exact h7)
 obtain ⟨m1, m2⟩ := s.same a.m h.map.lt (by rw [h.rm]; omega) (by rw [h.rm]; exact h8)
 exact ⟨q1.trans h.box, h.marks.keep k6, h.map.keep m1, fun x hx => (h.dat x hx).keep k6, q2.trans h.rq, m2.trans h.rm⟩
theorem TxM.cell (h : TxM w ρ t a) (i : Nat) (u : Value) (hu : (qax t a)[i]? = some u) : w.cell? ⟨a.q, i, none⟩ = some u := by
 rw [cell_of_row w a.q i _ _ _ h.box]
 exact hu
theorem TxM.began_ (h : TxM w ρ t a) : w.cell? ⟨a.q, 0, none⟩ = some (.int .u64 (t.began : Nat)) := h.cell 0 _ rfl
theorem TxM.start_ (h : TxM w ρ t a) : w.cell? ⟨a.q, 1, none⟩ = some (.int .i64 (t.start : Nat)) := h.cell 1 _ rfl
theorem TxM.marks_ (h : TxM w ρ t a) : w.cell? ⟨a.q, 2, none⟩ = some (.slice a.A t.marks.length a.c) := h.cell 2 _ rfl
theorem TxM.map_ (h : TxM w ρ t a) : w.cell? ⟨a.q, 3, none⟩ = some (.map (some a.m)) := h.cell 3 _ rfl
theorem TxM.frozen (h : TxM w ρ t a) (o : Nat) : w.frozen? ⟨a.q, o, none⟩ = false := q02 h.box o
end
def q5O (w : World) (ρ : q0o) (v : Value) (l : List RecS) : Prop := ∃ ms : List MR, ms.map MR.r = l ∧ OwnG 86 6 q0d w 0 v ms ∧ (∀ x ∈ ms, OkRS w (datR ρ) x) ∧ ∀ g, v.ownBlock = some g → ρ g = 4
def qbm (w : World) (ρ : q0o) (v : Value) (l : List q47) : Prop := ∃ ms : List MD, ms.map MD.d = l ∧ OwnG 104 7 q0S w 0 v ms ∧ (∀ x ∈ ms, OkDS w (datR ρ) x) ∧ ∀ g, v.ownBlock = some g → ρ g = 5
section
variable {w w' : World} {ρ ρ' : q0o} {v : Value} {R : Nat → Prop}
theorem q0P.dat (s : q0P R ρ ρ' w w') (h6 : ¬ R 6) : ∀ g, datR ρ g → g < w.heap.size → w'.heap[g]? = w.heap[g]? ∧ datR ρ' g := fun g hg hl => by
 obtain ⟨e1, e2⟩ := s.same g hl (by unfold datR at hg; omega) (by rw [hg]; exact h6)
 exact ⟨e1, by unfold datR; rw [e2]; exact hg⟩
theorem q5O.step {l : List RecS} (h : q5O w ρ v l) (s : q0P R ρ ρ' w w') (h6 : ¬ R 6) (h4 : ¬ R 4) : q5O w' ρ' v l := by
 obtain ⟨ms, e, ho, hk, hr⟩ := h
 have hb : ∀ g, v.ownBlock = some g → w'.heap[g]? = w.heap[g]? ∧ ρ' g = ρ g := fun g hg => s.same g (ho.lt g hg).2 (by rw [hr g hg]; omega) (by rw [hr g hg]; exact h4)
 exact ⟨ms, e, ho.keep (fun g hg _ => (hb g hg).1) (Nat.le_refl _), fun x hx => (hk x hx).keep (s.dat h6), fun g hg => (hb g hg).2.trans (hr g hg)⟩
theorem qbm.step {l : List q47} (h : qbm w ρ v l) (s : q0P R ρ ρ' w w') (h6 : ¬ R 6) (h5 : ¬ R 5) : qbm w' ρ' v l := by
 obtain ⟨ms, e, ho, hk, hr⟩ := h
 have hb : ∀ g, v.ownBlock = some g → w'.heap[g]? = w.heap[g]? ∧ ρ' g = ρ g := fun g hg => s.same g (ho.lt g hg).2 (by rw [hr g hg]; omega) (by rw [hr g hg]; exact h5)
 exact ⟨ms, e, ho.keep (fun g hg _ => (hb g hg).1) (Nat.le_refl _), fun x hx => ⟨(hk x hx).1.keep (s.dat h6), (hk x hx).2.keep (s.dat h6)⟩, fun g hg => (hb g hg).2.trans (hr g hg)⟩
end
def boxB (L : LimT) (ps B : Nat) (n e : Nat) (rv hv : Value) : Array Value :=
 #[.int .i64 L.s.keys, .int .i64 L.s.vers, .int .i64 L.s.byts, .int .i64 L.marks, .int .i64 L.recs, .int .i64 L.live, .int .u64 L.s.last, ptrS ps, .map (some B), .int .i64 (n : Nat), .int .i64 (e : Nat), rv, hv]
def q2L (l : List TxS) (P : Nat → TxP) : Int → Option Value := fun id => (l.find? fun t => decide ((t.id : Int) = id)).map fun t => ptrS (P t.id).q
structure RawB (w : World) (o p : Nat) (ρ : q0o) (L : LimT) (b : q08) (ps B : Nat) (P : Nat → TxP) (rv hv : Value) : Prop where
 box : w.heap[p]? = some (.cells (boxB L ps B b.last b.event rv hv) 92 (0, 0))
 live : MapK intK w B (q2L b.live P)
 store : StD w ps (stoR ρ) L.s b.st
 txs : ∀ t ∈ b.live, TxM w ρ t (P t.id)
 recs : q5O w ρ rv b.recs
 hist : qbm w ρ hv b.hist
 rp : ρ p = 1
 rB : ρ B = 2
 lo : ∀ k, ρ k ≠ 0 → o ≤ k ∧ k < w.heap.size
section
variable {w w' : World} {o p : Nat} {ρ ρ' : q0o} {L : LimT} {b : q08} {ps B : Nat} {P : Nat → TxP} {rv hv : Value} {R : Nat → Prop}
theorem StD.step {st : PS} {ρ ρ' : q0o} (h : StD w ps (stoR ρ) L.s st) (s : q0P R ρ ρ' w w') (h3 : ¬ R 3) (hn : ∀ k, ρ' k = 3 → ρ k = 3) : StD w' ps (stoR ρ') L.s st := by
 have e : stoR ρ' = stoR ρ := funext fun k => propext ⟨fun h => hn k h, fun hk => by
  have hk2 : ρ k = 3 := hk
  have := (s.same k (q1Y.upto h k hk) (by omega) (by rw [hk2]; exact h3)).2
  exact this.trans hk2⟩
 rw [e]
 exact q1Y.keep h fun k hk => by
  have hk2 : ρ k = 3 := hk
  exact (s.same k (q1Y.upto h k hk) (by omega) (by rw [hk2]; exact h3)).1
theorem RawB.keep (h : RawB w o p ρ L b ps B P rv hv) (hk : ∀ k, ρ k ≠ 0 → w'.heap[k]? = w.heap[k]?) (hs : w.heap.size ≤ w'.heap.size) : RawB w' o p ρ L b ps B P rv hv := by
 have s : q0P (fun _ => False) ρ ρ w w' := ⟨hs, fun k _ h2 _ => ⟨hk k h2, rfl⟩⟩
 exact ⟨(hk p (by rw [h.rp]; omega)).trans h.box, h.live.keep (hk B (by rw [h.rB]; omega)), h.store.step s id fun _ e => e, fun t ht => (h.txs t ht).step s id id id, h.recs.step s id id, h.hist.step s id id, h.rp, h.rB, fun k hk2 => ⟨(h.lo k hk2).1, Nat.lt_of_lt_of_le (h.lo k hk2).2 hs⟩⟩
theorem RawB.below (h : RawB w o p ρ L b ps B P rv hv) (hb : Below w.heap.size w w') : RawB w' o p ρ L b ps B P rv hv := h.keep (fun k hk => hb.block k (h.lo k hk).2) hb.size
theorem RawB.more (h : RawB w o p ρ L b ps B P rv hv) (ho : o ≤ w.heap.size) (hb : Below w.heap.size w w') : RawB w' o p (newR ρ w.heap.size w'.heap.size 6) L b ps B P rv hv := by
 have s : q0P (fun _ => False) ρ (newR ρ w.heap.size w'.heap.size 6) w w' := q0P.fresh hb 6
 have hp := q00 h.box
 have hB := h.live.lt
 refine ⟨(hb.block p hp).trans h.box, h.live.keep (hb.block B hB), h.store.step s id fun k e => ?_, fun t ht => (h.txs t ht).step s id id id, h.recs.step s id id, h.hist.step s id id, (q1f hp).trans h.rp, (q1f hB).trans h.rB, fun k hk => ?_⟩
 ·rcases q1b (show newR ρ w.heap.size w'.heap.size 6 k ≠ 0 by rw [e]; omega) with ⟨_, _, h6⟩ | h6
  ·rw [h6] at e; omega
  ·rw [← h6]; exact e
 ·rcases q1b hk with ⟨h1, h2, _⟩ | h6
  ·exact ⟨Nat.le_trans ho h1, h2⟩
  ·have := h.lo k (by rw [← h6]; exact hk)
   exact ⟨this.1, Nat.lt_of_lt_of_le this.2 hb.size⟩
theorem RawB.cell (h : RawB w o p ρ L b ps B P rv hv) (i : Nat) (u : Value) (hu : (boxB L ps B b.last b.event rv hv)[i]? = some u) : w.cell? ⟨p, i, none⟩ = some u := by
 rw [cell_of_row w p i _ _ _ h.box]
 exact hu
theorem RawB.frozen (h : RawB w o p ρ L b ps B P rv hv) (i : Nat) : w.frozen? ⟨p, i, none⟩ = false := q02 h.box i
theorem RawB.marksL (h : RawB w o p ρ L b ps B P rv hv) : w.cell? ⟨p, 3, none⟩ = some (.int .i64 L.marks) := h.cell 3 _ rfl
theorem RawB.recsL (h : RawB w o p ρ L b ps B P rv hv) : w.cell? ⟨p, 4, none⟩ = some (.int .i64 L.recs) := h.cell 4 _ rfl
theorem RawB.liveL (h : RawB w o p ρ L b ps B P rv hv) : w.cell? ⟨p, 5, none⟩ = some (.int .i64 L.live) := h.cell 5 _ rfl
theorem RawB.store_ (h : RawB w o p ρ L b ps B P rv hv) : w.cell? ⟨p, 7, none⟩ = some (ptrS ps) := h.cell 7 _ rfl
theorem RawB.live_ (h : RawB w o p ρ L b ps B P rv hv) : w.cell? ⟨p, 8, none⟩ = some (.map (some B)) := h.cell 8 _ rfl
theorem RawB.begun_ (h : RawB w o p ρ L b ps B P rv hv) : w.cell? ⟨p, 9, none⟩ = some (.int .i64 (b.last : Nat)) := h.cell 9 _ rfl
theorem RawB.events_ (h : RawB w o p ρ L b ps B P rv hv) : w.cell? ⟨p, 10, none⟩ = some (.int .i64 (b.event : Nat)) := h.cell 10 _ rfl
theorem RawB.recs_ (h : RawB w o p ρ L b ps B P rv hv) : w.cell? ⟨p, 11, none⟩ = some rv := h.cell 11 _ rfl
theorem RawB.hist_ (h : RawB w o p ρ L b ps B P rv hv) : w.cell? ⟨p, 12, none⟩ = some hv := h.cell 12 _ rfl
theorem qgY (w : World) : (zeroValue 114).run Tryz.prog w = .ok (.pointer none) w := by kernel_rfl
theorem RawB.look (h : RawB w o p ρ L b ps B P rv hv) (id : Int) : (Instr.lookup 90 (.map (some B)) (.int .i64 id) true).run Tryz.prog w = .ok (.tuple #[((ofT b id).map fun t => ptrS (P t.id).q).getD (.pointer none), .bool (ofT b id).isSome]) w := by
 have e := MapK.look (P := Tryz.prog) (t := 90) (kt := 3) (et := 114) h.live Tryz.underlying90 Tryz.underlying3 (qgY w) true id
 simp only [intK] at e
 rw [e]
 unfold q2L ofT
 cases (b.live.find? fun t => decide ((t.id : Int) = id)) <;> rfl
end
theorem qbW (b : q08) : lowT b = b.st.time ∨ ∃ t ∈ b.live, lowT b = t.began := by
 have key : ∀ (l : List TxS) (n : Nat), l.foldl (fun l t => min l t.began) n = n ∨ ∃ t ∈ l, l.foldl (fun l t => min l t.began) n = t.began := by
  intro l
  induction l with
  | nil => exact fun n => .inl rfl
  | cons x l ih =>
   intro n
   rw [List.foldl_cons]
   rcases ih (min n x.began) with h | ⟨t, ht, h⟩
   ·rcases Nat.le_total n x.began with h1 | h1
    ·exact .inl (by rw [h]; omega)
    ·exact .inr ⟨x, List.mem_cons_self .., by rw [h]; omega⟩
   ·exact .inr ⟨t, List.mem_cons_of_mem _ ht, h⟩
 exact key _ _
structure LowI (b : q08) (done : List Int) (n : Nat) : Prop where
 time : n ≤ b.st.time
 le : ∀ t ∈ b.live, (t.id : Int) ∈ done → n ≤ t.began
 some_ : n = b.st.time ∨ ∃ t ∈ b.live, n = t.began
theorem LowI.start (b : q08) : LowI b [] b.st.time := ⟨Nat.le_refl _, (fun _ _ h => by cases h), .inl rfl⟩
theorem LowI.step {b : q08} {done : List Int} {n : Nat} (h : LowI b done n) (hi : IdsT b.live) {t : TxS} (ht : t ∈ b.live) : LowI b (done ++ [(t.id : Int)]) (min n t.began) := by
 refine ⟨by have := h.time; omega, fun u hu hm => ?_, ?_⟩
 ·rcases List.mem_append.1 hm with hm | hm
  ·have := h.le u hu hm; omega
  ·rw [List.mem_singleton] at hm
   have e := q7L hi u hu t ht (by omega)
   subst e
   omega
 ·rcases Nat.le_total n t.began with h1 | h1
  ·rw [Nat.min_eq_left h1]; exact h.some_
  ·rw [Nat.min_eq_right h1]; exact .inr ⟨t, ht, rfl⟩
theorem LowI.done {b : q08} {done : List Int} {n : Nat} (h : LowI b done n) (hd : ∀ t ∈ b.live, (t.id : Int) ∈ done) : n = lowT b := by
 have h1 : n ≤ lowT b := by
  rcases qbW b with e | ⟨t, ht, e⟩
  ·rw [e]; exact h.time
  ·rw [e]; exact h.le t ht (hd t ht)
 have h2 : lowT b ≤ n := by
  rcases h.some_ with e | ⟨t, ht, e⟩
  ·rw [e]; exact q4C b
  ·rw [e]; exact q6p ht
 omega
def q4q (l : List Wr) : Prop := l.Pairwise fun a b => blt a.key b.key = true
theorem q7U {l : List Wr} (h : q0h [] l = 0) : q4q l := (q0M h).2
theorem q5B {l : List Wr} (h : q4q l) {x : Wr} (hx : x ∈ l) : l.find? (fun w => w.key == x.key) = some x := by
 induction l with
 | nil => cases hx
 | cons y l ih =>
  obtain ⟨h1, h2⟩ := List.pairwise_cons.1 h
  rw [List.find?_cons]
  rcases List.mem_cons.1 hx with rfl | hx
  ·simp
  ·have := q1j (h1 x hx)
   rw [show (y.key == x.key) = false by simpa using this]
   exact ih h2 hx
theorem q21 {l : List Wr} (h : q4q l) {k : KeyS} {x : Wr} : l.find? (fun w => w.key == k) = some x ↔ x ∈ l ∧ x.key = k := by
 constructor
 ·intro e
  exact ⟨List.mem_of_find?_eq_some e, by simpa using List.find?_some e⟩
 ·rintro ⟨hx, rfl⟩
  exact q5B h hx
theorem q2A {l : List Wr} {k : KeyS} : l.find? (fun w => w.key == k) = none ↔ ∀ x ∈ l, x.key ≠ k := by
 rw [List.find?_eq_none]
 constructor
 ·intro h x hx e
  exact h x hx (by simp [e])
 ·intro h x hx e
  exact h x hx (by simpa using e)
theorem q5H {l : List Wr} {w x : Wr} : x ∈ putW l w ↔ x = w ∨ (x ∈ l ∧ x.key ≠ w.key) := by
 unfold putW
 rw [List.mem_append, List.mem_append, List.mem_filter, List.mem_filter, List.mem_singleton]
 constructor
 ·rintro ((⟨h1, h2⟩ | rfl) | ⟨h1, h2⟩)
  ·exact .inr ⟨h1, q1j h2⟩
  ·exact .inl rfl
  ·exact .inr ⟨h1, fun e => q1j h2 e.symm⟩
 ·rintro (rfl | ⟨h1, h2⟩)
  ·exact .inl (.inr rfl)
  ·rcases q2c x.key w.key with g | g | g
   ·exact .inl (.inl ⟨h1, g⟩)
   ·exact absurd g h2
   ·exact .inr ⟨h1, g⟩
theorem q95 {l : List Wr} (h : q4q l) (w : Wr) : q4q (putW l w) := by
 unfold putW q4q
 rw [List.append_assoc, List.pairwise_append]
 refine ⟨List.Pairwise.filter _ h, ?_, fun x hx y hy => ?_⟩
 ·rw [List.pairwise_append]
  refine ⟨List.pairwise_singleton _ _, List.Pairwise.filter _ h, fun x hx y hy => ?_⟩
  rw [List.mem_singleton] at hx
  subst hx
  exact (List.mem_filter.1 hy).2
 ·have hx2 : blt x.key w.key = true := (List.mem_filter.1 hx).2
  rcases List.mem_append.1 hy with hy | hy
  ·rw [List.mem_singleton] at hy
   subst hy
   exact hx2
  ·exact q0p hx2 (List.mem_filter.1 hy).2
theorem qdY {l : List Wr} (h : q4q l) (w : Wr) (k : KeyS) : (putW l w).find? (fun x => x.key == k) = if k = w.key then some w else l.find? fun x => x.key == k := by
 by_cases e : k = w.key
 ·rw [if_pos e, e]
  exact (q21 (q95 h w)).2 ⟨q5H.2 (.inl rfl), rfl⟩
 ·rw [if_neg e]
  cases hf : l.find? (fun x => x.key == k) with
  | none =>
   rw [q2A] at hf ⊢
   intro x hx
   rcases q5H.1 hx with rfl | ⟨h1, _⟩
   ·exact fun e2 => e e2.symm
   ·exact hf x h1
  | some x =>
   rw [q21 h] at hf
   exact (q21 (q95 h w)).2 ⟨q5H.2 (.inr ⟨hf.1, by rw [hf.2]; exact e⟩), hf.2⟩
def q48 (l : List (KeyS × List UInt8)) : Prop := l.Pairwise fun a b => blt a.1 b.1 = true
theorem qb7 : ∀ {l m : List (KeyS × List UInt8)}, q48 l → q48 m → (∀ p, p ∈ l ↔ p ∈ m) → l = m
 | [], [], _, _, _ => rfl
 | [], y :: m, _, _, h => by have := (h y).2 (List.mem_cons_self ..); cases this
 | x :: l, [], _, _, h => by have := (h x).1 (List.mem_cons_self ..); cases this
 | x :: l, y :: m, hl, hm, h => by
  obtain ⟨h1, h2⟩ := List.pairwise_cons.1 hl
  obtain ⟨g1, g2⟩ := List.pairwise_cons.1 hm
  have e : x = y := by
   rcases List.mem_cons.1 ((h x).1 (List.mem_cons_self ..)) with e | hx
   ·exact e
   ·rcases List.mem_cons.1 ((h y).2 (List.mem_cons_self ..)) with e | hy
    ·exact e.symm
    ·have a1 := g1 x hx
     have a2 := h1 y hy
     rw [q1Z a1] at a2
     cases a2
  subst e
  rw [qb7 h2 g2 fun p => ?_]
  constructor
  ·intro hp
   rcases List.mem_cons.1 ((h p).1 (List.mem_cons_of_mem _ hp)) with e | hp2
   ·exact absurd (congrArg Prod.fst e).symm (q1j (h1 p hp))
   ·exact hp2
  ·intro hp
   rcases List.mem_cons.1 ((h p).2 (List.mem_cons_of_mem _ hp)) with e | hp2
   ·exact absurd (congrArg Prod.fst e).symm (q1j (g1 p hp))
   ·exact hp2
theorem qdR {l : List (KeyS × List UInt8)} {w : Wr} {p : KeyS × List UInt8} : p ∈ qc1 l w ↔ (p ∈ l ∧ p.1 ≠ w.key) ∨ (w.gone = false ∧ p = (w.key, w.dat)) := by
 unfold qc1
 rw [List.mem_append, List.mem_append, List.mem_filter, List.mem_filter]
 constructor
 ·rintro ((⟨h1, h2⟩ | h) | ⟨h1, h2⟩)
  ·exact .inl ⟨h1, q1j h2⟩
  ·cases hg : w.gone with
   | true => rw [hg] at h; simp at h
   | false => rw [hg] at h; simp at h; exact .inr ⟨rfl, h⟩
  ·exact .inl ⟨h1, fun e => q1j h2 e.symm⟩
 ·rintro (⟨h1, h2⟩ | ⟨h1, h2⟩)
  ·rcases q2c p.1 w.key with g | g | g
   ·exact .inl (.inl ⟨h1, g⟩)
   ·exact absurd g h2
   ·exact .inr ⟨h1, g⟩
  ·exact .inl (.inr (by rw [h1]; simp [h2]))
theorem qc2 {l : List (KeyS × List UInt8)} (h : q48 l) (w : Wr) : q48 (qc1 l w) := by
 unfold qc1 q48
 rw [List.append_assoc, List.pairwise_append]
 refine ⟨List.Pairwise.filter _ h, ?_, fun x hx y hy => ?_⟩
 ·rw [List.pairwise_append]
  refine ⟨by split <;> simp, List.Pairwise.filter _ h, fun x hx y hy => ?_⟩
  have hy2 := (List.mem_filter.1 hy).2
  split at hx
  ·cases hx
  ·rw [List.mem_singleton] at hx
   subst hx
   exact hy2
 ·have hx2 : blt x.1 w.key = true := (List.mem_filter.1 hx).2
  rcases List.mem_append.1 hy with hy | hy
  ·split at hy
   ·cases hy
   ·rw [List.mem_singleton] at hy
    subst hy
    exact hx2
  ·exact q0p hx2 (List.mem_filter.1 hy).2
theorem q7e (lo hi : KeyS) : ∀ (ws : List Wr) {l : List (KeyS × List UInt8)}, q48 l → q48 (q4h lo hi ws l)
 | [], _, h => h
 | w :: ws, l, h => by
  unfold q4h
  rw [List.foldl_cons]
  refine q7e lo hi ws ?_
  split
  ·exact qc2 h w
  ·exact h
theorem q8T (lo hi : KeyS) : ∀ (ws : List Wr), q4q ws → ∀ {l : List (KeyS × List UInt8)} {p : KeyS × List UInt8},
  p ∈ q4h lo hi ws l ↔ (p ∈ l ∧ ∀ w ∈ ws, hasS ⟨lo, hi⟩ w.key = true → p.1 ≠ w.key) ∨ ∃ w ∈ ws, hasS ⟨lo, hi⟩ w.key = true ∧ w.gone = false ∧ p = (w.key, w.dat)
 | [], _, l, p => by simp [q4h]
 | w :: ws, hr, l, p => by
  obtain ⟨h1, h2⟩ := List.pairwise_cons.1 hr
  have ih := q8T lo hi ws h2 (l := if hasS ⟨lo, hi⟩ w.key = true then qc1 l w else l) (p := p)
  unfold q4h at ih ⊢
  rw [List.foldl_cons, ih]
  have hne : ∀ x ∈ ws, w.key ≠ x.key := fun x hx => q1j (h1 x hx)
  by_cases hs : hasS ⟨lo, hi⟩ w.key = true
  ·rw [if_pos hs, qdR]
   constructor
   ·rintro (⟨⟨g1, g2⟩ | ⟨g1, rfl⟩, g3⟩ | ⟨x, hx, g⟩)
    ·exact .inl ⟨g1, fun x hx e => by
      rcases List.mem_cons.1 hx with rfl | hx
      ·exact g2
      ·exact g3 x hx e⟩
    ·exact .inr ⟨w, List.mem_cons_self .., hs, g1, rfl⟩
    ·exact .inr ⟨x, List.mem_cons_of_mem _ hx, g⟩
   ·rintro (⟨g1, g2⟩ | ⟨x, hx, g1, g2, rfl⟩)
    ·exact .inl ⟨.inl ⟨g1, g2 w (List.mem_cons_self ..) hs⟩, fun x hx => g2 x (List.mem_cons_of_mem _ hx)⟩
    ·rcases List.mem_cons.1 hx with rfl | hx
     ·exact .inl ⟨.inr ⟨g2, rfl⟩, fun y hy _ => hne y hy⟩
     ·exact .inr ⟨x, hx, g1, g2, rfl⟩
  ·rw [if_neg hs]
   constructor
   ·rintro (⟨g1, g3⟩ | ⟨x, hx, g⟩)
    ·exact .inl ⟨g1, fun x hx e => by
      rcases List.mem_cons.1 hx with rfl | hx
      ·exact absurd e hs
      ·exact g3 x hx e⟩
    ·exact .inr ⟨x, List.mem_cons_of_mem _ hx, g⟩
   ·rintro (⟨g1, g2⟩ | ⟨x, hx, g1, g2, rfl⟩)
    ·exact .inl ⟨g1, fun x hx => g2 x (List.mem_cons_of_mem _ hx)⟩
    ·rcases List.mem_cons.1 hx with rfl | hx
     ·exact absurd g1 hs
     ·exact .inr ⟨x, hx, g1, g2, rfl⟩
def q7O (ws : List Wr) (l : List (KeyS × List UInt8)) : List (KeyS × List UInt8) := l.filter fun p => !(ws.find? fun w => w.key == p.1).isSome
def q32 (lo hi : KeyS) (w : Wr) : Bool := !w.gone && hasS ⟨lo, hi⟩ w.key
theorem qga {lo hi : KeyS} {ws : List Wr} (hr : q4q ws) {l m : List (KeyS × List UInt8)} (hl : q48 l) (hin : ∀ p ∈ l, hasS ⟨lo, hi⟩ p.1 = true) (hm : q48 m)
  (h : ∀ p, p ∈ m ↔ p ∈ q7O ws l ∨ ∃ w ∈ ws, q32 lo hi w = true ∧ p = (w.key, w.dat)) : m = q4h lo hi ws l := by
 refine qb7 hm (q7e lo hi ws hl) fun p => ?_
 rw [h, q8T lo hi ws hr]
 have e1 : p ∈ q7O ws l ↔ p ∈ l ∧ ∀ w ∈ ws, hasS ⟨lo, hi⟩ w.key = true → p.1 ≠ w.key := by
  unfold q7O
  rw [List.mem_filter]
  constructor
  ·rintro ⟨h1, h2⟩
   refine ⟨h1, fun w hw _ e => ?_⟩
   have h3 : ws.find? (fun x => x.key == p.1) = none := by simpa using h2
   exact q2A.1 h3 w hw e.symm
  ·rintro ⟨h1, h2⟩
   refine ⟨h1, ?_⟩
   have h3 : ws.find? (fun x => x.key == p.1) = none := q2A.2 fun w hw e => h2 w hw (by rw [e]; exact hin p h1) e.symm
   rw [h3]
   rfl
 rw [e1]
 have e2 : ∀ w, q32 lo hi w = true ↔ hasS ⟨lo, hi⟩ w.key = true ∧ w.gone = false := fun w => by
  unfold q32
  cases w.gone <;> simp
 constructor
 ·rintro (g | ⟨w, hw, g, e⟩)
  ·exact .inl g
  ·exact .inr ⟨w, hw, ((e2 w).1 g).1, ((e2 w).1 g).2, e⟩
 ·rintro (g | ⟨w, hw, g1, g2, e⟩)
  ·exact .inl g
  ·exact .inr ⟨w, hw, (e2 w).2 ⟨g1, g2⟩, e⟩
theorem qg6 (lo hi k : KeyS) : inS lo hi k = hasS ⟨lo, hi⟩ k := rfl
def q4V (l : List RecS) : Prop := l.Pairwise fun a b => a.last ≤ b.last
theorem qa5 {l : List RecS} (h : q4V l) {low : Nat} (h0 : ∀ r, l.head? = some r → low < r.last) : q0c l low = l := by
 unfold q0c
 refine List.filter_eq_self.2 fun r hr => ?_
 cases l with
 | nil => cases hr
 | cons x l =>
  have h1 := h0 x rfl
  rcases List.mem_cons.1 hr with rfl | hr
  ·simpa using h1
  ·have := (List.pairwise_cons.1 h).1 r hr
   rw [decide_eq_true_iff]
   omega
theorem q9b {J : List Sp → List Sp → List Sp} (n : Nat) : ∀ (m : Nat) (l : List RecS), l.length ≤ m → q4V l → q4V (fitR J n l)
 | _, [], _, h => by unfold fitR; exact h
 | _, [x], _, h => by unfold fitR; exact h
 | 0, x :: y :: l, hm, _ => by simp at hm
 | m + 1, x :: y :: l, hm, h => by
  unfold fitR
  split
  ·refine q9b n m _ (by simp at hm ⊢; omega) ?_
   obtain ⟨h1, h2⟩ := List.pairwise_cons.1 h
   obtain ⟨h3, h4⟩ := List.pairwise_cons.1 h2
   have hxy := h1 y (List.mem_cons_self ..)
   refine List.pairwise_cons.2 ⟨fun r hr => ?_, h4⟩
   have := h3 r hr
   show max x.last y.last ≤ r.last
   omega
  ·exact h
theorem q38 {F : List Sp → List Sp} {L : LimT} {b : q08} (h : q4V b.recs) (t : TxS) : q4V (q27 F L b t).recs := q9b _ _ _ (Nat.le_refl _) (List.Pairwise.filter _ h)
theorem q8k {L : LimS} {st : PS} {l : List Wr} {low : Nat} (h : (q09 L st l low).2.2 = 0) : st.time ≤ (q09 L st l low).2.1 := by
 unfold q09 at h ⊢
 split at h
 ·rename_i e
  exact absurd h e
 ·rename_i e
  rw [if_neg e]
  split
  ·exact Nat.le_refl _
  ·rename_i e2
   rw [if_neg e2] at h
   split at h
   ·simp at h
   ·rename_i e3
    rw [if_neg e3]
    split
    ·exact Nat.le_succ _
    ·rename_i e4
     rw [if_neg e4] at h
     simp at h
theorem q9a {F : List Sp → List Sp} {M : Nat} {L : LimT} {b : q08} (ok : OkTx L M b) (h : q4V b.recs) (id : Int) : q4V (q0r F L b id).1.recs := by
 unfold q0r
 split
 ·exact h
 ·rename_i t _
  split
  ·exact q38 h t
  ·split
   ·exact q38 h t
   ·split
    ·exact q38 (b := ⟨(q09 L.s b.st (q06 b.st t) (lowT b)).1, b.live, b.recs, b.hist, b.last, b.event⟩) h t
    ·rename_i e
     refine q38 (b := ⟨_, b.live, b.recs ++ [_], _, b.last, b.event + 1⟩) ?_ t
     have h0 := q8k (Decidable.not_not.1 e)
     refine List.pairwise_append.2 ⟨h, List.pairwise_singleton _ _, fun x hx y hy => ?_⟩
     rw [List.mem_singleton] at hy
     subst hy
     have := (ok.recs x hx).last
     show x.last ≤ max _ 1
     omega
theorem qc8 {F : List Sp → List Sp} {M : Nat} {L : LimT} {b : q08} (ok : OkTx L M b) (h : q4V b.recs) (o : OpT) : q4V (q1g F L b o).1.recs := by
 unfold q1g
 split
 ·unfold q0N; split <;> exact h
 ·split
  ·unfold q16; split
   ·exact h
   ·split <;> exact h
  ·split
   ·unfold q1P; split
    ·exact h
    ·split <;> exact h
   ·split
    ·unfold q0J; split
     ·exact h
     ·split <;> exact h
    ·split
     ·exact q9a ok h o.id
     ·split
      ·unfold q1X; split
       ·exact h
       ·exact q38 h _
      ·split
       ·exact h
       ·exact h
theorem q6m : ∀ (l : List Wr), l.foldl (fun m w => q0a (m ++ [q0j w.key])) [] = q0a (l.map fun w => q0j w.key) := by
 have key : ∀ (l : List Wr) (m : List Sp), q0D m → l.foldl (fun m w => q0a (m ++ [q0j w.key])) m = q0a (m ++ l.map fun w => q0j w.key) := by
  intro l
  induction l with
  | nil =>
   intro m hm
   rw [List.map_nil, List.append_nil]
   exact q4f hm fun _ => rfl
  | cons w l ih =>
   intro m hm
   rw [List.foldl_cons, ih _ (q1L _)]
   refine q4f (q1L _) fun k => ?_
   rw [q3A]
   unfold inP
   rw [List.any_append, List.map_cons, List.any_append, List.any_cons]
   have := q3A (m ++ [q0j w.key]) k
   unfold inP at this
   rw [this, List.any_append, List.any_cons, List.any_nil, Bool.or_false, Bool.or_assoc]
 intro l
 have h := key l [] trivial
 rwa [List.nil_append] at h
theorem q7v (L : LimT) (l : List Wr) : q1F (FT L) l = fitI L.marks (q0a (l.map fun w => q0j w.key)) := by
 unfold q1F FT
 rw [q6m, ← q4f (q1L _) fun _ => rfl]
end Go.Proofs.YtdpbllacfljmoaaGreat
