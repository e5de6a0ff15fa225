import Derived.Test.YtdpbllacfljmoaaGreatZC06
import Derived.Test.YtdpbllacfljmoaaGreatZC10
import Derived.Deep.RegionHeld3
import Derived.KernelRfl
import Derived.Deep.LoopGhost
import Derived.Deep.DeepCutAuto
import Derived.IntWalk
import Derived.Test.YtdpbllacfljmoaaGreatZC00
import Derived.OwnWalk
import Derived.ArgAppend
import Derived.Deep.RegionLawGrows
import Derived.Test.YtdpbllacfljmoaaGreatZC03
import Derived.Maps.AppendAt
set_option maxRecDepth 100000
set_option maxHeartbeats 16000000
set_option linter.unusedVariables false
namespace Go.Proofs.YtdpbllacfljmoaaGreat
section
variable {F : List Sp → List Sp} {M : Nat}
end
section
variable {F : List Sp → List Sp} {M : Nat}
theorem qew {L : LimT} {b : q06} (h : OkTx L M b) (o : OpT) :
  (o.what = 4 ∧ (q0H F L b o).2.e = 0 ∧ (q0H F L b o).1.hist.length = b.hist.length + 1 ∧ (q0H F L b o).2.n = (q0H F L b o).1.st.time ∧ (q0H F L b o).1.st.time ≤ b.st.time + 1 ∧
    ((q0H F L b o).1.st.time = b.st.time → ∀ k, q0K (q0H F L b o).1.st.K k b.st.time = q0K b.st.K k b.st.time)) ∨
   (¬ (o.what = 4 ∧ (q0H F L b o).2.e = 0) ∧ (q0H F L b o).1.hist = b.hist ∧ (q0H F L b o).1.st.time = b.st.time ∧ ∀ k, q0K (q0H F L b o).1.st.K k b.st.time = q0K b.st.K k b.st.time) := by
 unfold q0H
 by_cases h0 : o.what = 0
 ·rw [if_pos h0]
  refine .inr ⟨fun e => by omega, ?_⟩
  unfold q0r
  split <;> exact ⟨rfl, rfl, fun _ => rfl⟩
 ·rw [if_neg h0]
  by_cases h1 : o.what = 1
  ·rw [if_pos h1]
   refine .inr ⟨fun e => by omega, ?_⟩
   unfold q1b
   cases ofT b o.id with
   | none => exact ⟨rfl, rfl, fun _ => rfl⟩
   | some t => simp only; split <;> exact ⟨rfl, rfl, fun _ => rfl⟩
  ·rw [if_neg h1]
   by_cases h2 : o.what = 2
   ·rw [if_pos h2]
    refine .inr ⟨fun e => by omega, ?_⟩
    unfold q1M
    cases ofT b o.id with
    | none => exact ⟨rfl, rfl, fun _ => rfl⟩
    | some t => simp only; split <;> exact ⟨rfl, rfl, fun _ => rfl⟩
   ·rw [if_neg h2]
    by_cases h3 : o.what = 3
    ·rw [if_pos h3]
     refine .inr ⟨fun e => by omega, ?_⟩
     unfold q0E
     cases ofT b o.id with
     | none => exact ⟨rfl, rfl, fun _ => rfl⟩
     | some t => simp only; split <;> exact ⟨rfl, rfl, fun _ => rfl⟩
    ·rw [if_neg h3]
     by_cases h4 : o.what = 4
     ·rw [if_pos h4]
      unfold q0h
      cases ht : ofT b o.id with
      | none => exact .inr ⟨(fun e => by cases e.2), rfl, rfl, fun _ => rfl⟩
      | some t =>
       obtain ⟨hm, _⟩ := q1e ht
       simp only
       split
       ·exact .inr ⟨(fun e => by cases e.2), rfl, rfl, fun _ => rfl⟩
       ·cases hj : q15 b.recs (askT F b.st t) with
        | none => exact .inr ⟨(fun e => by cases e.2), rfl, rfl, fun _ => rfl⟩
        | some out =>
         simp only
         have hcc := q1j L.s b.st (q04 b.st t) (lowT b)
         split
         ·rename_i he
          refine .inr ⟨fun e => he e.2, rfl, ?_⟩
          show (q09 L.s b.st (q04 b.st t) (lowT b)).1.time = b.st.time ∧ ∀ k, q0K (q09 L.s b.st (q04 b.st t) (lowT b)).1.K k b.st.time = q0K b.st.K k b.st.time
          rcases hcc with ⟨e, _⟩ | ⟨e, _⟩ | ⟨e, _⟩ | ⟨e, _⟩ | ⟨e, _⟩ <;> rw [e] at he ⊢
          ·exact ⟨rfl, fun _ => rfl⟩
          ·exact ⟨rfl, fun _ => rfl⟩
          ·exact ⟨rfl, fun _ => rfl⟩
          ·exact absurd rfl he
          ·exact ⟨q6m, fun k => q7B h.ok k⟩
         ·rename_i he
          have he2 : (q09 L.s b.st (q04 b.st t) (lowT b)).2.2 = 0 := Decidable.of_not_not he
          refine .inl ⟨h4, rfl, ?_, ?_⟩
          ·show (b.hist ++ [_]).length = b.hist.length + 1
           rw [List.length_append, List.length_singleton]
          ·show (q09 L.s b.st (q04 b.st t) (lowT b)).2.1 = (q09 L.s b.st (q04 b.st t) (lowT b)).1.time ∧ (q09 L.s b.st (q04 b.st t) (lowT b)).1.time ≤ b.st.time + 1 ∧
            ((q09 L.s b.st (q04 b.st t) (lowT b)).1.time = b.st.time → ∀ k, q0K (q09 L.s b.st (q04 b.st t) (lowT b)).1.K k b.st.time = q0K b.st.K k b.st.time)
           rcases hcc with ⟨e, hc⟩ | ⟨e, _⟩ | ⟨e, _⟩ | ⟨e, _⟩ | ⟨e, _⟩ <;> rw [e] at he2 ⊢
           ·exact absurd he2 hc
           ·exact ⟨rfl, Nat.le_succ _, fun _ _ => rfl⟩
           ·cases he2
           ·exact ⟨rfl, Nat.le_refl _, fun e2 => by have e3 : b.st.time + 1 = b.st.time := e2; omega⟩
           ·cases he2
     ·rw [if_neg h4]
      refine .inr ⟨fun e => h4 e.1, ?_⟩
      split
      ·unfold q1f
       cases ofT b o.id <;> exact ⟨rfl, rfl, fun _ => rfl⟩
      ·split
       ·exact ⟨rfl, rfl, fun k => q3p h.ok _ k⟩
       ·exact ⟨rfl, rfl, fun _ => rfl⟩
end
section
variable {F : List Sp → List Sp} {M : Nat}
theorem q7U {L : LimT} {b : q06} (h : OkTx L M b) {id : Int} {t : TxS} (ht : ofT b id = some t) (hb : t.began = b.st.time) : (q0h F L b id).2.e ≠ 100 ∧ (q0h F L b id).2.e ≠ 101 := by
 obtain ⟨hm, _⟩ := q1e ht
 have hclash : q55 b.st t = false := by
  cases hc : q55 b.st t
  ·rfl
  ·obtain ⟨w, hw, hd⟩ := List.any_eq_true.1 hc
   have h1 : q2v (q03 b.st.K w.key) ≤ b.st.time := q68 (h.ok.upto w.key)
   have h2 : t.began < q2v (q03 b.st.K w.key) := by simpa using hd
   omega
 have hahead : q2N (q0a b.recs (askT F b.st t).began) (askT F b.st t) = [] := by
  unfold q2N
  rw [List.filter_eq_nil_iff]
  intro a ha hme
  obtain ⟨h1, h2⟩ := List.mem_filter.1 ha
  have h3 : t.began < a.last := by
   have : decide ((askT F b.st t).began < a.last) = true := h2
   exact of_decide_eq_true this
  have hne : a.writes ≠ [] := fun e => by
   rw [e] at hme
   obtain ⟨k, _, hk⟩ := (q6c _ _).1 hme
   cases hk
  have := (h.recs a h1).wrote hne
  omega
 have hj : q15 b.recs (askT F b.st t) = some 0 := q9J hahead
 have hsc : q0i [] (q04 b.st t) = 0 := q54 (h.ws t hm) _
 unfold q0h
 rw [ht]
 simp only
 rw [if_neg (by rw [hclash]; simp), hj]
 simp only
 have hcc := q1j L.s b.st (q04 b.st t) (lowT b)
 split
 ·show (q09 L.s b.st (q04 b.st t) (lowT b)).2.2 ≠ 100 ∧ (q09 L.s b.st (q04 b.st t) (lowT b)).2.2 ≠ 101
  rcases hcc with ⟨e, hc⟩ | ⟨e, _⟩ | ⟨e, _⟩ | ⟨e, _⟩ | ⟨e, _⟩ <;> rw [e]
  ·exact absurd hsc hc
  ·exact ⟨(fun e => by cases e), (fun e => by cases e)⟩
  ·exact ⟨(fun e => by cases e), (fun e => by cases e)⟩
  ·exact ⟨(fun e => by cases e), (fun e => by cases e)⟩
  ·exact ⟨(fun e => by cases e), (fun e => by cases e)⟩
 ·exact ⟨(fun e => by cases e), (fun e => by cases e)⟩
def qea (b : q06) : Prop := ∀ d ∈ b.hist, 0 < d.end_
end
section
variable {F : List Sp → List Sp} {M : Nat}
theorem qd3 {L : LimT} {b : q06} {o : OpT} (ho : o.what ≠ 0) : ∀ t' ∈ (q0H F L b o).1.live, ∃ t ∈ b.live, t'.id = t.id ∧ t'.began = t.began := by
 have same : ∀ b' : q06, b'.live = b.live → ∀ t' ∈ b'.live, ∃ t ∈ b.live, t'.id = t.id ∧ t'.began = t.began := fun b' e t' h => ⟨t', e ▸ h, rfl, rfl⟩
 have mark : ∀ (u u' : TxS), u ∈ b.live → u'.id = u.id → u'.began = u.began → ∀ t' ∈ (setT b u').live, ∃ t ∈ b.live, t'.id = t.id ∧ t'.began = t.began := fun u u' hu e1 e2 t' h => by
  rcases q3P h with ⟨e, _⟩ | ⟨h, _⟩
  ·exact ⟨u, hu, by rw [e, e1], by rw [e, e2]⟩
  ·exact ⟨t', h, rfl, rfl⟩
 have ends : ∀ (b' : q06) (u : TxS), b'.live = b.live → ∀ t' ∈ (q2D F L b' u).live, ∃ t ∈ b.live, t'.id = t.id ∧ t'.began = t.began := fun b' u e t' h => by
  have h1 := (List.mem_filter.1 h).1
  rw [e] at h1
  exact ⟨t', h1, rfl, rfl⟩
 unfold q0H
 rw [if_neg ho]
 split
 ·unfold q1b
  cases hu : ofT b o.id with
  | none => exact same _ rfl
  | some u =>
   simp only
   split
   ·exact same _ rfl
   ·exact mark u _ (q1e hu).1 rfl rfl
 ·split
  ·unfold q1M
   cases hu : ofT b o.id with
   | none => exact same _ rfl
   | some u =>
    simp only
    split
    ·exact same _ rfl
    ·exact mark u _ (q1e hu).1 rfl rfl
  ·split
   ·unfold q0E
    cases hu : ofT b o.id with
    | none => exact same _ rfl
    | some u =>
     simp only
     split
     ·exact same _ rfl
     ·exact mark u _ (q1e hu).1 rfl rfl
   ·split
    ·unfold q0h
     cases hu : ofT b o.id with
     | none => exact same _ rfl
     | some u =>
      simp only
      split
      ·exact ends b u rfl
      ·split
       ·exact ends b u rfl
       ·split
        ·exact ends _ u rfl
        ·exact ends _ u rfl
    ·split
     ·unfold q1f
      cases hu : ofT b o.id with
      | none => exact same _ rfl
      | some u => exact ends b u rfl
     ·split
      ·exact same _ rfl
      ·exact same _ rfl
def q4Y (cnt : Nat → Nat) (b : q06) : Prop := ∀ t ∈ b.live, cnt t.id ≤ b.hist.length ∧ (cnt t.id = b.hist.length → t.began = b.st.time)
theorem qb2 {L : LimT} {b : q06} {cnt : Nat → Nat} (h : OkTx L M b) (hc : q4Y cnt b) {o : OpT} (ho : o.what ≠ 0) : q4Y cnt (q0H F L b o).1 := fun t' ht' => by
 obtain ⟨t, ht, e1, e2⟩ := qd3 ho t' ht'
 obtain ⟨h1, h2⟩ := hc t ht
 rw [e1, e2]
 rcases qew (F := F) h o with ⟨_, _, k1, _⟩ | ⟨_, k1, k2, _⟩
 ·exact ⟨by omega, fun e => by omega⟩
 ·rw [k1, k2]
  exact ⟨h1, h2⟩
theorem q9e {L : LimT} {b : q06} {cnt : Nat → Nat} (h : OkTx L M b) (hc : q4Y cnt b) : q4Y (fun i => if i = b.last + 1 then b.hist.length else cnt i) (q0r L b).1 := by
 have old : ∀ t ∈ b.live, (if t.id = b.last + 1 then b.hist.length else cnt t.id) = cnt t.id := fun t ht => by
  have := (h.last t ht).2
  rw [if_neg (by omega)]
 unfold q0r
 split
 ·intro t ht
  show (if t.id = b.last + 1 then b.hist.length else cnt t.id) ≤ _ ∧ ((if t.id = b.last + 1 then b.hist.length else cnt t.id) = _ → _)
  rw [old t ht]
  exact hc t ht
 ·intro t ht
  show (if t.id = b.last + 1 then b.hist.length else cnt t.id) ≤ b.hist.length ∧ ((if t.id = b.last + 1 then b.hist.length else cnt t.id) = b.hist.length → t.began = b.st.time)
  rcases List.mem_append.1 ht with ht | ht
  ·rw [old t ht]
   exact hc t ht
  ·rw [List.mem_singleton] at ht
   subst ht
   rw [if_pos rfl]
   exact ⟨Nat.le_refl _, fun _ => rfl⟩
theorem q80 {L : LimT} {b : q06} {cnt : Nat → Nat} (h : OkTx L M b) (hc : q4Y cnt b) {id : Nat} (he : cnt id = b.hist.length) : (q0h F L b (id : Int)).2.e ≠ 100 ∧ (q0h F L b (id : Int)).2.e ≠ 101 := by
 cases ht : ofT b (id : Int) with
 | none =>
  unfold q0h
  rw [ht]
  exact ⟨(fun e => by cases e), (fun e => by cases e)⟩
 | some t =>
  obtain ⟨hm, hi⟩ := q1e ht
  have e : t.id = id := by omega
  exact q7U h ht ((hc t hm).2 (by rw [e]; exact he))
theorem qcw {L : LimT} {b : q06} (h : qea b) (o : OpT) : qea (q0H F L b o).1 := by
 have same : ∀ b' : q06, b'.hist = b.hist → qea b' := fun b' e d hd => h d (e ▸ hd)
 unfold q0H
 split
 ·unfold q0r
  split <;> exact same _ rfl
 ·split
  ·unfold q1b
   cases ofT b o.id with
   | none => exact same _ rfl
   | some u => simp only; split <;> exact same _ rfl
  ·split
   ·unfold q1M
    cases ofT b o.id with
    | none => exact same _ rfl
    | some u => simp only; split <;> exact same _ rfl
   ·split
    ·unfold q0E
     cases ofT b o.id with
     | none => exact same _ rfl
     | some u => simp only; split <;> exact same _ rfl
    ·split
     ·unfold q0h
      cases ofT b o.id with
      | none => exact same _ rfl
      | some u =>
       simp only
       split
       ·exact same _ rfl
       ·split
        ·exact same _ rfl
        ·split
         ·exact same _ rfl
         ·intro d hd
          rcases List.mem_append.1 (show d ∈ b.hist ++ [_] from hd) with hd | hd
          ·exact h d hd
          ·rw [List.mem_singleton] at hd
           subst hd
           exact Nat.succ_pos _
     ·split
      ·unfold q1f
       cases ofT b o.id <;> exact same _ rfl
      ·split <;> exact same _ rfl
end
open Go.RowKit
theorem qbv {St : q2p} (K : TxnC St) (w : World) : ∀ W, Below w.heap.size w W → Calls Tryz.prog 12 #[] W fun r w' => r = .returned (.bool true) ∧ Below w.heap.size w w' := fun W hb =>
 (qd2 K W).mono fun _ _ q => ⟨q.1, hb.trans (q.2.mono hb.size)⟩
theorem qcy {w : World} {l : List OpT} {A : Option Addr} {c : Nat} (h : ChOT w w.heap.size A c l) : ∀ W, Below w.heap.size w W → Calls Tryz.prog 13 #[.slice A l.length c] W fun r w' => r = .returned (.bool (fewT l)) ∧ Below w.heap.size w w' := fun W hb =>
 (qex l A c w.heap.size W (h.below hb (Nat.le_refl _) (Nat.le_refl _)) hb.size).mono fun _ _ q => ⟨q.1, hb.trans (q.2.mono hb.size)⟩
theorem qbZ (w : World) : ∀ W, Below w.heap.size w W → Calls Tryz.prog 36 #[] W fun r w' => r = .returned (limT BigT) ∧ Below w.heap.size w w' := fun W hb =>
 (q7e W).mono fun _ _ q => ⟨q.1, hb.trans (q.2.mono hb.size)⟩
theorem qef {L : LimT} {b : q06} {M : Nat} (h : OkTx L M b) (hf : ¬ L.live ≤ (b.live.length : Int)) : (q0r L b).2 = ⟨b.last + 1, 0, [], false, []⟩ ∧ ofT (q0r L b).1 ((b.last + 1 : Nat) : Int) = some ⟨b.last + 1, b.st.time, b.event + 1, [], []⟩ := by
 unfold q0r
 rw [if_neg hf]
 refine ⟨rfl, ?_⟩
 unfold ofT
 simp only
 rw [List.find?_append, List.find?_eq_none.2 (fun t ht => by
  have := (h.last t ht).2
  simp only [decide_eq_true_iff]
  omega)]
 simp
theorem qcI {L : LimT} {b : q06} (hf : L.live ≤ (b.live.length : Int)) : q0r L b = (b, errT 5) := by
 unfold q0r
 rw [if_pos hf]
open Go.RowKit
open Go
section
variable {P : Program} {md : Region.Mode} {Q : Exit → Act → World → Prop} {S S' : World → Prop} {l : List Oper}
theorem q8U {i fuel : Nat} {oi : Oper} {v : Value} {listed : Array Bool} {a : Act} {w : World} (hi : l[i]? = some oi)
  (hs : Region.noSelect l.toArray = true) (hf : Region.free md l.toArray listed i = true) (hr : (Region.ready md l.toArray listed).contains i = true)
  (hQ : ∀ c a w, Q (.panic c) (a.put oi.dst v) w → Q (.panic c) a w) (hw : Region.wanted oi (yielded l.toArray a.tmps) = true) (hy : ∀ w, S w → (execOp a.eval oi).run P w = .ok (.value v) w) (hS : S w)
  (h : wpAnyH P md l.toArray Q S fuel (listed.setIfInBounds i true) (a.put oi.dst v) w) : wpAnyH P md l.toArray Q S (fuel + 1) listed a w :=
 wpAnyH_take (by simpa using hi) hs hf hr hQ (Or.inl ⟨hw, hy⟩) hS h
theorem qdK {i fuel : Nat} {o : Oper} {listed : Array Bool} {a : Act} {w : World} (hr : Region.ready md l.toArray listed = [i]) (ho : l[i]? = some o)
  (h : ∀ K' : Act → World → Prop, Shut (∀ a w, S w → (S w → wpAnyH P md l.toArray Q S fuel (listed.setIfInBounds i true) a w) → K' a w) → if Region.wanted o (yielded l.toArray a.tmps) = true then Oper.wp P o a w K' Q else K' (a.put o.dst undef) w) :
  wpAnyH P md l.toArray Q S (fuel + 1) listed a w :=
 wpAnyH_ready hr (by simp) (AllReadyH.cons (by simpa using ho) h AllReadyH.nil)
end
section
variable {P : Program} {md : Region.Mode} {Q : Exit → Act → World → Prop} {S : World → Prop} {l : List Oper}
theorem q26 {i j fuel : Nat} {o o' : Oper} {listed : Array Bool} {a : Act} {w : World} (hr : Region.ready md l.toArray listed = [i, j]) (ho : l[i]? = some o) (ho' : l[j]? = some o')
  (h : ∀ K' : Act → World → Prop, Shut (∀ a w, S w → (S w → wpAnyH P md l.toArray Q S fuel (listed.setIfInBounds i true) a w) → K' a w) → if Region.wanted o (yielded l.toArray a.tmps) = true then Oper.wp P o a w K' Q else K' (a.put o.dst undef) w)
  (h' : ∀ K' : Act → World → Prop, Shut (∀ a w, S w → (S w → wpAnyH P md l.toArray Q S fuel (listed.setIfInBounds j true) a w) → K' a w) → if Region.wanted o' (yielded l.toArray a.tmps) = true then Oper.wp P o' a w K' Q else K' (a.put o'.dst undef) w) :
  wpAnyH P md l.toArray Q S (fuel + 1) listed a w :=
 wpAnyH_ready hr (by simp) (AllReadyH.cons (by simpa using ho) h (AllReadyH.cons (by simpa using ho') h' AllReadyH.nil))
end
section
variable {P : Program} {md : Region.Mode} {Q : Exit → Act → World → Prop} {S : World → Prop} {l : List Oper}
theorem tkH {i fuel : Nat} {oi : Oper} {v : Value} {listed : Array Bool} {a : Act} {w : World} (hy : ∀ w, S w → (execOp a.eval oi).run P w = .ok (.value v) w) (h : wpAnyH P md l.toArray Q S fuel (listed.setIfInBounds i true) (a.put oi.dst v) w)
  (hi : l[i]? = some oi := by rfl) (hs : Region.noSelect l.toArray = true := by kernel_rfl) (hf : Region.free md l.toArray listed i = true := by kernel_rfl) (hr : (Region.ready md l.toArray listed).contains i = true := by kernel_rfl)
  (hQ : ∀ c a w, Q (.panic c) (a.put oi.dst v) w → Q (.panic c) a w := by exact fun _ _ _ h => h) (hw : Region.wanted oi (yielded l.toArray a.tmps) = true := by rfl) (hS : S w := by assumption) : wpAnyH P md l.toArray Q S (fuel + 1) listed a w :=
 q8U hi hs hf hr hQ hw hy hS h
end
section
variable {P : Program} {md : Region.Mode} {Q : Exit → Act → World → Prop} {S : World → Prop} {l : List Oper}
theorem tkS {i fuel : Nat} {oi : Oper} {v : Value} {listed : Array Bool} {a : Act} {w : World} (h : wpAnyH P md l.toArray Q S fuel (listed.setIfInBounds i true) (a.put oi.dst v) w)
  (hi : l[i]? = some oi := by rfl) (hs : Region.noSelect l.toArray = true := by kernel_rfl) (hf : Region.free md l.toArray listed i = true := by kernel_rfl) (hr : (Region.ready md l.toArray listed).contains i = true := by kernel_rfl)
  (hQ : ∀ c a w, Q (.panic c) (a.put oi.dst v) w → Q (.panic c) a w := by exact fun _ _ _ h => h) (hw : Region.wanted oi (yielded l.toArray a.tmps) = true := by rfl) (hS : S w := by assumption)
  (hy : ∀ w, S w → (execOp a.eval oi).run P w = .ok (.value v) w := by intro w _; go_simp <;> with_reducible rfl) : wpAnyH P md l.toArray Q S (fuel + 1) listed a w :=
 q8U hi hs hf hr hQ hw hy hS h
theorem stH {i fuel : Nat} {o : Oper} {listed : Array Bool} {a : Act} {w : World}
  (h : ∀ K' : Act → World → Prop, Shut (∀ a w, S w → (S w → wpAnyH P md l.toArray Q S fuel (listed.setIfInBounds i true) a w) → K' a w) → if Region.wanted o (yielded l.toArray a.tmps) = true then Oper.wp P o a w K' Q else K' (a.put o.dst undef) w)
  (ho : l[i]? = some o := by rfl) (hr : Region.ready md l.toArray listed = [i] := by kernel_rfl) : wpAnyH P md l.toArray Q S (fuel + 1) listed a w := qdK hr ho h
end
theorem qA {α : Type} (xs : List α) (i : Nat) (a : α) : xs.toArray.setIfInBounds i a = (xs.set i a).toArray := by simp
theorem qB {α : Type} (x : α) (xs : List α) (a : α) : (x :: xs).set 0 a = a :: xs := rfl
theorem qC {α : Type} (x : α) (xs : List α) (n : Nat) (a : α) : (x :: xs).set (n + 1) a = x :: xs.set n a := rfl
open Go.RowKit
theorem qfy {w : World} {h : Nat} {t : TypeId} {a0 a1 a2 a3 a4 : Value} (hb : w.heap[h]? = some (.cells #[a0, a1, a2, a3, a4] t (0, 0))) : w.cell? ⟨h, 0, none⟩ = some a0 ∧ w.cell? ⟨h, 1, none⟩ = some a1 ∧ w.cell? ⟨h, 2, none⟩ = some a2 ∧ w.cell? ⟨h, 3, none⟩ = some a3 ∧ w.cell? ⟨h, 4, none⟩ = some a4 :=
 ⟨cell_of_row w h 0 _ _ _ hb, cell_of_row w h 1 _ _ _ hb, cell_of_row w h 2 _ _ _ hb, cell_of_row w h 3 _ _ _ hb, cell_of_row w h 4 _ _ _ hb⟩
namespace txnNoEffect
end txnNoEffect
open Go.RowKit
section
variable {α : Type} {k : Nat} {cs : α → List Value}
theorem qeJ {P : Program} (w : World) {ops : Array Oper} {rest : List Oper} {o : Oper} {a : Act} {Q : Exit → Act → World → Prop} (hgd : o.guard = none) (l c : Operand) (t e : TypeId) (bytes : Nat)
  (hI : q1R P e k bytes) (ht : P.underlying t = some (.slice e)) (ho : o.op = .makeSlice t l c)
  (n : Nat) (kl kc : IntKind) (C : Int) (hl : a.eval l = .int kl 0) (hc : a.eval c = .int kc C) (hC : C = (n : Int)) (hn : n ≤ maxLen) (hb : bytes * n ≤ 281474976710656)
  (h : ∀ w', OwnG e k cs w' w.heap.size (.slice (some ⟨w.heap.size, 0, none⟩) 0 n) ([] : List α) → w.grownBy w' none → wpList P ops Q rest (a.put o.dst (.slice (some ⟨w.heap.size, 0, none⟩) 0 n)) w') : wpList P ops Q (o :: rest) a w := by
 obtain ⟨i, z, hi0, hz0, hzs, hz2, hz3⟩ := hI
 refine wpList_make_own w hgd l c t ho w.heap.size e i z k ht hi0 hz0 hz2 kl kc C n hl hc hC (by rw [hz3]; exact hb) hn (Nat.le_refl _) ?_
 intro w' h1 h2
 exact h w' h1 h2
theorem q5B {P : Program} (w : World) {ops : Array Oper} {rest : List Oper} {o : Oper} {a : Act} {Q : Exit → Act → World → Prop} (hgd : o.guard = none) (s x : Operand) (t e : TypeId) (bytes : Nat)
  (hF : q12 k cs) (hI : q1R P e k bytes) (ht : P.underlying t = some (.slice e)) (ho : o.op = .call { callee := .builtin .append, args := #[s, x], argTypes := #[t, t] })
  (base g n cap : Nat) (l : List α) (hs : a.eval s = .slice (some ⟨g, 0, none⟩) n cap) (hn : n = l.length) (hown : OwnG e k cs w base (.slice (some ⟨g, 0, none⟩) n cap) l)
  (lo up : Nat) (ad : Addr) (m c : Nat) (m' : List α) (hx : a.eval x = .slice (some ad) m c) (hm : m = m'.length) (hr : RowG cs w lo up (some ad) m')
  (hroom : n + m ≤ cap)
  (h : ∀ w', OwnG e k cs w' base (.slice (some ⟨g, 0, none⟩) (n + m) cap) (l ++ m') → w.grownBy w' (some g) → wpList P ops Q rest (a.put o.dst (.slice (some ⟨g, 0, none⟩) (n + m) cap)) w') : wpList P ops Q (o :: rest) a w := by
 subst hm hn
 obtain ⟨i, z, hi0, hz0, hzs, hz2, hz3⟩ := hI
 refine wpList_append_fits w hgd s x t ho base e i k ht hi0 hz2 g l.length cap (q0g cs l) hs hown ad m'.length c (q0g cs m') hx (hF.flat_len m') ?_ (hF.flat_one m') hroom ?_
 ·intro j u hu
  have h0 : 0 < m'.length := by
   have h1 := (List.getElem?_eq_some_iff.1 hu).1
   rw [hF.flat_len] at h1
   exact Nat.pos_of_ne_zero fun h => by rw [h] at h1; omega
  obtain ⟨b, o', hA, _, _, hc⟩ := hr h0
  injection hA with hA
  subst hA
  rw [q0M]
  exact hc j u hu
 ·intro w' h1 h2
  refine h w' ?_ h2
  unfold OwnG
  rw [List.length_append, q13]
  exact h1
end
open Go.RowKit
section
variable {α : Type} {k : Nat} {cs : α → List Value}
theorem q0N {P : Program} (w : World) {ops : Array Oper} {rest : List Oper} {o : Oper} {a : Act} {Q : Exit → Act → World → Prop} (hgd : o.guard = none) (s x : Operand) (t e : TypeId) (bytes : Nat)
  (hF : q12 k cs) (hI : q1R P e k bytes) (ht : P.underlying t = some (.slice e)) (ho : o.op = .call { callee := .builtin .append, args := #[s, x], argTypes := #[t, t] })
  (base : Nat) (v : Value) (l : List α) (hs : a.eval s = v) (hown : OwnG e k cs w base v l)
  (lo up : Nat) (ad : Addr) (m c : Nat) (m' : List α) (hx : a.eval x = .slice (some ad) m c) (hm : m = m'.length) (hr : RowG cs w lo up (some ad) m')
  (h63 : l.length + m'.length ≤ maxLen) (hby : (l.length + m'.length) * bytes ≤ 140737488355328) (hbase : base ≤ w.heap.size)
  (h : ∀ v' w', OwnG e k cs w' base v' (l ++ m') → w.grownBy w' v.ownBlock → (v'.ownBlock = v.ownBlock ∨ v'.ownBlock = some w.heap.size) → wpList P ops Q rest (a.put o.dst v') w') : wpList P ops Q (o :: rest) a w := by
 subst hm
 obtain ⟨i, z, hi0, hz0, hzs, hz2, hz3⟩ := hI
 refine wpList_append_own_at (P := P) (w := w) hgd s x t ho base e i z k bytes ht hi0 hz0 hz2 hz3 hzs hF.pos v l.length (q0g cs l) hs hown ad m'.length c (q0g cs m') hx (hF.flat_len m') ?_ (hF.flat_one m') h63 hby hbase ?_
 ·intro j u hu
  have h0 : 0 < m'.length := by
   have h1 := (List.getElem?_eq_some_iff.1 hu).1
   rw [hF.flat_len] at h1
   exact Nat.pos_of_ne_zero fun h => by rw [h] at h1; omega
  obtain ⟨b, o', hA, _, _, hc⟩ := hr h0
  injection hA with hA
  subst hA
  rw [q0M]
  exact hc j u hu
 ·intro v' w' h1 h2 _ h4
  refine h v' w' ?_ h2 h4
  unfold OwnG
  rw [List.length_append, q13]
  exact h1
theorem q7E {P : Program} (w : World) (t ty e : TypeId) (bytes : Nat) (hF : q12 k cs) (hI : q1R P e k bytes) (ht : P.underlying t = some (.slice e))
  (base : Nat) (v : Value) (l : List α) (hown : OwnG e k cs w base v l) (lo up : Nat) (ad : Addr) (c : Nat) (m' : List α) (hr : RowG cs w lo up (some ad) m')
  (h63 : l.length + m'.length ≤ maxLen) (hby : (l.length + m'.length) * bytes ≤ 140737488355328) (hbase : base ≤ w.heap.size) :
  ∃ v' w', (Builtin.append_ #[t, t] ty #[v, .slice (some ad) m'.length c]).run P w = .ok v' w' ∧ OwnG e k cs w' base v' (l ++ m') ∧ w.grownBy w' v.ownBlock ∧ (v'.ownBlock = v.ownBlock ∨ v'.ownBlock = some w.heap.size) := by
 obtain ⟨i, z, hi0, hz0, hzs, hz2, hz3⟩ := hI
 obtain ⟨v', w', h1, h2, h3, _, h5⟩ := run_append_own_at (P := P) w base t ty e i z k bytes ht hi0 hz0 hz2 hz3 hzs hF.pos v l.length (q0g cs l) hown ad m'.length c (q0g cs m') (hF.flat_len m') (by
  intro j u hu
  have h0 : 0 < m'.length := by
   have h1 := (List.getElem?_eq_some_iff.1 hu).1
   rw [hF.flat_len] at h1
   exact Nat.pos_of_ne_zero fun h => by rw [h] at h1; omega
  obtain ⟨b, o', hA, _, _, hc⟩ := hr h0
  injection hA with hA
  subst hA
  rw [q0M]
  exact hc j u hu) (hF.flat_one m') h63 hby hbase
 refine ⟨v', w', h1, ?_, h3, h5⟩
 unfold OwnG
 rw [List.length_append, q13]
 exact h2
end
theorem q5k {P : Program} {w w' : World} {ops : Array Oper} {rest : List Oper} {o : Oper} {a : Act} {Q : Exit → Act → World → Prop} (hgd : o.guard = none) (s x : Operand) (t : TypeId)
  (ho : o.op = .call { callee := .builtin .append, args := #[s, x], argTypes := #[t, t] }) (va vx v' : Value) (hs : a.eval s = va) (hx : a.eval x = vx) (hr : (Builtin.append_ #[t, t] o.type #[va, vx]).run P w = .ok v' w')
  (h : wpList P ops Q rest (a.put o.dst v') w') : wpList P ops Q (o :: rest) a w := by
 refine wpList_plain hgd fun K hK => ?_
 unfold Oper.wp execOp
 simp only [ho, resolve, invoke, builtin, Sem.run_bind, Sem.run_pure, Result.andThen_ok, List.map_toArray, List.map_cons, List.map_nil, hs, hx, hr]
 exact hK _ _ h
def RdD (w : World) (D : Nat → Prop) (A : Option Addr) (l : List UInt8) : Prop :=
 0 < l.length → ∃ b o, A = some ⟨b, o, none⟩ ∧ D b ∧ ∀ j (hj : j < l.length), w.cell? ⟨b, o + j, none⟩ = some (.int .u8 ((l[j]'hj).toNat : Int))
def SlD (w : World) (D : Nat → Prop) (A : Option Addr) (c : Nat) (l : List UInt8) : Prop := l.length ≤ c ∧ c ≤ maxLen ∧ (A = none → c = 0) ∧ RdD w D A l
section
variable {w w' : World} {D D' : Nat → Prop} {A : Option Addr} {c lo hi : Nat} {l : List UInt8}
theorem SlD.step (h : SlD w D A c l) (hk : ∀ b, D b → w'.heap[b]? = w.heap[b]? ∧ D' b) : SlD w' D' A c l :=
 ⟨h.1, h.2.1, h.2.2.1, fun hn => by
  obtain ⟨b, o, e, h1, h2⟩ := h.2.2.2 hn
  exact ⟨b, o, e, (hk b h1).2, fun j hj => (World.cell?_of_block (a := ⟨b, o + j, none⟩) (hk b h1).1).trans (h2 j hj)⟩⟩
theorem SlI.slD (h : SlI w lo hi A c l) (hd : ∀ b, lo ≤ b → b < hi → D b) : SlD w D A c l :=
 ⟨h.1, h.2.1, h.2.2.1, fun hn => by
  obtain ⟨b, o, e, h1, h2, h3⟩ := h.2.2.2 hn
  exact ⟨b, o, e, hd b h1 h2, h3⟩⟩
theorem SlD.slI (h : SlD w D A c l) (hd : ∀ b, D b → lo ≤ b ∧ b < hi) : SlI w lo hi A c l :=
 ⟨h.1, h.2.1, h.2.2.1, fun hn => by
  obtain ⟨b, o, e, h1, h2⟩ := h.2.2.2 hn
  exact ⟨b, o, e, (hd b h1).1, (hd b h1).2, h2⟩⟩
end
end Go.Proofs.YtdpbllacfljmoaaGreat
