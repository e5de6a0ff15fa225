import Derived.Test.YtdpbllacfljmoaaGreatZF06
set_option maxRecDepth 100000
set_option maxHeartbeats 16000000
set_option linter.unusedVariables false
namespace Go.Proofs.YtdpbllacfljmoaaGreat
theorem q5V : ∀ {l : List Wr} {last : KeyS}, (∀ w ∈ l, blt last w.key = true ∧ w.key.length ≤ 256 ∧ w.dat.length ≤ 4096 ∧ q4H ⟨0, w.gone, w.dat⟩ = true) → l.Pairwise (fun a b => blt a.key b.key = true) → q0h last l = 0
 | [], _, _, _ => rfl
 | w :: l, last, h, hp => by
  obtain ⟨h1, h2, h3, h4⟩ := h w (List.mem_cons_self ..)
  obtain ⟨p1, p2⟩ := List.pairwise_cons.1 hp
  unfold q0h
  rw [if_neg (by omega), if_neg (by rw [h1, h4]; simp)]
  exact q5V (fun x hx => ⟨p1 x hx, (h x (List.mem_cons_of_mem _ hx)).2⟩) p2
theorem q8j {l : List Wr} (h : q0h [] l = 0) (p : Wr → Bool) : q0h [] (l.filter p) = 0 := by
 obtain ⟨h1, h2⟩ := q0M h
 exact q5V (fun w hw => h1 w (List.mem_filter.1 hw).1) (h2.filter _)
theorem qdZ {l : List Wr} {w : Wr} (h : q0h [] l = 0) (hw : q0h [] [w] = 0) : q0h [] (putW l w) = 0 := by
 obtain ⟨h1, h2⟩ := q0M h
 obtain ⟨g1, _⟩ := q0M hw
 have gw := g1 w (List.mem_cons_self ..)
 refine q5V (fun x hx => ?_) ?_
 ·unfold putW at hx
  rcases List.mem_append.1 hx with hx | hx
  ·rcases List.mem_append.1 hx with hx | hx
   ·exact h1 x (List.mem_filter.1 hx).1
   ·rw [List.mem_singleton] at hx
    subst hx
    exact gw
  ·exact h1 x (List.mem_filter.1 hx).1
 ·unfold putW
  rw [List.append_assoc, List.pairwise_append]
  refine ⟨h2.filter _, ?_, fun x hx y hy => ?_⟩
  ·rw [List.pairwise_append]
   refine ⟨List.pairwise_singleton _ _, h2.filter _, fun x hx y hy => ?_⟩
   rw [List.mem_singleton] at hx
   subst hx
   exact (List.mem_filter.1 hy).2
  ·have hx2 : blt x.key w.key = true := (List.mem_filter.1 hx).2
   rcases List.mem_append.1 hy with hy | hy
   ·rw [List.mem_singleton] at hy
    subst hy
    exact hx2
   ·exact q0p hx2 (List.mem_filter.1 hy).2
structure FitC (F : List Sp → List Sp) (M : Nat) : Prop where
 norm : ∀ l, q0D (F l)
 has : ∀ l k, inP l k = true → inP (F l) k = true
 len : ∀ l, (F l).length ≤ M
 nil : F [] = []
section
variable {F : List Sp → List Sp} {M : Nat}
theorem FitC.join (h : FitC F M) : qgw (q8P F) :=
 ⟨fun _ _ => h.norm _, fun a b k hk => h.has _ k (by rw [q3A]; unfold inP at *; rw [List.any_append, hk, Bool.true_or]), fun a b k hk => h.has _ k (by rw [q3A]; unfold inP at *; rw [List.any_append, hk, Bool.or_true])⟩
theorem qaN {J : List Sp → List Sp → List Sp} (p : RecS → Prop) (hj : ∀ a b, p a → p b → p (q2B J a b)) (n : Nat) : ∀ (m : Nat) (l : List RecS), l.length ≤ m → (∀ r ∈ l, p r) → ∀ r ∈ fitR J n l, p r
 | _, [], _, h => by unfold fitR; exact h
 | _, [x], _, h => by unfold fitR; exact h
 | 0, x :: y :: l, h, _ => by simp at h
 | m + 1, x :: y :: l, hm, h => by
  unfold fitR
  split
  ·exact qaN p hj n m _ (by simp at hm ⊢; omega) fun r hr => by
    rcases List.mem_cons.1 hr with e | hr
    ·rw [e]
     exact hj x y (h x (List.mem_cons_self ..)) (h y (List.mem_cons_of_mem _ (List.mem_cons_self ..)))
    ·exact h r (List.mem_cons_of_mem _ (List.mem_cons_of_mem _ hr))
  ·exact h
theorem qd5 {J : List Sp → List Sp → List Sp} (n : Nat) (l : List RecS) : (fitR J n l).length ≤ max n 1 := by
 by_cases h : l.length ≤ max n 1
 ·rw [q3R h]; exact h
 ·rw [qaO n _ l (Nat.le_refl _) (by omega)]; exact Nat.le_refl _
structure q5N (M n : Nat) (r : RecS) : Prop where
 right : q7m r = true
 reads : r.reads.length ≤ M
 writes : r.writes.length ≤ M
 last : r.last ≤ max n 1
 wrote : r.writes ≠ [] → r.last ≤ n
theorem q5N.up {n n' : Nat} {r : RecS} (h : q5N M n r) (hn : n ≤ n') : q5N M n' r := ⟨h.right, h.reads, h.writes, by have := h.last; omega, fun e => Nat.le_trans (h.wrote e) hn⟩
theorem q5N.join (hF : FitC F M) {n : Nat} {a b : RecS} (ha : q5N M n a) (hb : q5N M n b) : q5N M n (q2B (q8P F) a b) := by
 refine ⟨qbP hF.join ha.right hb.right, hF.len _, hF.len _, ?_, fun hw => ?_⟩
 ·have h1 := ha.last; have h2 := hb.last
  show max a.last b.last ≤ max n 1
  omega
 ·have h1 := ha.last; have h2 := hb.last
  have g1 := ((q3Y a).1 ha.right)
  have g2 := ((q3Y b).1 hb.right)
  show max a.last b.last ≤ n
  by_cases ea : a.writes = []
  ·by_cases eb : b.writes = []
   ·exfalso
    apply hw
    show F (q0a (a.writes ++ b.writes)) = []
    rw [ea, eb]
    exact hF.nil
   ·have := hb.wrote eb
    omega
  ·have := ha.wrote ea
   omega
structure OkTx (L : LimT) (M : Nat) (b : q08) : Prop where
 ok : OkS b.st
 ins : InS L.s b.st
 ids : IdsT b.live
 last : ∀ t ∈ b.live, 1 ≤ t.id ∧ t.id ≤ b.last
 began : ∀ t ∈ b.live, t.began ≤ b.st.time
 ws : ∀ t ∈ b.live, q0h [] t.ws = 0
 marks : ∀ t ∈ b.live, q0D t.marks ∧ t.marks.length ≤ M
 recs : ∀ r ∈ b.recs, q5N M b.st.time r
 few : (b.live.length : Int) ≤ L.live
 nrecs : b.recs.length ≤ q97 L
theorem qe1 (L : LimT) : 1 ≤ q97 L := by unfold q97; omega
theorem qb3 {L : LimT} (hm : MayS L.s = true) (hl : 0 ≤ L.live) : OkTx L M q2Z :=
 ⟨ok_none, qdl hm, List.Pairwise.nil, (fun _ h => by cases h), (fun _ h => by cases h), (fun _ h => by cases h), (fun _ h => by cases h), (fun _ h => by cases h), by simpa [q2Z] using hl, Nat.zero_le _⟩
theorem OkTx.set {L : LimT} {b : q08} (h : OkTx L M b) {u t : TxS} (hu : u ∈ b.live) (e1 : t.id = u.id) (e2 : t.began = u.began) (hw : q0h [] t.ws = 0) (hm : q0D t.marks ∧ t.marks.length ≤ M) : OkTx L M (setT b t) := by
 have hin : ∀ x ∈ (setT b t).live, x = t ∨ x ∈ b.live := fun x hx => by
  rcases q3X hx with ⟨e, _⟩ | ⟨hx, _⟩
  ·exact .inl e
  ·exact .inr hx
 refine ⟨h.ok, h.ins, q3T h.ids t, fun x hx => ?_, fun x hx => ?_, fun x hx => ?_, fun x hx => ?_, h.recs, ?_, h.nrecs⟩
 ·rcases hin x hx with e | hx
  ·rw [e, e1]; exact h.last u hu
  ·exact h.last x hx
 ·rcases hin x hx with e | hx
  ·rw [e, e2]; exact h.began u hu
  ·exact h.began x hx
 ·rcases hin x hx with e | hx
  ·rw [e]; exact hw
  ·exact h.ws x hx
 ·rcases hin x hx with e | hx
  ·rw [e]; exact hm
  ·exact h.marks x hx
 ·show (((b.live.map fun x => if x.id = t.id then t else x).length : Nat) : Int) ≤ L.live
  rw [List.length_map]
  exact h.few
theorem OkTx.ends (hF : FitC F M) {L : LimT} {b : q08} (t : TxS) (hok : OkS b.st) (hin : InS L.s b.st) (hids : IdsT b.live) (hlast : ∀ t ∈ b.live, 1 ≤ t.id ∧ t.id ≤ b.last) (hb : ∀ t ∈ b.live, t.began ≤ b.st.time) (hws : ∀ t ∈ b.live, q0h [] t.ws = 0)
  (hm : ∀ t ∈ b.live, q0D t.marks ∧ t.marks.length ≤ M) (hr : ∀ r ∈ b.recs, q5N M b.st.time r) (hf : (b.live.length : Int) ≤ L.live) : OkTx L M (q27 F L b t) := by
 have hmem : ∀ x ∈ (q27 F L b t).live, x ∈ b.live := fun x hx => (List.mem_filter.1 hx).1
 refine ⟨hok, hin, List.Pairwise.filter _ hids, fun x hx => hlast x (hmem x hx), fun x hx => hb x (hmem x hx), fun x hx => hws x (hmem x hx), fun x hx => hm x (hmem x hx), ?_, ?_, ?_⟩
 ·exact qaN (q5N M b.st.time) (fun a c => q5N.join hF) _ _ _ (Nat.le_refl _) fun r hr2 => hr r (List.mem_filter.1 hr2).1
 ·have h1 : (b.live.filter (fun x => decide (x.id ≠ t.id))).length ≤ b.live.length := List.length_filter_le _ _
  show (((b.live.filter (fun x => decide (x.id ≠ t.id))).length : Nat) : Int) ≤ L.live
  omega
 ·have := qe1 L
  have h1 : (q27 F L b t).recs.length ≤ max (q97 L) 1 := qd5 _ _
  omega
theorem OkTx.end_ (hF : FitC F M) {L : LimT} {b : q08} (h : OkTx L M b) (t : TxS) : OkTx L M (q27 F L b t) :=
 OkTx.ends hF t h.ok h.ins h.ids h.last h.began h.ws h.marks h.recs h.few
theorem q7i (hF : FitC F M) (st : PS) (t : TxS) : ∀ (l : List Wr) (m : List Sp), q0D m ∧ m.length ≤ M → q0D (l.foldl (fun m w => if q1C st t w = true then addF F m (q0j w.key) else m) m) ∧ (l.foldl (fun m w => if q1C st t w = true then addF F m (q0j w.key) else m) m).length ≤ M
 | [], _, h => h
 | w :: l, m, h => by
  rw [List.foldl_cons]
  refine q7i hF st t l _ ?_
  split
  ·exact ⟨hF.norm _, hF.len _⟩
  ·exact h
theorem OkTx.commit (hF : FitC F M) {L : LimT} {b : q08} (h : OkTx L M b) (id : Int) : OkTx L M (q0r F L b id).1 := by
 unfold q0r
 cases ht : ofT b id with
 | none => exact h
 | some t =>
  obtain ⟨hmem, _⟩ := q1z ht
  simp only
  split
  ·exact h.end_ hF t
  ·cases hj : q1M b.recs (askT F b.st t) with
   | none => exact h.end_ hF t
   | some out =>
    simp only
    have hok := q59 h.ok L.s (q06 b.st t) (lowT b)
    have hins := qdk h.ok h.ins (q06 b.st t) (lowT b)
    have htm := q6I L.s b.st (q06 b.st t) (lowT b)
    have hcc := q0H L.s b.st (q06 b.st t) (lowT b)
    have hsc : q0h [] (q06 b.st t) = 0 := q8j (h.ws t hmem) _
    have hmk := q7i hF b.st t t.ws t.marks (h.marks t hmem)
    have hbg := h.began t hmem
    have hn : (q09 L.s b.st (q06 b.st t) (lowT b)).2.2 = 0 → (q09 L.s b.st (q06 b.st t) (lowT b)).2.1 = (q09 L.s b.st (q06 b.st t) (lowT b)).1.time ∧ ((q06 b.st t) ≠ [] → 1 ≤ (q09 L.s b.st (q06 b.st t) (lowT b)).2.1) := fun he => by
     rcases hcc with ⟨e, hc⟩ | ⟨e, _, hl⟩ | ⟨e, _⟩ | ⟨e, _⟩ | ⟨e, _⟩ <;> rw [e] at he ⊢
     ·exact absurd hsc hc
     ·exact ⟨rfl, fun hne => absurd hl hne⟩
     ·cases he
     ·exact ⟨rfl, fun _ => by show 1 ≤ b.st.time + 1; omega⟩
     ·cases he
    generalize hcs : q09 L.s b.st (q06 b.st t) (lowT b) = cs at hok hins htm hn ⊢
    split
    ·exact OkTx.ends hF t hok hins h.ids h.last (fun x hx => Nat.le_trans (h.began x hx) htm) h.ws h.marks (fun r hr => (h.recs r hr).up htm) h.few
    ·rename_i he
     have he2 : cs.2.2 = 0 := Decidable.of_not_not he
     obtain ⟨hn1, hn2⟩ := hn he2
     refine OkTx.ends hF t hok hins h.ids h.last (fun x hx => Nat.le_trans (h.began x hx) htm) h.ws h.marks (fun r hr => ?_) h.few
     rcases List.mem_append.1 hr with hr | hr
     ·exact (h.recs r hr).up htm
     ·rw [List.mem_singleton] at hr
      subst hr
      refine ⟨(q3Y _).2 ⟨?_, Nat.le_refl _, ?_, hmk.1, hF.norm _⟩, hmk.2, hF.len _, ?_, fun hw => ?_⟩
      ·show 1 ≤ max cs.2.1 1
       omega
      ·show t.began ≤ max cs.2.1 1
       omega
      ·show max cs.2.1 1 ≤ max cs.1.time 1
       omega
      ·show max cs.2.1 1 ≤ cs.1.time
       have : q06 b.st t ≠ [] := fun e => hw (by
        show q1F F (q06 b.st t) = []
        rw [e]
        exact hF.nil)
       have := hn2 this
       omega
theorem OkTx.does (hF : FitC F M) {L : LimT} {b : q08} (h : OkTx L M b) (o : OpT) : OkTx L M (q1g F L b o).1 := by
 unfold q1g
 split
 ·unfold q0N
  split
  ·exact h
  ·rename_i hfull
   refine ⟨h.ok, h.ins, ?_, fun x hx => ?_, fun x hx => ?_, fun x hx => ?_, fun x hx => ?_, h.recs, ?_, h.nrecs⟩
   ·exact List.pairwise_append.2 ⟨h.ids, List.pairwise_singleton _ _, fun x hx y hy => by
     rw [List.mem_singleton] at hy
     subst hy
     have := (h.last x hx).2
     show x.id < b.last + 1
     omega⟩
   ·rcases List.mem_append.1 hx with hx | hx
    ·have := h.last x hx
     show 1 ≤ x.id ∧ x.id ≤ b.last + 1
     omega
    ·rw [List.mem_singleton] at hx
     subst hx
     exact ⟨Nat.le_add_left _ _, Nat.le_refl _⟩
   ·rcases List.mem_append.1 hx with hx | hx
    ·exact h.began x hx
    ·rw [List.mem_singleton] at hx
     subst hx
     exact Nat.le_refl _
   ·rcases List.mem_append.1 hx with hx | hx
    ·exact h.ws x hx
    ·rw [List.mem_singleton] at hx
     subst hx
     rfl
   ·rcases List.mem_append.1 hx with hx | hx
    ·exact h.marks x hx
    ·rw [List.mem_singleton] at hx
     subst hx
     exact ⟨trivial, Nat.zero_le _⟩
   ·show (((b.live ++ [_]).length : Nat) : Int) ≤ L.live
    rw [List.length_append, List.length_singleton]
    omega
 ·split
  ·unfold q16
   cases ht : ofT b o.id with
   | none => exact h
   | some t =>
    simp only
    obtain ⟨hmem, _⟩ := q1z ht
    split
    ·exact h
    ·exact h.set hmem rfl rfl (h.ws t hmem) ⟨hF.norm _, hF.len _⟩
  ·split
   ·unfold q1P
    cases ht : ofT b o.id with
    | none => exact h
    | some t =>
     simp only
     obtain ⟨hmem, _⟩ := q1z ht
     split
     ·exact h
     ·exact h.set hmem rfl rfl (h.ws t hmem) ⟨hF.norm _, hF.len _⟩
   ·split
    ·unfold q0J
     cases ht : ofT b o.id with
     | none => exact h
     | some t =>
      simp only
      obtain ⟨hmem, _⟩ := q1z ht
      split
      ·exact h
      ·rename_i hc
       exact h.set hmem rfl rfl (qdZ (h.ws t hmem) (Decidable.of_not_not hc)) (h.marks t hmem)
    ·split
     ·exact h.commit hF _
     ·split
      ·unfold q1X
       cases ht : ofT b o.id with
       | none => exact h
       | some t => exact h.end_ hF t
      ·split
       ·exact ⟨q1V h.ok _, ⟨q2n h.ok.sort h.ok.full _ h.ins.1, h.ins.2⟩, h.ids, h.last, h.began, h.ws, h.marks, h.recs, h.few, h.nrecs⟩
       ·exact h
end
def wTx (t : TxS) : Nat := 3 * (1 + t.marks.length + t.ws.length)
def q6L (d : q47) : Nat := 1 + d.reads.length + d.writes.length
def WgtT (b : q08) : Nat := (b.live.map wTx).sum + q0C b.recs + b.recs.length + (b.hist.map q6L).sum + b.event + b.last
def q2q (w : Wr) : Prop := w.key.length ≤ 300 ∧ w.dat.length ≤ 5000
def qaB (b : q08) : Prop := ∀ t ∈ b.live, ∀ w ∈ t.ws, q2q w
theorem qel : ∀ {l : List TxS}, IdsT l → ∀ {u : TxS}, u ∈ l → ∀ (t : TxS), t.id = u.id → ∀ f : TxS → Nat, ((l.map fun x => if x.id = t.id then t else x).map f).sum + f u = (l.map f).sum + f t
 | [], _, _, hu, _, _, _ => by cases hu
 | x :: l, hi, u, hu, t, e, f => by
  obtain ⟨h1, h2⟩ := List.pairwise_cons.1 hi
  rcases List.mem_cons.1 hu with rfl | hu
  ·have hr : (l.map fun x => if x.id = t.id then t else x) = l := by
    conv => rhs; rw [← List.map_id l]
    refine List.map_congr_left fun y hy => ?_
    have := h1 y hy
    rw [if_neg (by omega)]
    rfl
   rw [List.map_cons, hr, if_pos e.symm]
   simp only [List.map_cons, List.sum_cons]
   omega
  ·have := h1 u hu
   have ih := qel h2 hu t e f
   rw [List.map_cons, if_neg (by omega)]
   simp only [List.map_cons, List.sum_cons]
   omega
theorem qbb : ∀ {l : List TxS}, IdsT l → ∀ {u : TxS}, u ∈ l → ∀ f : TxS → Nat, ((l.filter fun x => decide (x.id ≠ u.id)).map f).sum + f u = (l.map f).sum
 | [], _, _, hu, _ => by cases hu
 | x :: l, hi, u, hu, f => by
  obtain ⟨h1, h2⟩ := List.pairwise_cons.1 hi
  rcases List.mem_cons.1 hu with rfl | hu
  ·have hr : (l.filter fun x => decide (x.id ≠ u.id)) = l := List.filter_eq_self.2 fun y hy => by
    have := h1 y hy
    rw [decide_eq_true_iff]
    omega
   rw [List.filter_cons_of_neg (by simp), hr]
   simp only [List.map_cons, List.sum_cons]
   omega
  ·have := h1 u hu
   have ih := qbb h2 hu f
   rw [List.filter_cons_of_pos (by rw [decide_eq_true_iff]; omega)]
   simp only [List.map_cons, List.sum_cons]
   omega
section
variable {F : List Sp → List Sp}
theorem q7y (hF : ∀ l, (F l).length ≤ l.length) (m : List Sp) (s : Sp) : (addF F m s).length ≤ m.length + 1 := by
 have h1 := hF (q0a (m ++ [s]))
 have h2 := q1u (m ++ [s])
 rw [List.length_append] at h2
 unfold addF
 simp only [List.length_cons, List.length_nil] at h2
 omega
theorem q3D (hF : ∀ l, (F l).length ≤ l.length) (st : PS) (t : TxS) : ∀ (l : List Wr) (m : List Sp), (l.foldl (fun m w => if q1C st t w = true then addF F m (q0j w.key) else m) m).length + (l.filter fun w => !q1C st t w).length ≤ m.length + l.length
 | [], m => by simp
 | w :: l, m => by
  rw [List.foldl_cons]
  cases hi : q1C st t w with
  | true =>
   have ih := q3D hF st t l (addF F m (q0j w.key))
   have h1 := q7y hF m (q0j w.key)
   rw [if_pos rfl, List.filter_cons_of_neg (by rw [hi]; simp)]
   simp only [List.length_cons]
   omega
  | false =>
   have ih := q3D hF st t l m
   rw [if_neg Bool.false_ne_true, List.filter_cons_of_pos (by rw [hi]; rfl)]
   simp only [List.length_cons]
   omega
theorem q3P : ∀ (l : List Wr) (m : List Sp), (l.foldl (fun m w => q0a (m ++ [q0j w.key])) m).length ≤ m.length + l.length
 | [], m => by simp
 | w :: l, m => by
  have ih := q3P l (q0a (m ++ [q0j w.key]))
  have h := q1u (m ++ [q0j w.key])
  rw [List.length_append] at h
  rw [List.foldl_cons]
  simp only [List.length_cons, List.length_nil] at h ⊢
  omega
theorem qaA (hF : ∀ l, (F l).length ≤ l.length) (l : List Wr) : (q1F F l).length ≤ l.length := by
 have h1 := hF (l.foldl (fun m w => q0a (m ++ [q0j w.key])) [])
 have h2 := q3P l []
 simp only [List.length_nil] at h2
 unfold q1F
 omega
theorem qfS (hF : ∀ l, (F l).length ≤ l.length) (st : PS) (t : TxS) : (q1y F st t).length + (q1F F (q06 st t)).length ≤ t.marks.length + t.ws.length := by
 have h1 := q3D hF st t t.ws t.marks
 have h2 := qaA hF (q06 st t)
 unfold q1y q06 at *
 omega
theorem qdn (hF : ∀ l, (F l).length ≤ l.length) (a b : List Sp) : (q8P F a b).length ≤ a.length + b.length := by
 have h1 := hF (q0a (a ++ b))
 have h2 := q1u (a ++ b)
 rw [List.length_append] at h2
 unfold q8P
 omega
theorem fit_many' {J : List Sp → List Sp → List Sp} (hJ : ∀ a b, (J a b).length ≤ a.length + b.length) (n : Nat) : ∀ (m : Nat) (l : List RecS), l.length ≤ m → q0C (fitR J n l) ≤ q0C l ∧ (fitR J n l).length ≤ l.length
 | _, [], _ => by unfold fitR; exact ⟨Nat.le_refl _, Nat.le_refl _⟩
 | _, [x], _ => by unfold fitR; exact ⟨Nat.le_refl _, Nat.le_refl _⟩
 | 0, x :: y :: l, h => by simp at h
 | m + 1, x :: y :: l, h => by
  unfold fitR
  split
  ·obtain ⟨h1, h2⟩ := fit_many' hJ n m (q2B J x y :: l) (by simp at h ⊢; omega)
   have h3 := q8Y hJ x y l
   refine ⟨by omega, ?_⟩
   simp only [List.length_cons] at h2 ⊢
   omega
  ·exact ⟨Nat.le_refl _, Nat.le_refl _⟩
theorem qac {l : List RecS} (f : RecS → Bool) : q0C (l.filter f) ≤ q0C l := by
 induction l with
 | nil => exact Nat.le_refl _
 | cons x l ih =>
  have e : q0C (x :: l) = (x.reads.length + x.writes.length) + q0C l := by simp [q0C]
  cases hf : f x with
  | true =>
   rw [List.filter_cons_of_pos (by simpa using hf)]
   have e2 : q0C (x :: l.filter f) = (x.reads.length + x.writes.length) + q0C (l.filter f) := by simp [q0C]
   omega
  | false =>
   rw [List.filter_cons_of_neg (by simp [hf])]
   omega
theorem qe2 (hF : ∀ l, (F l).length ≤ l.length) (n low : Nat) (l : List RecS) : q0C (fitR (q8P F) n (q0c l low)) ≤ q0C l ∧ (fitR (q8P F) n (q0c l low)).length ≤ l.length := by
 obtain ⟨h1, h2⟩ := fit_many' (qdn hF) n _ (q0c l low) (Nat.le_refl _)
 exact ⟨Nat.le_trans h1 (qac _), Nat.le_trans h2 (q54 _ _)⟩
theorem qaz {b : q08} (hi : IdsT b.live) {u t : TxS} (hu : u ∈ b.live) (e : t.id = u.id) (hw : wTx t ≤ wTx u + 3) : WgtT (setT b t) ≤ WgtT b + 3 := by
 have h := qel hi hu t e wTx
 unfold WgtT setT
 simp only
 omega
theorem q4S (hF : ∀ l, (F l).length ≤ l.length) {L : LimT} {b : q08} (hi : IdsT b.live) {t : TxS} (ht : t ∈ b.live) : WgtT (q27 F L b t) + wTx t ≤ WgtT b := by
 have h := qbb hi ht wTx
 obtain ⟨h1, h2⟩ := qe2 hF (q97 L) (lowT ⟨b.st, b.live.filter (fun x => decide (x.id ≠ t.id)), b.recs, b.hist, b.last, b.event⟩) b.recs
 unfold WgtT q27
 simp only
 omega
theorem qfk (ws : List Wr) (w : Wr) : (putW ws w).length ≤ ws.length + 1 := by
 have key : ∀ l : List Wr, (l.filter fun x => blt x.key w.key).length + (l.filter fun x => blt w.key x.key).length ≤ l.length := by
  intro l
  induction l with
  | nil => simp
  | cons y l ih =>
   cases h1 : blt y.key w.key with
   | true =>
    have h2 : blt w.key y.key = false := by
     cases h : blt w.key y.key
     ·rfl
     ·have := q0p h1 h
      rw [q0V] at this
      cases this
    rw [List.filter_cons_of_pos (by simpa using h1), List.filter_cons_of_neg (by simp [h2])]
    simp only [List.length_cons]
    omega
   | false =>
    rw [List.filter_cons_of_neg (by simp [h1])]
    have : (List.filter (fun x => blt w.key x.key) (y :: l)).length ≤ (l.filter fun x => blt w.key x.key).length + 1 := by
     rw [List.filter_cons]
     split <;> simp
    simp only [List.length_cons]
    omega
 have := key ws
 unfold putW
 simp only [List.length_append, List.length_cons, List.length_nil]
 omega
theorem qfC (hF : ∀ l, (F l).length ≤ l.length) {M : Nat} {L : LimT} {b : q08} (h : OkTx L M b) (o : OpT) : WgtT (q1g F L b o).1 ≤ WgtT b + 5 := by
 have hi := h.ids
 unfold q1g
 split
 ·unfold q0N
  split
  ·exact Nat.le_add_right _ _
  ·simp [WgtT, wTx]
   omega
 split
 ·unfold q16
  cases ho : ofT b o.id with
  | none => exact Nat.le_add_right _ _
  | some t =>
   simp only
   cases hf : t.ws.find? fun w => w.key == o.w.key with
   | some w => exact Nat.le_add_right _ _
   | none =>
    have := q7y hF t.marks (q0j o.w.key)
    exact Nat.le_trans (qaz hi (q1z ho).1 (t := q36 F t (q0j o.w.key)) rfl (by unfold wTx q36; simp only; omega)) (by omega)
 split
 ·unfold q1P
  cases ho : ofT b o.id with
  | none => exact Nat.le_add_right _ _
  | some t =>
   simp only
   split
   ·exact Nat.le_add_right _ _
   ·have := q7y hF t.marks ⟨o.w.key, o.hi⟩
    exact Nat.le_trans (qaz hi (q1z ho).1 (t := q36 F t ⟨o.w.key, o.hi⟩) rfl (by unfold wTx q36; simp only; omega)) (by omega)
 split
 ·unfold q0J
  cases ho : ofT b o.id with
  | none => exact Nat.le_add_right _ _
  | some t =>
   simp only
   split
   ·exact Nat.le_add_right _ _
   ·have := qfk t.ws o.w
    exact Nat.le_trans (qaz hi (q1z ho).1 (t := ⟨t.id, t.began, t.start, t.marks, putW t.ws o.w⟩) rfl (by unfold wTx; simp only; omega)) (by omega)
 split
 ·unfold q0r
  cases ho : ofT b o.id with
  | none => exact Nat.le_add_right _ _
  | some t =>
   have ht := (q1z ho).1
   simp only
   split
   ·have := q4S hF (L := L) hi ht
    simp only
    omega
   cases hj : q1M b.recs (askT F b.st t) with
   | none =>
    have := q4S hF (L := L) hi ht
    simp only
    omega
   | some out =>
    simp only
    split
    ·have := q4S hF (L := L) (b := ⟨(q09 L.s b.st (q06 b.st t) (lowT b)).1, b.live, b.recs, b.hist, b.last, b.event⟩) hi ht
     have e : WgtT ⟨(q09 L.s b.st (q06 b.st t) (lowT b)).1, b.live, b.recs, b.hist, b.last, b.event⟩ = WgtT b := rfl
     simp only
     omega
    ·generalize hb : q08.mk (q09 L.s b.st (q06 b.st t) (lowT b)).1 b.live (b.recs ++ [⟨max (q09 L.s b.st (q06 b.st t) (lowT b)).2.1 1, max (q09 L.s b.st (q06 b.st t) (lowT b)).2.1 1, t.began, out, q1y F b.st t, q1F F (q06 b.st t)⟩])
      (b.hist ++ [⟨t.id, t.began, (q09 L.s b.st (q06 b.st t) (lowT b)).2.1, t.start, b.event + 1, q1y F b.st t, q1F F (q06 b.st t)⟩]) b.last (b.event + 1) = b2
     have hi2 : IdsT b2.live := by rw [← hb]; exact hi
     have ht2 : t ∈ b2.live := by rw [← hb]; exact ht
     have h1 := q4S hF (L := L) hi2 ht2
     have h2 := qfS hF b.st t
     have h3 : WgtT b2 = WgtT b + 3 + 2 * ((q1y F b.st t).length + (q1F F (q06 b.st t)).length) := by
      rw [← hb]
      simp [WgtT, q6L, q0C]
      omega
     have h4 : wTx t = 3 * (1 + t.marks.length + t.ws.length) := rfl
     simp only
     omega
 split
 ·unfold q1X
  cases ho : ofT b o.id with
  | none => exact Nat.le_add_right _ _
  | some t =>
   have := q4S hF (L := L) hi (q1z ho).1
   simp only
   omega
 split
 ·unfold q15
  exact Nat.le_add_right _ _
 ·exact Nat.le_add_right _ _
end
theorem qgt {F : List Sp → List Sp} {L : LimT} {b : q08} {o : OpT} : ∀ t' ∈ (q1g F L b o).1.live, ∀ w ∈ t'.ws, (∃ t ∈ b.live, w ∈ t.ws) ∨ w = o.w := by
 intro t' ht' w hw
 have same : t' ∈ b.live → (∃ t ∈ b.live, w ∈ t.ws) ∨ w = o.w := fun h => .inl ⟨t', h, hw⟩
 have ends : ∀ {b2 : q08} {t : TxS}, b2.live = b.live → t' ∈ (q27 F L b2 t).live → t' ∈ b.live := fun e h => by
  unfold q27 at h
  simp only at h
  rw [e] at h
  exact (List.mem_filter.1 h).1
 unfold q1g at ht'
 split at ht'
 ·unfold q0N at ht'
  split at ht'
  ·exact same ht'
  ·rcases List.mem_append.1 ht' with h | h
   ·exact same h
   ·rw [List.mem_singleton] at h
    subst h
    cases hw
 split at ht'
 ·unfold q16 at ht'
  cases ho : ofT b o.id with
  | none => rw [ho] at ht'; exact same ht'
  | some t =>
   rw [ho] at ht'
   simp only at ht'
   cases hf : t.ws.find? fun w => w.key == o.w.key with
   | some x => rw [hf] at ht'; exact same ht'
   | none =>
    rw [hf] at ht'
    rcases q3X ht' with ⟨e, _⟩ | ⟨h, _⟩
    ·subst e
     exact .inl ⟨t, (q1z ho).1, hw⟩
    ·exact same h
 split at ht'
 ·unfold q1P at ht'
  cases ho : ofT b o.id with
  | none => rw [ho] at ht'; exact same ht'
  | some t =>
   rw [ho] at ht'
   simp only at ht'
   split at ht'
   ·exact same ht'
   ·rcases q3X ht' with ⟨e, _⟩ | ⟨h, _⟩
    ·subst e
     exact .inl ⟨t, (q1z ho).1, hw⟩
    ·exact same h
 split at ht'
 ·unfold q0J at ht'
  cases ho : ofT b o.id with
  | none => rw [ho] at ht'; exact same ht'
  | some t =>
   rw [ho] at ht'
   simp only at ht'
   split at ht'
   ·exact same ht'
   ·rcases q3X ht' with ⟨e, _⟩ | ⟨h, _⟩
    ·subst e
     unfold putW at hw
     simp only [List.mem_append, List.mem_singleton] at hw
     rcases hw with (h | h) | h
     ·exact .inl ⟨t, (q1z ho).1, (List.mem_filter.1 h).1⟩
     ·exact .inr h
     ·exact .inl ⟨t, (q1z ho).1, (List.mem_filter.1 h).1⟩
    ·exact same h
 split at ht'
 ·unfold q0r at ht'
  cases ho : ofT b o.id with
  | none => rw [ho] at ht'; exact same ht'
  | some t =>
   rw [ho] at ht'
   simp only at ht'
   split at ht'
   ·exact same (ends rfl ht')
   ·cases hj : q1M b.recs (askT F b.st t) with
    | none => rw [hj] at ht'; exact same (ends rfl ht')
    | some out =>
     rw [hj] at ht'
     simp only at ht'
     split at ht'
     ·exact same (ends rfl ht')
     ·exact same (ends rfl ht')
 split at ht'
 ·unfold q1X at ht'
  cases ho : ofT b o.id with
  | none => rw [ho] at ht'; exact same ht'
  | some t => rw [ho] at ht'; exact same (ends rfl ht')
 split at ht'
 ·exact same ht'
 ·exact same ht'
theorem qam {F : List Sp → List Sp} {L : LimT} {b : q08} {o : OpT} (h : qaB b) (hw : q2q o.w) : qaB (q1g F L b o).1 := fun t' ht' w hx => by
 rcases qgt t' ht' w hx with ⟨t, ht, h1⟩ | rfl
 ·exact h t ht w h1
 ·exact hw
end Go.Proofs.YtdpbllacfljmoaaGreat
