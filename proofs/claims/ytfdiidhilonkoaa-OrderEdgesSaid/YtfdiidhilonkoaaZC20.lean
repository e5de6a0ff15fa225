import Derived.Test.YtfdiidhilonkoaaZC19
set_option linter.unusedVariables false
/-
  Orders of what committed, in plain words: which of two must stand ahead, how all are laid, and that they stand in a ring just where they can't be.
-/
namespace Go.Proofs.Ytfdiidhilonkoaa

/-- One that committed: its numbers are any that a machine has. -/
structure DoneZ where
  id : Int
  began : Nat
  at_ : Nat
  start : Int
  end_ : Int
  reads : List Sp
  writes : List Sp
def done0 : DoneZ := ⟨0, 0, 0, 0, 0, [], []⟩
def atD (l : List DoneZ) (i : Nat) : DoneZ := l.getD i done0
def edgeD (a b : DoneZ) : Bool := decide (a.end_ < b.start) || (meetB a.reads b.writes && decide (a.began < b.at_))
def freeO (l : List DoneZ) (laid : List Nat) (i : Nat) : Bool := (List.range l.length).all fun k => k == i || laid.contains k || !edgeD (atD l k) (atD l i)
def candO (l : List DoneZ) (laid : List Nat) (i : Nat) : Bool := !laid.contains i && freeO l laid i
def bestStep (l : List DoneZ) (laid : List Nat) (o : Option Nat) (i : Nat) : Option Nat :=
  if candO l laid i = true ∧ (∀ b, o = some b → (atD l i).end_ < (atD l b).end_) then some i else o
def bestTo (l : List DoneZ) (laid : List Nat) (j : Nat) : Option Nat := (List.range j).foldl (bestStep l laid) none
def bestO (l : List DoneZ) (laid : List Nat) : Option Nat := bestTo l laid l.length
def orderO (l : List DoneZ) : Nat → List Nat → Option (List Nat)
  | 0, out => some out
  | n + 1, out => match bestO l out with
    | none => none
    | some b => orderO l n (out ++ [b])
/-- How all are laid; none: they can't be. -/
def orderL (l : List DoneZ) : Option (List Nat) := orderO l l.length []
/-- Is an order right? -/
def RightO (l : List DoneZ) (order : List Nat) : Prop := order.length = l.length ∧ (∀ a ∈ order, a < l.length) ∧ order.Pairwise fun b a => b ≠ a ∧ edgeD (atD l a) (atD l b) = false
/-- Which of these have another one of them that must stand ahead. -/
def ringI (l : List DoneZ) (idx : List Nat) : List Nat := idx.filter fun i => idx.any fun k => k != i && edgeD (atD l k) (atD l i)
def ringTo (l : List DoneZ) : Nat → List Nat → List Nat
  | 0, idx => idx
  | n + 1, idx => ringTo l n (ringI l idx)
/-- Do some stand in a ring? -/
def ringB (l : List DoneZ) : Bool := !(ringTo l l.length (List.range l.length)).isEmpty

theorem best_step {l : List DoneZ} {laid : List Nat} {j : Nat} : bestTo l laid (j + 1) = bestStep l laid (bestTo l laid j) j := by
  unfold bestTo
  rw [List.range_succ, List.foldl_append]
  rfl
theorem bestTo_some {l : List DoneZ} {laid : List Nat} : ∀ {j b : Nat}, bestTo l laid j = some b → b < j ∧ candO l laid b = true
  | 0, b, h => by cases h
  | j + 1, b, h => by
    rw [best_step] at h
    unfold bestStep at h
    split at h
    · rename_i hc
      cases h
      exact ⟨Nat.lt_succ_self _, hc.1⟩
    · obtain ⟨h1, h2⟩ := bestTo_some h
      exact ⟨by omega, h2⟩
theorem bestTo_none {l : List DoneZ} {laid : List Nat} : ∀ {j : Nat}, bestTo l laid j = none → ∀ i, i < j → candO l laid i = false
  | 0, _, i, hi => by omega
  | j + 1, h, i, hi => by
    rw [best_step] at h
    unfold bestStep at h
    split at h
    · cases h
    · rename_i hc
      by_cases e : i = j
      · subst e
        cases hcand : candO l laid i
        · rfl
        · exact absurd ⟨hcand, fun b hb => by rw [h] at hb; cases hb⟩ hc
      · exact bestTo_none h i (by omega)
theorem free_at {l : List DoneZ} {laid : List Nat} {i : Nat} (h : freeO l laid i = true) {k : Nat} (hk : k < l.length) (hki : k ≠ i) (hkl : k ∉ laid) : edgeD (atD l k) (atD l i) = false := by
  have := List.all_eq_true.1 h k (List.mem_range.2 hk)
  rw [Bool.or_eq_true, Bool.or_eq_true] at this
  rcases this with (h1 | h1) | h1
  · exact absurd (by simpa using h1) hki
  · exact absurd (by simpa using h1) hkl
  · simpa using h1
theorem not_free {l : List DoneZ} {laid : List Nat} {i : Nat} (h : freeO l laid i = false) : ∃ k, k < l.length ∧ k ≠ i ∧ k ∉ laid ∧ edgeD (atD l k) (atD l i) = true := by
  unfold freeO at h
  rw [List.all_eq_false] at h
  obtain ⟨k, hk, hn⟩ := h
  rw [Bool.not_eq_true, Bool.or_eq_false_iff, Bool.or_eq_false_iff] at hn
  obtain ⟨⟨h1, h2⟩, h3⟩ := hn
  exact ⟨k, List.mem_range.1 hk, by simpa using h1, by simpa using h2, by simpa using h3⟩
/-- What has been laid so far. -/
structure LaidO (l : List DoneZ) (out : List Nat) : Prop where
  in_ : ∀ a ∈ out, a < l.length
  pair : out.Pairwise fun b a => b ≠ a ∧ edgeD (atD l a) (atD l b) = false
  shut : ∀ b ∈ out, ∀ k, k < l.length → k ∉ out → edgeD (atD l k) (atD l b) = false
theorem laid_nil (l : List DoneZ) : LaidO l [] := ⟨(fun _ h => by cases h), List.Pairwise.nil, (fun _ h => by cases h)⟩
theorem LaidO.add {l : List DoneZ} {out : List Nat} (h : LaidO l out) {b : Nat} (hb : b < l.length) (hc : candO l out b = true) : LaidO l (out ++ [b]) := by
  unfold candO at hc
  rw [Bool.and_eq_true] at hc
  have hn : b ∉ out := by
    have := hc.1
    simpa using this
  refine ⟨fun a ha => ?_, ?_, fun a ha k hk hkn => ?_⟩
  · rcases List.mem_append.1 ha with ha | ha
    · exact h.in_ a ha
    · rw [List.mem_singleton] at ha
      rw [ha]; exact hb
  · rw [List.pairwise_append]
    refine ⟨h.pair, List.pairwise_singleton _ _, fun x hx y hy => ?_⟩
    rw [List.mem_singleton] at hy
    subst hy
    exact ⟨fun e => hn (e ▸ hx), h.shut x hx _ hb hn⟩
  · have hk1 : k ∉ out := fun e => hkn (List.mem_append_left _ e)
    rcases List.mem_append.1 ha with ha | ha
    · exact h.shut a ha k hk hk1
    · rw [List.mem_singleton] at ha
      subst ha
      exact free_at hc.2 hk (fun e => hkn (by rw [e]; exact List.mem_append_right _ (List.mem_singleton.2 rfl))) hk1
theorem order_laid {l : List DoneZ} : ∀ (n : Nat) {out res : List Nat}, LaidO l out → orderO l n out = some res → LaidO l res ∧ res.length = out.length + n
  | 0, out, res, h, e => by cases e; exact ⟨h, rfl⟩
  | n + 1, out, res, h, e => by
    unfold orderO at e
    cases hb : bestO l out with
    | none => rw [hb] at e; cases e
    | some b =>
      rw [hb] at e
      obtain ⟨h1, h2⟩ := bestTo_some hb
      obtain ⟨k1, k2⟩ := order_laid n (h.add h1 h2) e
      exact ⟨k1, by rw [k2, List.length_append, List.length_singleton]; omega⟩
theorem order_right {l : List DoneZ} {res : List Nat} (h : orderL l = some res) : RightO l res := by
  obtain ⟨h1, h2⟩ := order_laid _ (laid_nil l) h
  exact ⟨by simpa using h2, h1.in_, h1.pair⟩
/-! ### a right order has all -/
theorem sub_len : ∀ {a b : List Nat}, a.Nodup → (∀ x ∈ a, x ∈ b) → a.length ≤ b.length
  | [], _, _, _ => Nat.zero_le _
  | x :: a, b, hn, hs => by
    obtain ⟨h1, h2⟩ := List.nodup_cons.1 hn
    have hx := hs x (List.mem_cons_self ..)
    have hle := sub_len (b := b.erase x) h2 fun y hy => (List.mem_erase_of_ne (show y ≠ x from fun e => h1 (by rw [← e]; exact hy))).2 (hs y (List.mem_cons_of_mem _ hy))
    rw [List.length_erase_of_mem hx] at hle
    have := List.length_pos_of_mem hx
    rw [List.length_cons]
    omega
theorem nodup_all {n : Nat} {res : List Nat} (hn : res.Nodup) (hi : ∀ a ∈ res, a < n) (hl : res.length = n) : ∀ k, k < n → k ∈ res := fun k hk => Classical.byContradiction fun hkn => by
  have := sub_len (a := k :: res) (b := List.range n) (List.nodup_cons.2 ⟨hkn, hn⟩) fun x hx => by
    rcases List.mem_cons.1 hx with e | hx
    · rw [e]; exact List.mem_range.2 hk
    · exact List.mem_range.2 (hi x hx)
  rw [List.length_cons, List.length_range] at this
  omega
theorem RightO.all {l : List DoneZ} {res : List Nat} (h : RightO l res) : ∀ k, k < l.length → k ∈ res :=
  nodup_all (h.2.2.imp fun h => h.1) h.2.1 h.1
/-! ### rings -/
theorem first_of {R : Nat → Nat → Prop} : ∀ {res idx : List Nat}, res.Pairwise R → (∀ k ∈ idx, k ∈ res) → idx ≠ [] → ∃ e ∈ idx, ∀ k ∈ idx, k ≠ e → R e k
  | [], idx, _, hs, hn => by
    match idx, hn with
    | i :: _, _ => exact absurd (hs i (List.mem_cons_self ..)) (by simp)
  | r :: rs, idx, hp, hs, hn => by
    obtain ⟨h1, h2⟩ := List.pairwise_cons.1 hp
    by_cases hr : r ∈ idx
    · refine ⟨r, hr, fun k hk hkr => ?_⟩
      rcases List.mem_cons.1 (hs k hk) with e | hk2
      · exact absurd e hkr
      · exact h1 k hk2
    · refine first_of h2 (fun k hk => ?_) hn
      rcases List.mem_cons.1 (hs k hk) with e | hk2
      · exact absurd (e ▸ hk) hr
      · exact hk2
theorem ring_less {l : List DoneZ} {res idx : List Nat} (h : RightO l res) (hi : ∀ k ∈ idx, k < l.length) (hn : idx ≠ []) : (ringI l idx).length < idx.length := by
  obtain ⟨e, he, hall⟩ := first_of h.2.2 (fun k hk => h.all k (hi k hk)) hn
  refine List.length_filter_lt_length_iff_exists.2 ⟨e, he, fun hc => ?_⟩
  obtain ⟨k, hk, hd⟩ := List.any_eq_true.1 hc
  rw [Bool.and_eq_true] at hd
  have hke : k ≠ e := by simpa using hd.1
  rw [(hall k hk hke).2] at hd
  cases hd.2
theorem ring_in {l : List DoneZ} {idx : List Nat} : ∀ k ∈ ringI l idx, k ∈ idx := fun _ hk => (List.mem_filter.1 hk).1
theorem ringTo_nil (l : List DoneZ) : ∀ n, ringTo l n [] = []
  | 0 => rfl
  | n + 1 => ringTo_nil l n
theorem ring_none {l : List DoneZ} {res : List Nat} (h : RightO l res) : ∀ (n : Nat) (idx : List Nat), (∀ k ∈ idx, k < l.length) → idx.length ≤ n → ringTo l n idx = []
  | 0, idx, _, hl => by
    have : idx = [] := List.length_eq_zero_iff.1 (by omega)
    rw [this]; rfl
  | n + 1, idx, hi, hl => by
    by_cases hn : idx = []
    · rw [hn]; exact ringTo_nil l _
    · have := ring_less h hi hn
      exact ring_none h n _ (fun k hk => hi k (ring_in k hk)) (by omega)
theorem no_ring {l : List DoneZ} {res : List Nat} (h : RightO l res) : ringB l = false := by
  unfold ringB
  rw [ring_none h _ _ (fun k hk => List.mem_range.1 hk) (by rw [List.length_range]; exact Nat.le_refl _)]
  rfl
/-- They are stuckO: these hold each other. -/
theorem stuck_ring {l : List DoneZ} {out : List Nat} (hb : bestO l out = none) : ∀ (n : Nat) (idx : List Nat), (∀ k, k < l.length → k ∉ out → k ∈ idx) → ∀ k, k < l.length → k ∉ out → k ∈ ringTo l n idx
  | 0, idx, h, k, h1, h2 => h k h1 h2
  | n + 1, idx, h, k, h1, h2 => by
    refine stuck_ring hb n _ (fun i hi ho => ?_) k h1 h2
    have hc := bestTo_none hb i hi
    have hf : freeO l out i = false := by
      unfold candO at hc
      rw [Bool.and_eq_false_iff] at hc
      rcases hc with hc | hc
      · exact absurd (by simpa using hc) ho
      · exact hc
    obtain ⟨j, hj, hji, hjo, he⟩ := not_free hf
    exact List.mem_filter.2 ⟨h i hi ho, List.any_eq_true.2 ⟨j, h j hj hjo, by rw [Bool.and_eq_true]; exact ⟨by simpa using hji, he⟩⟩⟩
theorem stuckO {l : List DoneZ} : ∀ (n : Nat) {out : List Nat}, LaidO l out → out.length + n = l.length → orderO l n out = none → ringB l = true
  | 0, out, _, _, e => by cases e
  | n + 1, out, h, hl, e => by
    unfold orderO at e
    cases hb : bestO l out with
    | none =>
      have hex : ∃ k, k < l.length ∧ k ∉ out := by
        refine Classical.byContradiction fun hno => ?_
        have hall : ∀ k, k < l.length → k ∈ out := fun k hk => Classical.byContradiction fun hk2 => hno ⟨k, hk, hk2⟩
        have := sub_len (a := List.range l.length) (b := out) List.nodup_range fun k hk => hall k (List.mem_range.1 hk)
        rw [List.length_range] at this
        omega
      obtain ⟨k, hk, hko⟩ := hex
      have := stuck_ring hb l.length (List.range l.length) (fun _ hk _ => List.mem_range.2 hk) k hk hko
      unfold ringB
      cases hr : ringTo l l.length (List.range l.length) with
      | nil => rw [hr] at this; cases this
      | cons _ _ => rfl
    | some b =>
      rw [hb] at e
      obtain ⟨h1, h2⟩ := bestTo_some hb
      exact stuckO n (h.add h1 h2) (by rw [List.length_append, List.length_singleton]; omega) e
theorem none_ring {l : List DoneZ} (h : orderL l = none) : ringB l = true := stuckO _ (laid_nil l) (by simp) h
/-! ### time -/
/-- Who must stand ahead stands ahead. -/
theorem ahead_pair {l : List DoneZ} {res : List Nat} (h : RightO l res) {i k : Nat} (hi : i < l.length) (hk : k < l.length) (hik : i ≠ k) (he : edgeD (atD l i) (atD l k) = true) : ∃ a b, res = a ++ i :: b ∧ k ∈ b ∧ i ∉ a ∧ k ∉ a := by
  obtain ⟨a, b, hab⟩ := List.append_of_mem (h.all i hi)
  have hp := h.2.2
  rw [hab, List.pairwise_append] at hp
  obtain ⟨_, p2, p3⟩ := hp
  have hka : k ∉ a := fun hka => by
    have := (p3 k hka i (List.mem_cons_self ..)).2
    rw [he] at this
    cases this
  have hkr := h.all k hk
  rw [hab] at hkr
  refine ⟨a, b, hab, ?_, fun hia => (p3 i hia i (List.mem_cons_self ..)).1 rfl, hka⟩
  rcases List.mem_append.1 hkr with hkr | hkr
  · exact absurd hkr hka
  · rcases List.mem_cons.1 hkr with e | hkr
    · exact absurd e.symm hik
    · exact hkr
/-! ### rows -/
theorem bestTo_least {l : List DoneZ} {laid : List Nat} : ∀ {j b : Nat}, bestTo l laid j = some b → ∀ i, i < j → candO l laid i = true → (atD l b).end_ < (atD l i).end_ ∨ ((atD l b).end_ = (atD l i).end_ ∧ b ≤ i)
  | 0, b, h, i, hi, _ => absurd hi (by omega)
  | j + 1, b, h, i, hi, hc => by
    rw [best_step] at h
    unfold bestStep at h
    split at h
    · rename_i hq
      obtain rfl : j = b := by injection h
      by_cases e : i = j
      · subst e
        exact .inr ⟨rfl, Nat.le_refl _⟩
      · cases hb : bestTo l laid j with
        | none =>
          have := bestTo_none hb i (by omega)
          rw [hc] at this
          cases this
        | some b2 =>
          have h1 := hq.2 b2 hb
          have h2 := bestTo_least hb i (by omega) hc
          left
          omega
    · rename_i hq
      by_cases e : i = j
      · subst e
        have h1 := (bestTo_some h).1
        by_cases h2 : (atD l i).end_ < (atD l b).end_
        · exact absurd ⟨hc, fun b2 hb2 => by rw [h] at hb2; cases hb2; exact h2⟩ hq
        · by_cases h3 : (atD l b).end_ = (atD l i).end_
          · exact .inr ⟨h3, by omega⟩
          · left; omega
      · exact bestTo_least h i (by omega) hc
/-- A row of all places, by End, of equal ones the first one ahead. -/
structure ByEnd (l : List DoneZ) (pp : Nat → Nat) : Prop where
  in_ : ∀ k, k < l.length → pp k < l.length
  all : ∀ x, x < l.length → ∃ k, k < l.length ∧ pp k = x
  sort : ∀ i j, i < j → j < l.length → (atD l (pp i)).end_ < (atD l (pp j)).end_ ∨ ((atD l (pp i)).end_ = (atD l (pp j)).end_ ∧ pp i < pp j)
theorem best_row {l : List DoneZ} {laid : List Nat} {pp : Nat → Nat} (h : ByEnd l pp) {k : Nat} (hk : k < l.length) (hc : candO l laid (pp k) = true) (hn : ∀ j, j < k → candO l laid (pp j) = false) : bestO l laid = some (pp k) := by
  cases hb : bestO l laid with
  | none =>
    have := bestTo_none hb (pp k) (h.in_ k hk)
    rw [hc] at this
    cases this
  | some b =>
    obtain ⟨h1, h2⟩ := bestTo_some hb
    obtain ⟨j, hj, rfl⟩ := h.all b h1
    have hle := bestTo_least hb (pp k) (h.in_ k hk) hc
    rcases Nat.lt_trichotomy j k with z | z | z
    · rw [hn j z] at h2
      cases h2
    · rw [z]
    · have := h.sort k j z hj
      omega
theorem best_no {l : List DoneZ} {laid : List Nat} {pp : Nat → Nat} (h : ByEnd l pp) (hn : ∀ j, j < l.length → candO l laid (pp j) = false) : bestO l laid = none := by
  cases hb : bestO l laid with
  | none => rfl
  | some b =>
    obtain ⟨h1, h2⟩ := bestTo_some hb
    obtain ⟨j, hj, rfl⟩ := h.all b h1
    rw [hn j hj] at h2
    cases h2
/-! ### an order that comes in -/
/-- Is an order right, whatever numbers stand in it? -/
def RightZ (l : List DoneZ) (ps : List Int) : Prop := ps.length = l.length ∧ (∀ p ∈ ps, 0 ≤ p ∧ p < l.length) ∧ ps.Pairwise fun b a => b ≠ a ∧ edgeD (atD l a.toNat) (atD l b.toNat) = false
theorem RightO.z {l : List DoneZ} {res : List Nat} (h : RightO l res) : RightZ l (res.map fun n : Nat => (n : Int)) := by
  obtain ⟨h1, h2, h3⟩ := h
  refine ⟨by rw [List.length_map]; exact h1, fun p hp => ?_, ?_⟩
  · obtain ⟨a, ha, rfl⟩ := List.mem_map.1 hp
    have := h2 a ha
    omega
  · rw [List.pairwise_map]
    exact h3.imp fun {a b} h => ⟨fun e => h.1 (by omega), h.2⟩
theorem RightZ.all {l : List DoneZ} {ps : List Int} (h : RightZ l ps) : ∀ k, k < l.length → (k : Int) ∈ ps := fun k hk => by
  obtain ⟨h1, h2, h3⟩ := h
  have hn : (ps.map Int.toNat).Nodup := by
    unfold List.Nodup
    rw [List.pairwise_map]
    have : ps.Pairwise fun a b => (a ∈ ps ∧ b ∈ ps) ∧ a ≠ b := by
      have h4 := List.pairwise_iff_getElem.1 h3
      exact List.pairwise_iff_getElem.2 fun i j hi hj hij => ⟨⟨List.getElem_mem hi, List.getElem_mem hj⟩, (h4 i j hi hj hij).1⟩
    exact this.imp fun {a b} q e => q.2 (by have := h2 a q.1.1; have := h2 b q.1.2; omega)
  have := nodup_all hn (n := l.length) (fun a ha => by
    obtain ⟨p, hp, rfl⟩ := List.mem_map.1 ha
    have := h2 p hp
    omega) (by rw [List.length_map]; exact h1) k hk
  obtain ⟨p, hp, e⟩ := List.mem_map.1 this
  have := h2 p hp
  rwa [show (k : Int) = p by omega]
theorem RightZ.free {l : List DoneZ} {ps a b : List Int} {p : Int} (h : RightZ l ps) (e : ps = a ++ p :: b) {k : Nat} (hk : k < l.length) (hkp : (k : Int) ≠ p) (hka : (k : Int) ∉ a) : edgeD (atD l k) (atD l p.toNat) = false := by
  have hm := h.all k hk
  subst e
  have hp := (List.pairwise_append.1 h.2.2).2.1
  rcases List.mem_append.1 hm with hm | hm
  · exact absurd hm hka
  · rcases List.mem_cons.1 hm with hm | hm
    · exact absurd hm hkp
    · exact (List.rel_of_pairwise_cons hp hm).2
/-- The first of an order are right by themselves. -/
def PreZ (l : List DoneZ) (ps : List Int) : Prop := (∀ p ∈ ps, 0 ≤ p ∧ p < l.length) ∧ ps.Pairwise fun b a => b ≠ a ∧ edgeD (atD l a.toNat) (atD l b.toNat) = false
theorem preZ_nil (l : List DoneZ) : PreZ l [] := ⟨(fun _ h => by cases h), List.Pairwise.nil⟩
theorem PreZ.add {l : List DoneZ} {ps : List Int} {p : Int} (h : PreZ l ps) (h1 : 0 ≤ p) (h2 : p < l.length) (hn : p ∉ ps) (hf : ∀ b ∈ ps, edgeD (atD l p.toNat) (atD l b.toNat) = false) : PreZ l (ps ++ [p]) := by
  refine ⟨fun q hq => ?_, ?_⟩
  · rcases List.mem_append.1 hq with hq | hq
    · exact h.1 q hq
    · rw [List.mem_singleton] at hq
      subst hq
      exact ⟨h1, h2⟩
  · rw [List.pairwise_append]
    refine ⟨h.2, List.pairwise_singleton _ _, fun x hx y hy => ?_⟩
    rw [List.mem_singleton] at hy
    subst hy
    exact ⟨fun e => hn (e ▸ hx), hf x hx⟩
theorem RightZ.pre {l : List DoneZ} {ps a b : List Int} {p : Int} (h : RightZ l ps) (e : ps = a ++ p :: b) : 0 ≤ p ∧ p < l.length ∧ p ∉ a ∧ ∀ x ∈ a, edgeD (atD l p.toNat) (atD l x.toNat) = false := by
  subst e
  have hp := (List.pairwise_append.1 h.2.2).2.2
  have hi := h.2.1 p (by simp)
  exact ⟨hi.1, hi.2, fun hm => (hp p hm p (List.mem_cons_self ..)).1 rfl, fun x hx => (hp x hx p (List.mem_cons_self ..)).2⟩
/-! ### the law's ring, on values -/
/-- Which of these have another one of them that must stand ahead: by places. -/
def heldV (left : List DoneZ) (i : Nat) : Bool := (List.range left.length).any fun k => k != i && edgeD (atD left k) (atD left i)
def ringV (left : List DoneZ) : List DoneZ := ((List.range left.length).filter (heldV left)).map (atD left)
def ringVT : Nat → List DoneZ → List DoneZ
  | 0, l => l
  | n + 1, l => ringVT n (ringV l)
theorem atD_map {l : List DoneZ} {idx : List Nat} {k : Nat} (hk : k < idx.length) : atD (idx.map (atD l)) k = atD l (idx[k]'hk) := by
  unfold atD
  rw [List.getD_eq_getElem?_getD, List.getElem?_map, List.getElem?_eq_getElem hk]
  rfl
theorem held_map {l : List DoneZ} {idx : List Nat} (hn : idx.Nodup) {i : Nat} (hi : i < idx.length) : heldV (idx.map (atD l)) i = idx.any fun k => k != (idx[i]'hi) && edgeD (atD l k) (atD l (idx[i]'hi)) := by
  rw [Bool.eq_iff_iff]
  unfold heldV
  rw [List.any_eq_true, List.any_eq_true, List.length_map]
  constructor
  · rintro ⟨k, hk, he⟩
    have hk' := List.mem_range.1 hk
    rw [atD_map hk', atD_map hi, Bool.and_eq_true] at he
    refine ⟨idx[k], List.getElem_mem hk', ?_⟩
    rw [Bool.and_eq_true]
    refine ⟨?_, he.2⟩
    have : k ≠ i := by simpa using he.1
    have h2 : idx[k] ≠ idx[i] := fun e => by
      have hp := List.pairwise_iff_getElem.1 hn
      rcases Nat.lt_trichotomy k i with z | z | z
      · exact hp k i hk' hi z e
      · exact this z
      · exact hp i k hi hk' z e.symm
    simpa using h2
  · rintro ⟨x, hx, he⟩
    obtain ⟨k, hk, rfl⟩ := List.getElem_of_mem hx
    refine ⟨k, List.mem_range.2 hk, ?_⟩
    rw [atD_map hk, atD_map hi]
    rw [Bool.and_eq_true] at he ⊢
    refine ⟨?_, he.2⟩
    have : idx[k] ≠ idx[i] := by simpa using he.1
    have h2 : k ≠ i := fun e => this (by subst e; rfl)
    simpa using h2
theorem ring_map {l : List DoneZ} {idx : List Nat} (hn : idx.Nodup) : ringV (idx.map (atD l)) = (ringI l idx).map (atD l) := by
  have h1 : ∀ j, j ≤ idx.length → ((List.range j).filter (heldV (idx.map (atD l)))).map (atD (idx.map (atD l))) = ((idx.take j).filter fun i => idx.any fun k => k != i && edgeD (atD l k) (atD l i)).map (atD l) := by
    intro j
    induction j with
    | zero => intro _; simp
    | succ j ih =>
      intro hj
      have hj' : j < idx.length := by omega
      rw [List.range_succ, List.filter_append, List.map_append, ih (by omega), List.take_succ_eq_append_getElem hj', List.filter_append, List.map_append]
      congr 1
      rw [List.filter_cons, List.filter_cons, held_map hn hj']
      split
      · simp only [List.filter_nil, List.map_cons, List.map_nil]
        rw [atD_map hj']
      · simp
  have := h1 idx.length (Nat.le_refl _)
  rw [List.take_length] at this
  unfold ringV ringI
  rw [List.length_map]
  exact this
theorem ringVT_map {l : List DoneZ} : ∀ (n : Nat) {idx : List Nat}, idx.Nodup → ringVT n (idx.map (atD l)) = (ringTo l n idx).map (atD l)
  | 0, _, _ => rfl
  | n + 1, idx, hn => by
    unfold ringVT ringTo
    rw [ring_map hn]
    exact ringVT_map n (hn.sublist List.filter_sublist)
theorem map_atD (l : List DoneZ) : (List.range l.length).map (atD l) = l := by
  refine List.ext_getElem (by simp) fun i h1 h2 => ?_
  rw [List.getElem_map, List.getElem_range]
  unfold atD
  rw [List.getD_eq_getElem?_getD, List.getElem?_eq_getElem h2]
  rfl
theorem ringV_is (l : List DoneZ) : decide (0 < (ringVT l.length l).length) = ringB l := by
  have h := ringVT_map (l := l) l.length (idx := List.range l.length) List.nodup_range
  rw [map_atD] at h
  rw [h, List.length_map]
  unfold ringB
  cases ringTo l l.length (List.range l.length) with
  | nil => rfl
  | cons _ _ => simp
end Go.Proofs.Ytfdiidhilonkoaa
