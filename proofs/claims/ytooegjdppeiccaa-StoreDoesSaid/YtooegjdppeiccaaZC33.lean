import Derived.Test.YtooegjdppeiccaaZC30
import Derived.Test.YtooegjdppeiccaaZC32
import Derived.Test.YtooegjdppeiccaaZC19
import Derived.Test.YtooegjdppeiccaaZC14
/-
  Collecting in plain words, key by key from the first one on.
-/
namespace Go.Proofs.Ytooegjdppeiccaa
open Go.RowKit

def updG (g : KeyS → List Ver) (k : KeyS) (l : List Ver) : KeyS → List Ver := fun x => if x = k then l else g x
theorem updG_self (g : KeyS → List Ver) (k : KeyS) (l : List Ver) : updG g k l k = l := if_pos rfl
theorem updG_ne {g : KeyS → List Ver} {k x : KeyS} (l : List Ver) (h : x ≠ k) : updG g k l x = g x := if_neg h
theorem updG_same (g : KeyS → List Ver) (k : KeyS) : updG g k (g k) = g := funext fun x => by
  by_cases h : x = k
  · subst h; exact updG_self _ _ _
  · exact updG_ne _ h
def trimZ (z : Sz) (k : KeyS) (l l' : List Ver) : Sz := ⟨z.k + m1 k l' - m1 k l, z.v + m2 k l' - m2 k l, z.b + m3 k l' - m3 k l⟩
theorem trimZ_same (z : Sz) (k : KeyS) (l : List Ver) : trimZ z k l l = z := by
  unfold trimZ
  obtain ⟨a, b, c⟩ := z
  simp
theorem chainS_app {a : KsS} (hf : FullS a) (b : KsS) (k : KeyS) : chainS (a ++ b) k = if (chainS a k).isEmpty = true then chainS b k else chainS a k := by
  induction a with
  | nil => rfl
  | cons x a ih =>
    rw [List.cons_append, chainS_cons, chainS_cons]
    by_cases e : x.1 = k
    · rw [if_pos e, if_pos e, if_neg]
      have := hf x (List.mem_cons_self ..)
      simpa using this
    · rw [if_neg e, if_neg e]
      exact ih fun y hy => hf y (List.mem_cons_of_mem _ hy)
def upT (K : KsS) (low j : Nat) : KsS := collectS (K.take j) low ++ K.drop j
section
variable {K : KsS} {low j : Nat}
theorem upT_zero : upT K low 0 = K := by unfold upT; simp [collectS]
theorem upT_len : upT K low K.length = collectS K low := by unfold upT; simp
theorem collect_key {x : KeyS × List Ver} (h : x ∈ collectS (K.take j) low) : ∃ y ∈ K.take j, y.1 = x.1 := by
  obtain ⟨y, hy, e, _⟩ := mem_collect.1 h
  exact ⟨y, hy, by rw [e]⟩
theorem take_lt (h : SortS K) {y x : KeyS × List Ver} (hy : y ∈ K.take j) (hx : x ∈ K.drop j) : blt y.1 x.1 = true := by
  have h2 : SortS (K.take j ++ K.drop j) := by rw [List.take_append_drop]; exact h
  exact (List.pairwise_append.1 h2).2.2 y hy x hx
theorem upT_sort (h : SortS K) : SortS (upT K low j) := by
  unfold upT SortS
  rw [List.pairwise_append]
  refine ⟨sort_collect (List.Pairwise.sublist (List.take_sublist _ _) h) low, List.Pairwise.sublist (List.drop_sublist _ _) h, fun x hx y hy => ?_⟩
  obtain ⟨u, hu, e⟩ := collect_key hx
  rw [← e]
  exact take_lt h hu hy
theorem upT_full (hf : FullS K) : FullS (upT K low j) := fun x hx => by
  rcases List.mem_append.1 hx with h1 | h1
  · exact full_collect _ _ x h1
  · exact hf x (List.mem_of_mem_drop h1)
theorem upT_split (hj : j < K.length) : upT K low j = collectS (K.take j) low ++ (K[j]'hj) :: K.drop (j + 1) := by
  unfold upT
  rw [List.drop_eq_getElem_cons hj]
theorem collect_succ (hj : j < K.length) : collectS (K.take (j + 1)) low = collectS (K.take j) low ++ (trimOne low (K[j]'hj)).toList := by
  unfold collectS
  rw [List.take_succ_eq_append_getElem hj, List.filterMap_append]
  congr 1
theorem upT_split2 (hj : j < K.length) : upT K low (j + 1) = collectS (K.take j) low ++ ((trimOne low (K[j]'hj)).toList ++ K.drop (j + 1)) := by
  unfold upT
  rw [collect_succ hj, List.append_assoc]
theorem trim_list (x : KeyS × List Ver) : (trimOne low x).toList = if (trimH x.2 low).isEmpty = true then [] else [(x.1, trimH x.2 low)] := by
  unfold trimOne
  split <;> rfl
theorem upT_chain (h : SortS K) (hj : j < K.length) : chainS (upT K low j) (K[j]'hj).1 = (K[j]'hj).2 :=
  chainS_mem (upT_sort h) (by rw [upT_split hj]; exact List.mem_append_right _ (List.mem_cons_self ..))
theorem upT_succ (h : SortS K) (hj : j < K.length) : chainS (upT K low (j + 1)) = updG (chainS (upT K low j)) (K[j]'hj).1 (trimH (K[j]'hj).2 low) := funext fun k => by
  have hs : SortS (upT K low j) := upT_sort h
  rw [upT_split hj] at hs ⊢
  rw [upT_split2 hj, chainS_app (full_collect _ _), trim_list]
  obtain ⟨_, h2, h3⟩ := List.pairwise_append.1 hs
  have hb := (List.pairwise_cons.1 h2).1
  have hdrop : chainS (K.drop (j + 1)) (K[j]'hj).1 = [] := chainS_no fun x hx => fun e => blt_ne (hb x hx) e.symm
  have ha : chainS (collectS (K.take j) low) (K[j]'hj).1 = [] := chainS_no fun x hx => blt_ne (h3 x hx _ (List.mem_cons_self ..))
  by_cases e : k = (K[j]'hj).1
  · rw [e, updG_self, ha, if_pos (show ([] : List Ver).isEmpty = true from rfl)]
    by_cases ht : (trimH (K[j]'hj).2 low).isEmpty = true
    · rw [if_pos ht, List.nil_append, hdrop]
      exact (List.isEmpty_iff.1 ht).symm
    · rw [if_neg ht, List.singleton_append, chainS_cons, if_pos rfl]
  · rw [updG_ne _ e, chainS_app (full_collect _ _)]
    have e2 : chainS ((K[j]'hj) :: K.drop (j + 1)) k = chainS (K.drop (j + 1)) k := by rw [chainS_cons, if_neg (fun e3 => e e3.symm)]
    have e4 : chainS ((if (trimH (K[j]'hj).2 low).isEmpty = true then [] else [((K[j]'hj).1, trimH (K[j]'hj).2 low)]) ++ K.drop (j + 1)) k = chainS (K.drop (j + 1)) k := by
      split
      · rfl
      · rw [List.singleton_append, chainS_cons, if_neg (fun e3 => e e3.symm)]
    rw [e2, e4]
theorem sum_trim {m : KeyS → List Ver → Nat} (h0 : ∀ k, m k [] = 0) (hj : j < K.length) : sumS m (upT K low (j + 1)) + m (K[j]'hj).1 (K[j]'hj).2 = sumS m (upT K low j) + m (K[j]'hj).1 (trimH (K[j]'hj).2 low) := by
  rw [upT_split hj, upT_split2 hj, sumS_app, sumS_app, sumS_app, sumS_cons, trim_list]
  split
  · next ht =>
    rw [List.isEmpty_iff.1 ht, h0]
    simp only [sumS, List.map_nil, List.sum_nil]
    omega
  · simp only [sumS, List.map_cons, List.map_nil, List.sum_cons, List.sum_nil]
    omega
theorem upT_sz (hf : FullS K) (hj : j < K.length) : szS (upT K low (j + 1)) = trimZ (szS (upT K low j)) (K[j]'hj).1 (K[j]'hj).2 (trimH (K[j]'hj).2 low) := by
  have s1 := sum_trim (low := low) m_zero.1 hj
  have s2 := sum_trim (low := low) m_zero.2.1 hj
  have s3 := sum_trim (low := low) m_zero.2.2 hj
  have e1 := len_sum (upT_full (low := low) (j := j + 1) hf)
  have e2 := vers_sum (upT K low (j + 1))
  have e3 := byts_sum (upT_full (low := low) (j := j + 1) hf)
  have d1 := len_sum (upT_full (low := low) (j := j) hf)
  have d2 := vers_sum (upT K low j)
  have d3 := byts_sum (upT_full (low := low) (j := j) hf)
  simp only [szS, trimZ, Sz.mk.injEq]
  omega
theorem upT_le (hf : FullS K) (hj : j < K.length) : m1 (K[j]'hj).1 (K[j]'hj).2 ≤ (szS (upT K low j)).k ∧ m2 (K[j]'hj).1 (K[j]'hj).2 ≤ (szS (upT K low j)).v ∧ m3 (K[j]'hj).1 (K[j]'hj).2 ≤ (szS (upT K low j)).b := by
  have d1 := len_sum (upT_full (low := low) (j := j) hf)
  have d2 := vers_sum (upT K low j)
  have d3 := byts_sum (upT_full (low := low) (j := j) hf)
  rw [upT_split hj, sumS_app, sumS_cons] at d1 d2 d3
  rw [← upT_split hj] at d1 d2 d3
  unfold szS
  simp only
  omega
theorem upT_small (hf : FullS K) : ∀ (j : Nat), j ≤ K.length → (szS (upT K low j)).k ≤ K.length ∧ (szS (upT K low j)).v ≤ versS K ∧ (szS (upT K low j)).b ≤ bytsS K
  | 0, _ => by rw [upT_zero]; exact ⟨Nat.le_refl _, Nat.le_refl _, Nat.le_refl _⟩
  | j + 1, hj => by
    have ih := upT_small hf j (by omega)
    have hm := m_trim (K[j]'(by omega)).1 (K[j]'(by omega)).2 low
    rw [upT_sz hf (by omega)]
    unfold trimZ
    simp only
    omega
theorem upT_keys (hj : j < K.length) : (collectS (K.take (j + 1)) low).map Prod.fst = (collectS (K.take j) low).map Prod.fst ++ (if (trimH (K[j]'hj).2 low).isEmpty = true then [] else [(K[j]'hj).1]) := by
  rw [collect_succ hj, List.map_append, trim_list]
  split <;> rfl
theorem collect_len (K : KsS) (low : Nat) : (collectS K low).length ≤ K.length := List.length_filterMap_le _ _
end
end Go.Proofs.Ytooegjdppeiccaa

/-
  The developers' store: how it turns in memory; trim.
-/
namespace Go.Proofs.Ytooegjdppeiccaa
open Go.RowKit

def updC (cv : KeyS → Value) (k : KeyS) (v : Value) : KeyS → Value := fun x => if x = k then v else cv x
theorem updC_self (cv : KeyS → Value) (k : KeyS) (v : Value) : updC cv k v k = v := if_pos rfl
theorem updC_ne {cv : KeyS → Value} {k x : KeyS} (v : Value) (h : x ≠ k) : updC cv k v x = cv x := if_neg h
theorem mapG_put {g : KeyS → List Ver} {cv : KeyS → Value} {k : KeyS} {l : List Ver} {v : Value} (hl : l ≠ []) : mapG (updG g k l) (updC cv k v) = updM (mapG g cv) k (some v) := funext fun x => by
  unfold mapG
  by_cases h : x = k
  · subst h
    rw [updG_self, updC_self, updM_self, if_neg (by simpa using hl)]
  · rw [updG_ne _ h, updC_ne _ h, updM_ne _ h]
theorem mapG_drop {g : KeyS → List Ver} {cv : KeyS → Value} {k : KeyS} : mapG (updG g k []) cv = updM (mapG g cv) k none := funext fun x => by
  unfold mapG
  by_cases h : x = k
  · subst h
    rw [updG_self, updM_self]
    rfl
  · rw [updG_ne _ h, updM_ne _ h]
section
variable {w w' : World} {p : Nat} {F D : Nat → Prop} {B : Nat} {kv : Value} {cv : KeyS → Value} {L : LimS} {m r v : Int} {now : Nat} {g : KeyS → List Ver} {ks : List KeyS} {z : Sz}
/-- Another time, other sizes. -/
theorem RawS.turn (h : RawS w p F D B kv cv L m r v now g ks z) {now' : Nat} {z' : Sz} (hb : w'.heap[p]? = some (.cells (boxS L m r v now' B kv z') 92 (0, 0))) (hk : ∀ b, b ≠ p → w'.heap[b]? = w.heap[b]?) (hs : w.heap.size ≤ w'.heap.size) :
    RawS w' p F D B kv cv L m r v now' g ks z' where
  box := hb
  map := h.map.keep (hk B (Ne.symm h.pB))
  keys := OwnG.keep h.keys (fun b hb _ => hk b (h.kvp b hb).1) (Nat.le_refl _)
  chain := fun k hg => (h.chain k hg).keep (fun b hb => hk b (fun e => h.Dp (e ▸ hb))) (fun _ hb => hb) (fun b hb => hk b (h.cvp k hg b hb).1)
  Fp := h.Fp
  FB := h.FB
  Fk := h.Fk
  Fc := h.Fc
  FD := h.FD
  lt := fun b hb => Nat.lt_of_lt_of_le (h.lt b hb) hs
  pB := h.pB
  kvp := h.kvp
  cvp := h.cvp
  apart := h.apart
  Dp := h.Dp
  DB := h.DB
/-- A key has another chain. -/
theorem RawS.putC (h : RawS w p F D B kv cv L m r v now g ks z) {k : KeyS} {l : List Ver} {u : Value} {D' : Nat → Prop} {N : Nat → Prop} (hn : ∀ b, N b → ¬ F b ∧ b < w'.heap.size) (hl : l ≠ []) (hm : MapS w' B (mapG (updG g k l) (updC cv k u))) (hc : OwnC w' D' u l) (hs : w.heap.size ≤ w'.heap.size)
    (hd1 : ∀ b, D b → D' b) (hd2 : ∀ b, D' b → D b ∨ N b) (hu : ∀ b, u.ownBlock = some b → (N b ∨ (g k ≠ [] ∧ (cv k).ownBlock = some b)) ∧ ¬ D' b)
    (hk : ∀ b, F b → b ≠ B → (g k ≠ [] → (cv k).ownBlock ≠ some b) → w'.heap[b]? = w.heap[b]?) :
    RawS w' p (fun b => F b ∨ N b) D' B kv (updC cv k u) L m r v now (updG g k l) ks z := by
  have new : ∀ b, F b → ¬ N b := fun b hb h2 => (hn b h2).1 hb
  have hp : w'.heap[p]? = w.heap[p]? := hk p h.Fp h.pB fun hg e => (h.cvp k hg p e).1 rfl
  have hkeep : ∀ b, D b → w'.heap[b]? = w.heap[b]? := fun b hb => hk b (h.FD b hb) (fun e => h.DB (e ▸ hb)) fun hg e => (h.cvp k hg b e).2.2.1 hb
  have other : ∀ x, x ≠ k → ∀ {P : Prop}, (g x ≠ [] → P) → updG g k l x ≠ [] → P := fun x hx P hP hg => hP (by rw [updG_ne _ hx] at hg; exact hg)
  refine ⟨hp.trans h.box, hm, OwnG.keep h.keys (fun b hb _ => hk b (h.Fk b hb) (h.kvp b hb).2.1 fun hg e => (h.cvp k hg b e).2.2.2 hb) (Nat.le_refl _), fun x hg => ?_, .inl h.Fp, .inl h.FB, fun b hb => .inl (h.Fk b hb), fun x hg b hb => ?_, fun b hb => ?_, fun b hb => ?_, h.pB, fun b hb => ?_, fun x hg b hb => ?_, fun x y hx hy hne b hb => ?_, fun hd => ?_, fun hd => ?_⟩
  · by_cases hx : x = k
    · subst hx
      rw [updG_self, updC_self]
      exact hc
    · rw [updG_ne _ hx] at hg ⊢
      rw [updC_ne _ hx]
      exact (h.chain x hg).keep hkeep hd1 fun b hb => hk b (h.Fc x hg b hb) (h.cvp x hg b hb).2.1 fun hg2 e => h.apart x k hg hg2 hx b hb e
  · by_cases hx : x = k
    · subst hx
      rw [updC_self] at hb
      rcases (hu b hb).1 with h1 | ⟨h1, h2⟩
      · exact .inr h1
      · exact .inl (h.Fc x h1 b h2)
    · rw [updG_ne _ hx] at hg
      rw [updC_ne _ hx] at hb
      exact .inl (h.Fc x hg b hb)
  · rcases hd2 b hb with h1 | h1
    · exact .inl (h.FD b h1)
    · exact .inr h1
  · rcases hb with h1 | h1
    · exact Nat.lt_of_lt_of_le (h.lt b h1) hs
    · exact (hn b h1).2
  · refine ⟨(h.kvp b hb).1, (h.kvp b hb).2.1, fun hd => ?_⟩
    rcases hd2 b hd with h1 | h1
    · exact (h.kvp b hb).2.2 h1
    · exact new b (h.Fk b hb) h1
  · by_cases hx : x = k
    · subst hx
      rw [updC_self] at hb
      obtain ⟨h0, h9⟩ := hu b hb
      rcases h0 with h1 | ⟨h1, h2⟩
      · exact ⟨fun e => new p h.Fp (e ▸ h1), fun e => new B h.FB (e ▸ h1), h9, fun e => new b (h.Fk b e) h1⟩
      · obtain ⟨k1, k2, _, k4⟩ := h.cvp x h1 b h2
        exact ⟨k1, k2, h9, k4⟩
    · rw [updG_ne _ hx] at hg
      rw [updC_ne _ hx] at hb
      obtain ⟨k1, k2, k3, k4⟩ := h.cvp x hg b hb
      refine ⟨k1, k2, fun hd => ?_, k4⟩
      rcases hd2 b hd with h1 | h1
      · exact k3 h1
      · exact new b (h.Fc x hg b hb) h1
  · by_cases hxk : x = k
    · subst hxk
      have hyk : y ≠ x := Ne.symm hne
      rw [updG_ne _ hyk] at hy
      rw [updC_self] at hb
      rw [updC_ne _ hyk]
      intro e
      rcases (hu b hb).1 with h1 | ⟨h1, h2⟩
      · exact new b (h.Fc y hy b e) h1
      · exact h.apart x y h1 hy hne b h2 e
    · rw [updG_ne _ hxk] at hx
      rw [updC_ne _ hxk] at hb
      by_cases hyk : y = k
      · subst hyk
        rw [updC_self]
        intro e
        rcases (hu b e).1 with h1 | ⟨h1, h2⟩
        · exact new b (h.Fc x hx b hb) h1
        · exact h.apart x y hx h1 hne b hb h2
      · rw [updG_ne _ hyk] at hy
        rw [updC_ne _ hyk]
        exact h.apart x y hx hy hne b hb
  · rcases hd2 p hd with h1 | h1
    · exact h.Dp h1
    · exact new p h.Fp h1
  · rcases hd2 B hd with h1 | h1
    · exact h.DB h1
    · exact new B h.FB h1
/-- A key has no chain any more. -/
theorem RawS.dropC (h : RawS w p F D B kv cv L m r v now g ks z) {k : KeyS} (hm : MapS w' B (mapG (updG g k []) cv)) (hs : w.heap.size ≤ w'.heap.size) (hk : ∀ b, F b → b ≠ B → w'.heap[b]? = w.heap[b]?) :
    RawS w' p F D B kv cv L m r v now (updG g k []) ks z := by
  have old : ∀ x, updG g k [] x ≠ [] → x ≠ k ∧ g x ≠ [] := fun x hx => by
    by_cases e : x = k
    · subst e
      rw [updG_self] at hx
      exact absurd rfl hx
    · rw [updG_ne _ e] at hx
      exact ⟨e, hx⟩
  refine ⟨(hk p h.Fp h.pB).trans h.box, hm, OwnG.keep h.keys (fun b hb _ => hk b (h.Fk b hb) (h.kvp b hb).2.1) (Nat.le_refl _), fun x hg => ?_, h.Fp, h.FB, h.Fk, fun x hg => h.Fc x (old x hg).2, h.FD, fun b hb => Nat.lt_of_lt_of_le (h.lt b hb) hs, h.pB, h.kvp, fun x hg => h.cvp x (old x hg).2, fun x y hx hy => h.apart x y (old x hx).2 (old y hy).2, h.Dp, h.DB⟩
  obtain ⟨hx, hg2⟩ := old x hg
  rw [updG_ne _ hx]
  exact (h.chain x hg2).keep (fun b hb => hk b (h.FD b hb) fun e => h.DB (e ▸ hb)) (fun _ hb => hb) fun b hb => hk b (h.Fc x hg2 b hb) (h.cvp x hg2 b hb).2.1
/-- What a call that changes a store leaves. -/
def TurnR (w : World) (p : Nat) (F : Nat → Prop) (B : Nat) (kv : Value) (L : LimS) (m r v : Int) (now : Nat) (g : KeyS → List Ver) (ks : List KeyS) (z : Sz) (w' : World) : Prop :=
  ∃ F' D' cv', RawS w' p F' D' B kv cv' L m r v now g ks z ∧ Mut F w w' ∧ ∀ b, F' b → F b ∨ w.heap.size ≤ b
end
end Go.Proofs.Ytooegjdppeiccaa
