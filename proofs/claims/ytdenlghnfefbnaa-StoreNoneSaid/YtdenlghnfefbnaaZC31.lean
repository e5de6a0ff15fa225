import Derived.Test.YtdenlghnfefbnaaZC29
import Derived.Test.YtdenlghnfefbnaaZC30
import Derived.Test.YtdenlghnfefbnaaZC14
/-
  The developers' store: how it turns in memory; trim.
-/
namespace Go.Proofs.Ytdenlghnfefbnaa
open Go.RowKit

def updC (cv : KeyS → Value) (k : KeyS) (v : Value) : KeyS → Value := fun x => if x = k then v else cv x
theorem updC_self (cv : KeyS → Value) (k : KeyS) (v : Value) : updC cv k v k = v := if_pos rfl
theorem updC_ne {cv : KeyS → Value} {k x : KeyS} (v : Value) (h : x ≠ k) : updC cv k v x = cv x := if_neg h
theorem mapG_put {g : KeyS → List Ver} {cv : KeyS → Value} {k : KeyS} {l : List Ver} {v : Value} (hl : l ≠ []) : mapG (updG g k l) (updC cv k v) = updM (mapG g cv) k (some v) := funext fun x => by
  unfold mapG
  by_cases h : x = k
  · subst h
    rw [updG_self, updC_self, updM_self, if_neg (by simpa using hl)]
  · rw [updG_ne _ h, updC_ne _ h, updM_ne _ h]
theorem mapG_drop {g : KeyS → List Ver} {cv : KeyS → Value} {k : KeyS} : mapG (updG g k []) cv = updM (mapG g cv) k none := funext fun x => by
  unfold mapG
  by_cases h : x = k
  · subst h
    rw [updG_self, updM_self]
    rfl
  · rw [updG_ne _ h, updM_ne _ h]
section
variable {w w' : World} {p : Nat} {F D : Nat → Prop} {B : Nat} {kv : Value} {cv : KeyS → Value} {L : LimS} {m r v : Int} {now : Nat} {g : KeyS → List Ver} {ks : List KeyS} {z : Sz}
/-- Another time, other sizes. -/
theorem RawS.turn (h : RawS w p F D B kv cv L m r v now g ks z) {now' : Nat} {z' : Sz} (hb : w'.heap[p]? = some (.cells (boxS L m r v now' B kv z') 77 (0, 0))) (hk : ∀ b, b ≠ p → w'.heap[b]? = w.heap[b]?) (hs : w.heap.size ≤ w'.heap.size) :
    RawS w' p F D B kv cv L m r v now' g ks z' where
  box := hb
  map := h.map.keep (hk B (Ne.symm h.pB))
  keys := OwnG.keep h.keys (fun b hb _ => hk b (h.kvp b hb).1) (Nat.le_refl _)
  chain := fun k hg => (h.chain k hg).keep (fun b hb => hk b (fun e => h.Dp (e ▸ hb))) (fun _ hb => hb) (fun b hb => hk b (h.cvp k hg b hb).1)
  Fp := h.Fp
  FB := h.FB
  Fk := h.Fk
  Fc := h.Fc
  FD := h.FD
  lt := fun b hb => Nat.lt_of_lt_of_le (h.lt b hb) hs
  pB := h.pB
  kvp := h.kvp
  cvp := h.cvp
  apart := h.apart
  Dp := h.Dp
  DB := h.DB
/-- A key has another chain. -/
theorem RawS.putC (h : RawS w p F D B kv cv L m r v now g ks z) {k : KeyS} {l : List Ver} {u : Value} {D' : Nat → Prop} {N : Nat → Prop} (hn : ∀ b, N b → ¬ F b ∧ b < w'.heap.size) (hl : l ≠ []) (hm : MapS w' B (mapG (updG g k l) (updC cv k u))) (hc : OwnC w' D' u l) (hs : w.heap.size ≤ w'.heap.size)
    (hd1 : ∀ b, D b → D' b) (hd2 : ∀ b, D' b → D b ∨ N b) (hu : ∀ b, u.ownBlock = some b → (N b ∨ (g k ≠ [] ∧ (cv k).ownBlock = some b)) ∧ ¬ D' b)
    (hk : ∀ b, F b → b ≠ B → (g k ≠ [] → (cv k).ownBlock ≠ some b) → w'.heap[b]? = w.heap[b]?) :
    RawS w' p (fun b => F b ∨ N b) D' B kv (updC cv k u) L m r v now (updG g k l) ks z := by
  have new : ∀ b, F b → ¬ N b := fun b hb h2 => (hn b h2).1 hb
  have hp : w'.heap[p]? = w.heap[p]? := hk p h.Fp h.pB fun hg e => (h.cvp k hg p e).1 rfl
  have hkeep : ∀ b, D b → w'.heap[b]? = w.heap[b]? := fun b hb => hk b (h.FD b hb) (fun e => h.DB (e ▸ hb)) fun hg e => (h.cvp k hg b e).2.2.1 hb
  have other : ∀ x, x ≠ k → ∀ {P : Prop}, (g x ≠ [] → P) → updG g k l x ≠ [] → P := fun x hx P hP hg => hP (by rw [updG_ne _ hx] at hg; exact hg)
  refine ⟨hp.trans h.box, hm, OwnG.keep h.keys (fun b hb _ => hk b (h.Fk b hb) (h.kvp b hb).2.1 fun hg e => (h.cvp k hg b e).2.2.2 hb) (Nat.le_refl _), fun x hg => ?_, .inl h.Fp, .inl h.FB, fun b hb => .inl (h.Fk b hb), fun x hg b hb => ?_, fun b hb => ?_, fun b hb => ?_, h.pB, fun b hb => ?_, fun x hg b hb => ?_, fun x y hx hy hne b hb => ?_, fun hd => ?_, fun hd => ?_⟩
  · by_cases hx : x = k
    · subst hx
      rw [updG_self, updC_self]
      exact hc
    · rw [updG_ne _ hx] at hg ⊢
      rw [updC_ne _ hx]
      exact (h.chain x hg).keep hkeep hd1 fun b hb => hk b (h.Fc x hg b hb) (h.cvp x hg b hb).2.1 fun hg2 e => h.apart x k hg hg2 hx b hb e
  · by_cases hx : x = k
    · subst hx
      rw [updC_self] at hb
      rcases (hu b hb).1 with h1 | ⟨h1, h2⟩
      · exact .inr h1
      · exact .inl (h.Fc x h1 b h2)
    · rw [updG_ne _ hx] at hg
      rw [updC_ne _ hx] at hb
      exact .inl (h.Fc x hg b hb)
  · rcases hd2 b hb with h1 | h1
    · exact .inl (h.FD b h1)
    · exact .inr h1
  · rcases hb with h1 | h1
    · exact Nat.lt_of_lt_of_le (h.lt b h1) hs
    · exact (hn b h1).2
  · refine ⟨(h.kvp b hb).1, (h.kvp b hb).2.1, fun hd => ?_⟩
    rcases hd2 b hd with h1 | h1
    · exact (h.kvp b hb).2.2 h1
    · exact new b (h.Fk b hb) h1
  · by_cases hx : x = k
    · subst hx
      rw [updC_self] at hb
      obtain ⟨h0, h9⟩ := hu b hb
      rcases h0 with h1 | ⟨h1, h2⟩
      · exact ⟨fun e => new p h.Fp (e ▸ h1), fun e => new B h.FB (e ▸ h1), h9, fun e => new b (h.Fk b e) h1⟩
      · obtain ⟨k1, k2, _, k4⟩ := h.cvp x h1 b h2
        exact ⟨k1, k2, h9, k4⟩
    · rw [updG_ne _ hx] at hg
      rw [updC_ne _ hx] at hb
      obtain ⟨k1, k2, k3, k4⟩ := h.cvp x hg b hb
      refine ⟨k1, k2, fun hd => ?_, k4⟩
      rcases hd2 b hd with h1 | h1
      · exact k3 h1
      · exact new b (h.Fc x hg b hb) h1
  · by_cases hxk : x = k
    · subst hxk
      have hyk : y ≠ x := Ne.symm hne
      rw [updG_ne _ hyk] at hy
      rw [updC_self] at hb
      rw [updC_ne _ hyk]
      intro e
      rcases (hu b hb).1 with h1 | ⟨h1, h2⟩
      · exact new b (h.Fc y hy b e) h1
      · exact h.apart x y h1 hy hne b h2 e
    · rw [updG_ne _ hxk] at hx
      rw [updC_ne _ hxk] at hb
      by_cases hyk : y = k
      · subst hyk
        rw [updC_self]
        intro e
        rcases (hu b e).1 with h1 | ⟨h1, h2⟩
        · exact new b (h.Fc x hx b hb) h1
        · exact h.apart x y hx h1 hne b hb h2
      · rw [updG_ne _ hyk] at hy
        rw [updC_ne _ hyk]
        exact h.apart x y hx hy hne b hb
  · rcases hd2 p hd with h1 | h1
    · exact h.Dp h1
    · exact new p h.Fp h1
  · rcases hd2 B hd with h1 | h1
    · exact h.DB h1
    · exact new B h.FB h1
/-- A key has no chain any more. -/
theorem RawS.dropC (h : RawS w p F D B kv cv L m r v now g ks z) {k : KeyS} (hm : MapS w' B (mapG (updG g k []) cv)) (hs : w.heap.size ≤ w'.heap.size) (hk : ∀ b, F b → b ≠ B → w'.heap[b]? = w.heap[b]?) :
    RawS w' p F D B kv cv L m r v now (updG g k []) ks z := by
  have old : ∀ x, updG g k [] x ≠ [] → x ≠ k ∧ g x ≠ [] := fun x hx => by
    by_cases e : x = k
    · subst e
      rw [updG_self] at hx
      exact absurd rfl hx
    · rw [updG_ne _ e] at hx
      exact ⟨e, hx⟩
  refine ⟨(hk p h.Fp h.pB).trans h.box, hm, OwnG.keep h.keys (fun b hb _ => hk b (h.Fk b hb) (h.kvp b hb).2.1) (Nat.le_refl _), fun x hg => ?_, h.Fp, h.FB, h.Fk, fun x hg => h.Fc x (old x hg).2, h.FD, fun b hb => Nat.lt_of_lt_of_le (h.lt b hb) hs, h.pB, h.kvp, fun x hg => h.cvp x (old x hg).2, fun x y hx hy => h.apart x y (old x hx).2 (old y hy).2, h.Dp, h.DB⟩
  obtain ⟨hx, hg2⟩ := old x hg
  rw [updG_ne _ hx]
  exact (h.chain x hg2).keep (fun b hb => hk b (h.FD b hb) fun e => h.DB (e ▸ hb)) (fun _ hb => hb) fun b hb => hk b (h.Fc x hg2 b hb) (h.cvp x hg2 b hb).2.1
/-- What a call that changes a store leaves. -/
def TurnR (w : World) (p : Nat) (F : Nat → Prop) (B : Nat) (kv : Value) (L : LimS) (m r v : Int) (now : Nat) (g : KeyS → List Ver) (ks : List KeyS) (z : Sz) (w' : World) : Prop :=
  ∃ F' D' cv', RawS w' p F' D' B kv cv' L m r v now g ks z ∧ Mut F w w' ∧ ∀ b, F' b → F b ∨ w.heap.size ≤ b
end
end Go.Proofs.Ytdenlghnfefbnaa
