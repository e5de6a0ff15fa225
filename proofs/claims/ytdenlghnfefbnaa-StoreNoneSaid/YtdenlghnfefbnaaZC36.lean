import Derived.Test.YtdenlghnfefbnaaZC32
import Derived.Test.YtdenlghnfefbnaaZC33
import Derived.Test.YtdenlghnfefbnaaZC35
/-
  The developers' store: its keys turn; Collect.
-/
namespace Go.Proofs.Ytdenlghnfefbnaa
open Go.RowKit

section
variable {w w' : World} {p : Nat} {F D : Nat → Prop} {B : Nat} {kv : Value} {cv : KeyS → Value} {L : LimS} {m r v : Int} {now : Nat} {g : KeyS → List Ver} {ks : List KeyS} {z : Sz}
/-- Other keys, in the same block or in a new one. -/
theorem RawS.keysNew (h : RawS w p F D B kv cv L m r v now g ks z) {kv' : Value} {ks' : List KeyS} {n0 : Nat} (hn : ∀ b, F b → b < n0) (hb : w'.heap[p]? = some (.cells (boxS L m r v now B kv' z) 77 (0, 0))) (ho : OwnG 9 1 kCells w' 0 kv' ks')
    (hs : w.heap.size ≤ w'.heap.size) (hv : ∀ b, kv'.ownBlock = some b → kv.ownBlock = some b ∨ (n0 ≤ b ∧ b < w'.heap.size)) (hk : ∀ b, F b → b ≠ p → kv.ownBlock ≠ some b → w'.heap[b]? = w.heap[b]?) :
    RawS w' p (fun b => F b ∨ (n0 ≤ b ∧ b < w'.heap.size)) D B kv' cv L m r v now g ks' z := by
  have new : ∀ b, F b → ¬ (n0 ≤ b) := fun b hb h2 => by have := hn b hb; omega
  have hkD : ∀ b, D b → w'.heap[b]? = w.heap[b]? := fun b hb => hk b (h.FD b hb) (fun e => h.Dp (e ▸ hb)) fun e => (h.kvp b e).2.2 hb
  refine ⟨hb, h.map.keep (hk B h.FB (Ne.symm h.pB) fun e => (h.kvp B e).2.1 rfl), ho, fun k hg => (h.chain k hg).keep hkD (fun _ hb => hb) fun b hb => hk b (h.Fc k hg b hb) (h.cvp k hg b hb).1 (h.cvp k hg b hb).2.2.2, .inl h.Fp, .inl h.FB, fun b hb => ?_, fun k hg b hb => .inl (h.Fc k hg b hb), fun b hb => .inl (h.FD b hb), fun b hb => ?_, h.pB, fun b hb => ?_, fun k hg b hb => ?_, h.apart, h.Dp, h.DB⟩
  · rcases hv b hb with h1 | h1
    · exact .inl (h.Fk b h1)
    · exact .inr h1
  · rcases hb with h1 | h1
    · exact Nat.lt_of_lt_of_le (h.lt b h1) hs
    · exact h1.2
  · rcases hv b hb with h1 | h1
    · exact h.kvp b h1
    · exact ⟨fun e => new p h.Fp (e ▸ h1.1), fun e => new B h.FB (e ▸ h1.1), fun e => new b (h.FD b e) h1.1⟩
  · obtain ⟨k1, k2, k3, k4⟩ := h.cvp k hg b hb
    refine ⟨k1, k2, k3, fun e => ?_⟩
    rcases hv b e with h1 | h1
    · exact k4 h1
    · exact new b (h.Fc k hg b hb) h1.1
/-- What a call that changes a store leaves. -/
def TurnK (w : World) (p : Nat) (F : Nat → Prop) (B : Nat) (L : LimS) (m r v : Int) (now : Nat) (K : KsS) (w' : World) : Prop :=
  ∃ F' D' kv' cv', RawS w' p F' D' B kv' cv' L m r v now (chainS K) (K.map Prod.fst) (szS K) ∧ Mut F w w' ∧ ∀ b, F' b → F b ∨ w.heap.size ≤ b
end
theorem setCells_row (g : Nat) (t : TypeId) : ∀ (vs : List Value) (o : Nat) (w : World) (cur : Array Value), w.heap[g]? = some (.cells cur t (0, 0)) →
    ∃ cur' : Array Value, (w.setCells g o vs).heap[g]? = some (.cells cur' t (0, 0)) ∧ cur'.size = cur.size ∧ (∀ i, i < o → cur'[i]? = cur[i]?) ∧ (∀ b, b ≠ g → (w.setCells g o vs).heap[b]? = w.heap[b]?) ∧ (w.setCells g o vs).heap.size = w.heap.size ∧
      (w.setCells g o vs).os = w.os ∧ (w.setCells g o vs).tape = w.tape ∧ (w.setCells g o vs).output = w.output
  | [], o, w, cur, h => ⟨cur, h, rfl, fun _ _ => rfl, fun _ _ => rfl, rfl, rfl, rfl, rfl⟩
  | v :: vs, o, w, cur, h => by
    have h1 : (w.setCell ⟨g, o, none⟩ v).heap[g]? = some (.cells (cur.setIfInBounds o v) t (0, 0)) := by
      rw [setCell_eq_setRow w g o cur t _ v h]
      exact setRow_heap w g cur _ _ _ h
    obtain ⟨cur', k1, k2, k3, k4, k5, k6, k7, k8⟩ := setCells_row g t vs (o + 1) (w.setCell ⟨g, o, none⟩ v) _ h1
    refine ⟨cur', k1, by rw [k2, Array.size_setIfInBounds], fun i hi => ?_, fun b hb => ?_, ?_, k6, k7, k8⟩
    · rw [k3 i (by omega), Array.getElem?_setIfInBounds_ne (by omega)]
    · exact (k4 b hb).trans (box_farJ hb _ _)
    · exact k5.trans (by simp [World.setCell])
/-- The row behind an append in its place. -/
theorem row_next {cur : Array Value} {kept ks : List KeyS} {key : KeyS} {n : Nat} (hn : (kept ++ ks.drop kept.length).length = n) (hl : kept.length < n) (h : cur.toList.take n = (kept ++ ks.drop kept.length).map keyV) (hc : n ≤ cur.size) :
    (cur.toList.take kept.length ++ [keyV key] ++ cur.toList.drop (kept.length + 1)).take n = ((kept ++ [key]) ++ ks.drop (kept ++ [key]).length).map keyV ∧ ((kept ++ [key]) ++ ks.drop (kept ++ [key]).length).length = n := by
  have hkl : ks.length = n := by rw [List.length_append, List.length_drop] at hn; omega
  have e1 : cur.toList.take kept.length = kept.map keyV := by
    have := congrArg (List.take kept.length) h
    rw [List.take_take, Nat.min_eq_left (by omega), List.map_append, List.take_append_of_le_length (by simp)] at this
    rw [this, List.take_of_length_le (by simp)]
  have e2 : (cur.toList.drop (kept.length + 1)).take (n - (kept.length + 1)) = (ks.drop (kept.length + 1)).map keyV := by
    have := congrArg (List.drop (kept.length + 1)) h
    rw [List.drop_take] at this
    rw [this, List.map_append, List.drop_append, List.drop_of_length_le (by simp), List.nil_append, List.length_map, Nat.add_sub_cancel_left, ← List.map_drop, List.drop_drop]
  constructor
  · rw [e1, List.append_assoc, List.take_append, List.take_of_length_le (by simp; omega), List.length_map]
    rw [List.take_append, List.take_of_length_le (by simp; omega), List.length_singleton]
    have e3 : n - kept.length - 1 = n - (kept.length + 1) := by omega
    rw [e3, e2, List.length_append, List.length_singleton]
    simp
  · simp only [List.length_append, List.length_drop, List.length_singleton]
    omega
end Go.Proofs.Ytdenlghnfefbnaa
