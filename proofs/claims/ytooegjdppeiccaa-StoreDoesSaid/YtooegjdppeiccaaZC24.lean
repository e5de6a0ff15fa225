import Derived.Test.YtooegjdppeiccaaZC08
import Derived.Maps.Keyed
import Derived.Maps.Own
import Derived.Carry
/-
  Maps from keys to values, in memory: looked up, stored into, deleted from. No Go function is named here.
-/
namespace Go.Proofs.Ytooegjdppeiccaa
open Go.RowKit Go.MapKept
open Go.ChangeMaps (setBlock modify_eq_set heap_setBlock_same heap_setBlock_other)

theorem bs_inj {a b : List UInt8} (h : bs a = bs b) : a = b := by
  have := congrArg ByteArray.toList h
  rwa [bs_list, bs_list] at this
def keyV (k : KeyS) : Value := .string (bs k)
theorem keyV_inj {a b : KeyS} (h : keyV a = keyV b) : a = b := by
  unfold keyV at h
  injection h with h
  exact bs_inj h
def updM (f : KeyS → Option Value) (k : KeyS) (v : Option Value) : KeyS → Option Value := fun x => if x = k then v else f x
theorem updM_self (f : KeyS → Option Value) (k : KeyS) (v : Option Value) : updM f k v k = v := if_pos rfl
theorem updM_ne {f : KeyS → Option Value} {k x : KeyS} (v : Option Value) (h : x ≠ k) : updM f k v x = f x := if_neg h
/-- Entries that read as f. -/
structure ReadsM (l : List MapEntry) (f : KeyS → Option Value) : Prop where
  key : ∀ x ∈ l, ∃ k, x.key = keyV k
  apart : l.Pairwise (fun x y => x.key ≠ y.key)
  val : ∀ k v, f k = some v ↔ ∃ x ∈ l, x.key = keyV k ∧ x.val = v
theorem split_at {α : Type} {l : List α} {j : Nat} {e : α} (h : l[j]? = some e) : ∃ l1 l2, l = l1 ++ e :: l2 ∧ l1.length = j := by
  obtain ⟨hj, rfl⟩ := List.getElem?_eq_some_iff.1 h
  refine ⟨l.take j, l.drop (j + 1), ?_, by rw [List.length_take]; omega⟩
  rw [← List.drop_eq_getElem_cons hj, List.take_append_drop]
section
variable {l : List MapEntry} {f : KeyS → Option Value} {k : KeyS} {v : Value}
theorem ReadsM.none_ (h : ReadsM l f) (hn : ∀ x ∈ l, x.key ≠ keyV k) : f k = none := by
  cases hf : f k with
  | none => rfl
  | some v =>
    obtain ⟨x, hx, e, _⟩ := (h.val k v).1 hf
    exact absurd e (hn x hx)
theorem ReadsM.push (h : ReadsM l f) (hn : ∀ x ∈ l, x.key ≠ keyV k) (b : Nat) : ReadsM (l ++ [⟨keyV k, v, b⟩]) (updM f k (some v)) := by
  refine ⟨fun x hx => ?_, ?_, fun k' v' => ?_⟩
  · rcases List.mem_append.1 hx with hx | hx
    · exact h.key x hx
    · rw [List.mem_singleton] at hx
      subst hx
      exact ⟨k, rfl⟩
  · rw [List.pairwise_append]
    refine ⟨h.apart, List.pairwise_singleton _ _, fun x hx y hy => ?_⟩
    rw [List.mem_singleton] at hy
    subst hy
    exact hn x hx
  · by_cases e : k' = k
    · subst e
      rw [updM_self]
      constructor
      · intro hv
        injection hv with hv
        exact ⟨⟨keyV k', v, b⟩, by simp, rfl, hv⟩
      · rintro ⟨x, hx, e1, e2⟩
        rcases List.mem_append.1 hx with hx | hx
        · exact absurd e1 (hn x hx)
        · rw [List.mem_singleton] at hx
          subst hx
          rw [← e2]
    · rw [updM_ne _ e, h.val]
      constructor
      · rintro ⟨x, hx, h1⟩
        exact ⟨x, List.mem_append_left _ hx, h1⟩
      · rintro ⟨x, hx, e1, e2⟩
        rcases List.mem_append.1 hx with hx | hx
        · exact ⟨x, hx, e1, e2⟩
        · rw [List.mem_singleton] at hx
          subst hx
          exact absurd (keyV_inj e1).symm e
theorem ReadsM.set (h : ReadsM l f) {j : Nat} {e : MapEntry} (hj : l[j]? = some e) (he : e.key = keyV k) : ReadsM (l.set j { e with key := keyV k, val := v }) (updM f k (some v)) := by
  obtain ⟨l1, l2, rfl, rfl⟩ := split_at hj
  have hset : (l1 ++ e :: l2).set l1.length { e with key := keyV k, val := v } = l1 ++ { e with key := keyV k, val := v } :: l2 := by
    rw [List.set_append_right _ _ (Nat.le_refl _), Nat.sub_self]
    rfl
  rw [hset]
  have hp := h.apart
  rw [List.pairwise_append, List.pairwise_cons] at hp
  obtain ⟨p1, ⟨p2, p3⟩, p4⟩ := hp
  have hn1 : ∀ x ∈ l1, x.key ≠ keyV k := fun x hx => by rw [← he]; exact p4 x hx e (List.mem_cons_self ..)
  have hn2 : ∀ x ∈ l2, x.key ≠ keyV k := fun x hx => by rw [← he]; exact (p2 x hx).symm
  refine ⟨fun x hx => ?_, ?_, fun k' v' => ?_⟩
  · rcases List.mem_append.1 hx with hx | hx
    · exact h.key x (List.mem_append_left _ hx)
    · rcases List.mem_cons.1 hx with rfl | hx
      · exact ⟨k, rfl⟩
      · exact h.key x (List.mem_append_right _ (List.mem_cons_of_mem _ hx))
  · rw [List.pairwise_append, List.pairwise_cons]
    refine ⟨p1, ⟨fun x hx => (hn2 x hx).symm, p3⟩, fun x hx y hy => ?_⟩
    rcases List.mem_cons.1 hy with rfl | hy
    · exact hn1 x hx
    · exact p4 x hx y (List.mem_cons_of_mem _ hy)
  · by_cases ek : k' = k
    · subst ek
      rw [updM_self]
      constructor
      · intro hv
        injection hv with hv
        exact ⟨{ e with key := keyV k', val := v }, by simp, rfl, hv⟩
      · rintro ⟨x, hx, e1, e2⟩
        rcases List.mem_append.1 hx with hx | hx
        · exact absurd e1 (hn1 x hx)
        · rcases List.mem_cons.1 hx with rfl | hx
          · rw [← e2]
          · exact absurd e1 (hn2 x hx)
    · rw [updM_ne _ ek, h.val]
      constructor
      · rintro ⟨x, hx, e1, e2⟩
        rcases List.mem_append.1 hx with hx | hx
        · exact ⟨x, List.mem_append_left _ hx, e1, e2⟩
        · rcases List.mem_cons.1 hx with rfl | hx
          · rw [he] at e1
            exact absurd (keyV_inj e1).symm ek
          · exact ⟨x, List.mem_append_right _ (List.mem_cons_of_mem _ hx), e1, e2⟩
      · rintro ⟨x, hx, e1, e2⟩
        rcases List.mem_append.1 hx with hx | hx
        · exact ⟨x, List.mem_append_left _ hx, e1, e2⟩
        · rcases List.mem_cons.1 hx with rfl | hx
          · exact absurd (keyV_inj e1).symm ek
          · exact ⟨x, List.mem_append_right _ (List.mem_cons_of_mem _ hx), e1, e2⟩
theorem ReadsM.erase (h : ReadsM l f) {j : Nat} {e : MapEntry} (hj : l[j]? = some e) (he : e.key = keyV k) : ReadsM (l.eraseIdx j) (updM f k none) := by
  obtain ⟨l1, l2, rfl, rfl⟩ := split_at hj
  have hset : (l1 ++ e :: l2).eraseIdx l1.length = l1 ++ l2 := by
    rw [List.eraseIdx_append_of_length_le (Nat.le_refl _), Nat.sub_self]
    rfl
  rw [hset]
  have hp := h.apart
  rw [List.pairwise_append, List.pairwise_cons] at hp
  obtain ⟨p1, ⟨p2, p3⟩, p4⟩ := hp
  have hn1 : ∀ x ∈ l1, x.key ≠ keyV k := fun x hx => by rw [← he]; exact p4 x hx e (List.mem_cons_self ..)
  have hn2 : ∀ x ∈ l2, x.key ≠ keyV k := fun x hx => by rw [← he]; exact (p2 x hx).symm
  refine ⟨fun x hx => ?_, ?_, fun k' v' => ?_⟩
  · rcases List.mem_append.1 hx with hx | hx
    · exact h.key x (List.mem_append_left _ hx)
    · exact h.key x (List.mem_append_right _ (List.mem_cons_of_mem _ hx))
  · rw [List.pairwise_append]
    exact ⟨p1, p3, fun x hx y hy => p4 x hx y (List.mem_cons_of_mem _ hy)⟩
  · by_cases ek : k' = k
    · subst ek
      rw [updM_self]
      constructor
      · intro hv
        cases hv
      · rintro ⟨x, hx, e1, e2⟩
        rcases List.mem_append.1 hx with hx | hx
        · exact absurd e1 (hn1 x hx)
        · exact absurd e1 (hn2 x hx)
    · rw [updM_ne _ ek, h.val]
      constructor
      · rintro ⟨x, hx, e1, e2⟩
        rcases List.mem_append.1 hx with hx | hx
        · exact ⟨x, List.mem_append_left _ hx, e1, e2⟩
        · rcases List.mem_cons.1 hx with rfl | hx
          · rw [he] at e1
            exact absurd (keyV_inj e1).symm ek
          · exact ⟨x, List.mem_append_right _ hx, e1, e2⟩
      · rintro ⟨x, hx, e1, e2⟩
        rcases List.mem_append.1 hx with hx | hx
        · exact ⟨x, List.mem_append_left _ hx, e1, e2⟩
        · exact ⟨x, List.mem_append_right _ (List.mem_cons_of_mem _ hx), e1, e2⟩
theorem ReadsM.drop_none (h : ReadsM l f) (hn : ∀ x ∈ l, x.key ≠ keyV k) : ReadsM l (updM f k none) := by
  have e : updM f k none = f := funext fun x => by
    by_cases ek : x = k
    · subst ek
      rw [updM_self, h.none_ hn]
    · exact updM_ne _ ek
  rw [e]
  exact h
end
/-- Block B is a map that reads as f. -/
def MapS (w : World) (B : Nat) (f : KeyS → Option Value) : Prop := ∃ es clock, w.heap[B]? = some (.map es clock) ∧ ReadsM es.toList f
section
variable {P : Program} {w w' : World} {B : Nat} {f : KeyS → Option Value} {t kt et : TypeId}
theorem MapS.keep (h : MapS w B f) (hb : w'.heap[B]? = w.heap[B]?) : MapS w' B f := by
  obtain ⟨es, clock, h1, h2⟩ := h
  exact ⟨es, clock, hb.trans h1, h2⟩
theorem MapS.lt (h : MapS w B f) : B < w.heap.size := by
  obtain ⟨es, clock, h1, h2⟩ := h
  exact (Array.getElem?_eq_some_iff.1 h1).1
theorem MapS.made (w : World) : MapS (w.alloc (.map #[] 0)) w.heap.size fun _ => none :=
  ⟨#[], 0, heap_alloc_new w _, by simp, by simp, by simp⟩
theorem keyV_isKey (k : KeyS) : IsKey .string (keyV k) := by simp [IsKey, keyV]
theorem MapS.find {es : Array MapEntry} (h : ReadsM es.toList f) (hk : P.underlying kt = some .string) (w : World) (k : KeyS) :
    ((Instr.findKey kt (keyV k) es.toList).run P w = .ok none w ∧ (∀ x ∈ es.toList, x.key ≠ keyV k) ∧ f k = none) ∨
    ∃ j e, (Instr.findKey kt (keyV k) es.toList).run P w = .ok (some (j, e.val)) w ∧ es.toList[j]? = some e ∧ e.key = keyV k ∧ f k = some e.val := by
  rcases findNow_spec (keyV_isKey k) es.toList 0 (fun x hx => by
    obtain ⟨k', e⟩ := h.key x hx
    rw [e]
    exact keyV_isKey k') with ⟨h1, h2⟩ | ⟨j, e, h1, h2, h3⟩
  · exact .inl ⟨run_findKey hk h1, h2, h.none_ h2⟩
  · refine .inr ⟨j, e, by simpa using run_findKey hk h1, h2, h3, (h.val k e.val).2 ⟨e, List.mem_of_getElem? h2, h3, rfl⟩⟩
/-- 'm[k]', 'v, ok := m[k]'. -/
theorem MapS.look (h : MapS w B f) (ht : P.underlying t = some (.map kt et)) (hk : P.underlying kt = some .string) {z : Value} (hz : (zeroValue et).run P w = .ok z w) (c : Bool) (k : KeyS) :
    (Instr.lookup t (.map (some B)) (keyV k) c).run P w = .ok (if c then .tuple #[(f k).getD z, .bool (f k).isSome] else (f k).getD z) w := by
  obtain ⟨es, clock, h1, h2⟩ := h
  rcases MapS.find h2 hk w k with ⟨g1, g2, g3⟩ | ⟨j, e, g1, g2, g3, g4⟩
  · rw [g3]
    simp [Instr.lookup, run_underlying ht, MapKept.run_getObj_map h1, MapKept.run_checkKey hk (keyV_isKey k), g1, hz, Result.andThen]
  · rw [g4]
    simp [Instr.lookup, run_underlying ht, MapKept.run_getObj_map h1, MapKept.run_checkKey hk (keyV_isKey k), g1, Result.andThen]
/-- 'm[k] = v'. -/
theorem MapS.store (h : MapS w B f) (ht : P.underlying t = some (.map kt et)) (hk : P.underlying kt = some .string) (k : KeyS) (v : Value) :
    ∃ w', (Instr.mapUpdate t (.map (some B)) (keyV k) v).run P w = .ok () w' ∧ MapS w' B (updM f k (some v)) ∧ w.grownBy w' (some B) ∧ w'.heap.size = w.heap.size := by
  obtain ⟨es, clock, h1, h2⟩ := h
  rcases MapS.find h2 hk w k with ⟨g1, g2, g3⟩ | ⟨j, e, g1, g2, g3, g4⟩
  · refine ⟨setBlock w B (.map (es.push ⟨keyV k, v, clock⟩) (clock + 1)), ?_, ⟨_, _, heap_setBlock_same h1 _, ?_⟩, ⟨rfl, rfl, rfl, by simp [setBlock], fun i _ hi => heap_setBlock_other h1 _ (fun e => hi (by rw [e]))⟩, by simp [setBlock]⟩
    · simp [Instr.mapUpdate, run_underlying ht, MapKept.run_getObj_map h1, MapKept.run_checkKey hk (keyV_isKey k), g1, MapKept.run_setObj_map _ h1, Result.andThen, setBlock]
    · rw [Array.toList_push]
      exact h2.push g2 clock
  · have hj : es[j]? = some e := by simpa using g2
    have hlist : (es.modify j (fun e' => { e' with key := keyV k, val := v })).toList = es.toList.set j { e with key := keyV k, val := v } := by rw [Array.toList_modify, modify_eq_set _ _ _ _ g2]
    refine ⟨setBlock w B (.map (es.modify j fun e' => { e' with key := keyV k, val := v }) clock), ?_, ⟨_, _, heap_setBlock_same h1 _, ?_⟩, ⟨rfl, rfl, rfl, by simp [setBlock], fun i _ hi => heap_setBlock_other h1 _ (fun e => hi (by rw [e]))⟩, by simp [setBlock]⟩
    · simp [Instr.mapUpdate, run_underlying ht, MapKept.run_getObj_map h1, MapKept.run_checkKey hk (keyV_isKey k), g1, hj, g3, MapKept.run_keyThatStays (keyV_isKey k), MapKept.run_setObj_map _ h1, Result.andThen, setBlock]
    · rw [hlist]
      exact h2.set g2 g3
/-- 'delete(m, k)'. -/
theorem MapS.drop {ty : TypeId} {t2 : TypeId} (h : MapS w B f) (ht : P.underlying t = some (.map kt et)) (hk : P.underlying kt = some .string) (k : KeyS) :
    ∃ w', (Builtin.delete_ #[t, t2] ty #[.map (some B), keyV k]).run P w = .ok (.tuple #[]) w' ∧ MapS w' B (updM f k none) ∧ w.grownBy w' (some B) ∧ w'.heap.size = w.heap.size := by
  obtain ⟨es, clock, h1, h2⟩ := h
  rcases MapS.find h2 hk w k with ⟨g1, g2, g3⟩ | ⟨j, e, g1, g2, g3, g4⟩
  · refine ⟨setBlock w B (.map es clock), ?_, ⟨_, _, heap_setBlock_same h1 _, h2.drop_none g2⟩, ⟨rfl, rfl, rfl, by simp [setBlock], fun i _ hi => heap_setBlock_other h1 _ (fun e => hi (by rw [e]))⟩, by simp [setBlock]⟩
    simp [Builtin.delete_, run_underlying ht, MapKept.run_getObj_map h1, MapKept.run_checkKey hk (keyV_isKey k), g1, MapKept.run_setObj_map _ h1, Result.andThen, setBlock]
  · have hjl : j < es.toList.length := (List.getElem?_eq_some_iff.1 g2).1
    have hjs : j < es.size := by simpa using hjl
    have hsub : (es.eraseIdxIfInBounds j).toList = es.toList.eraseIdx j := by
      unfold Array.eraseIdxIfInBounds
      rw [dif_pos hjs]
      simp
    refine ⟨setBlock w B (.map (es.eraseIdxIfInBounds j) clock), ?_, ⟨_, _, heap_setBlock_same h1 _, ?_⟩, ⟨rfl, rfl, rfl, by simp [setBlock], fun i _ hi => heap_setBlock_other h1 _ (fun e => hi (by rw [e]))⟩, by simp [setBlock]⟩
    · simp [Builtin.delete_, run_underlying ht, MapKept.run_getObj_map h1, MapKept.run_checkKey hk (keyV_isKey k), g1, MapKept.run_setObj_map _ h1, Result.andThen, setBlock]
    · rw [hsub]
      exact h2.erase g2 g3
end
end Go.Proofs.Ytooegjdppeiccaa
