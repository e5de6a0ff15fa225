import Derived.Test.YtdpbllacfljmoaaGreatZF03
import Derived.Maps.Keyed
import Derived.Maps.Own
import Derived.Carry
import Derived.Maps.RangeWalk
set_option maxRecDepth 100000
set_option maxHeartbeats 16000000
set_option linter.unusedVariables false
namespace Go.Proofs.YtdpbllacfljmoaaGreat
open Go.RowKit Go.MapKept
open Go.ChangeMaps (setBlock modify_eq_set heap_setBlock_same heap_setBlock_other)
theorem qgA {a b : List UInt8} (h : bs a = bs b) : a = b := by
 have := congrArg ByteArray.toList h
 rwa [q1k, q1k] at this
def keyV (k : KeyS) : Value := .string (bs k)
theorem q4B {a b : KeyS} (h : keyV a = keyV b) : a = b := by
 unfold keyV at h
 injection h with h
 exact qgA h
def updM (f : KeyS → Option Value) (k : KeyS) (v : Option Value) : KeyS → Option Value := fun x => if x = k then v else f x
theorem q3c (f : KeyS → Option Value) (k : KeyS) (v : Option Value) : updM f k v k = v := if_pos rfl
theorem q5e {f : KeyS → Option Value} {k x : KeyS} (v : Option Value) (h : x ≠ k) : updM f k v x = f x := if_neg h
structure q2x (l : List MapEntry) (f : KeyS → Option Value) : Prop where
 key : ∀ x ∈ l, ∃ k, x.key = keyV k
 apart : l.Pairwise (fun x y => x.key ≠ y.key)
 val : ∀ k v, f k = some v ↔ ∃ x ∈ l, x.key = keyV k ∧ x.val = v
theorem q5K {α : Type} {l : List α} {j : Nat} {e : α} (h : l[j]? = some e) : ∃ l1 l2, l = l1 ++ e :: l2 ∧ l1.length = j := by
 obtain ⟨hj, rfl⟩ := List.getElem?_eq_some_iff.1 h
 refine ⟨l.take j, l.drop (j + 1), ?_, by rw [List.length_take]; omega⟩
 rw [← List.drop_eq_getElem_cons hj, List.take_append_drop]
section
variable {l : List MapEntry} {f : KeyS → Option Value} {k : KeyS} {v : Value}
theorem q2x.none_ (h : q2x l f) (hn : ∀ x ∈ l, x.key ≠ keyV k) : f k = none := by
 cases hf : f k with
 | none => rfl
 | some v =>
  obtain ⟨x, hx, e, _⟩ := (h.val k v).1 hf
  exact absurd e (hn x hx)
theorem q2x.push (h : q2x l f) (hn : ∀ x ∈ l, x.key ≠ keyV k) (b : Nat) : q2x (l ++ [⟨keyV k, v, b⟩]) (updM f k (some v)) := by
 refine ⟨fun x hx => ?_, ?_, fun k' v' => ?_⟩
 ·rcases List.mem_append.1 hx with hx | hx
  ·exact h.key x hx
  ·rw [List.mem_singleton] at hx
   subst hx
   exact ⟨k, rfl⟩
 ·rw [List.pairwise_append]
  refine ⟨h.apart, List.pairwise_singleton _ _, fun x hx y hy => ?_⟩
  rw [List.mem_singleton] at hy
  subst hy
  exact hn x hx
 ·by_cases e : k' = k
  ·subst e
   rw [q3c]
   constructor
   ·intro hv
    injection hv with hv
    exact ⟨⟨keyV k', v, b⟩, by simp, rfl, hv⟩
   ·rintro ⟨x, hx, e1, e2⟩
    rcases List.mem_append.1 hx with hx | hx
    ·exact absurd e1 (hn x hx)
    ·rw [List.mem_singleton] at hx
     subst hx
     rw [← e2]
  ·rw [q5e _ e, h.val]
   constructor
   ·rintro ⟨x, hx, h1⟩
    exact ⟨x, List.mem_append_left _ hx, h1⟩
   ·rintro ⟨x, hx, e1, e2⟩
    rcases List.mem_append.1 hx with hx | hx
    ·exact ⟨x, hx, e1, e2⟩
    ·rw [List.mem_singleton] at hx
     subst hx
     exact absurd (q4B e1).symm e
theorem q2x.set (h : q2x l f) {j : Nat} {e : MapEntry} (hj : l[j]? = some e) (he : e.key = keyV k) : q2x (l.set j { e with key := keyV k, val := v }) (updM f k (some v)) := by
 obtain ⟨l1, l2, rfl, rfl⟩ := q5K hj
 have hset : (l1 ++ e :: l2).set l1.length { e with key := keyV k, val := v } = l1 ++ { e with key := keyV k, val := v } :: l2 := by
  rw [List.set_append_right _ _ (Nat.le_refl _), Nat.sub_self]
  rfl
 rw [hset]
 have hp := h.apart
 rw [List.pairwise_append, List.pairwise_cons] at hp
 obtain ⟨p1, ⟨p2, p3⟩, p4⟩ := hp
 have hn1 : ∀ x ∈ l1, x.key ≠ keyV k := fun x hx => by rw [← he]; exact p4 x hx e (List.mem_cons_self ..)
 have hn2 : ∀ x ∈ l2, x.key ≠ keyV k := fun x hx => by rw [← he]; exact (p2 x hx).symm
 refine ⟨fun x hx => ?_, ?_, fun k' v' => ?_⟩
 ·rcases List.mem_append.1 hx with hx | hx
  ·exact h.key x (List.mem_append_left _ hx)
  ·rcases List.mem_cons.1 hx with rfl | hx
   ·exact ⟨k, rfl⟩
   ·exact h.key x (List.mem_append_right _ (List.mem_cons_of_mem _ hx))
 ·rw [List.pairwise_append, List.pairwise_cons]
  refine ⟨p1, ⟨fun x hx => (hn2 x hx).symm, p3⟩, fun x hx y hy => ?_⟩
  rcases List.mem_cons.1 hy with rfl | hy
  ·exact hn1 x hx
  ·exact p4 x hx y (List.mem_cons_of_mem _ hy)
 ·by_cases ek : k' = k
  ·subst ek
   rw [q3c]
   constructor
   ·intro hv
    injection hv with hv
    exact ⟨{ e with key := keyV k', val := v }, by simp, rfl, hv⟩
   ·rintro ⟨x, hx, e1, e2⟩
    rcases List.mem_append.1 hx with hx | hx
    ·exact absurd e1 (hn1 x hx)
    ·rcases List.mem_cons.1 hx with rfl | hx
     ·rw [← e2]
     ·exact absurd e1 (hn2 x hx)
  ·rw [q5e _ ek, h.val]
   constructor
   ·rintro ⟨x, hx, e1, e2⟩
    rcases List.mem_append.1 hx with hx | hx
    ·exact ⟨x, List.mem_append_left _ hx, e1, e2⟩
    ·rcases List.mem_cons.1 hx with rfl | hx
     ·rw [he] at e1
      exact absurd (q4B e1).symm ek
     ·exact ⟨x, List.mem_append_right _ (List.mem_cons_of_mem _ hx), e1, e2⟩
   ·rintro ⟨x, hx, e1, e2⟩
    rcases List.mem_append.1 hx with hx | hx
    ·exact ⟨x, List.mem_append_left _ hx, e1, e2⟩
    ·rcases List.mem_cons.1 hx with rfl | hx
     ·exact absurd (q4B e1).symm ek
     ·exact ⟨x, List.mem_append_right _ (List.mem_cons_of_mem _ hx), e1, e2⟩
theorem q2x.erase (h : q2x l f) {j : Nat} {e : MapEntry} (hj : l[j]? = some e) (he : e.key = keyV k) : q2x (l.eraseIdx j) (updM f k none) := by
 obtain ⟨l1, l2, rfl, rfl⟩ := q5K hj
 have hset : (l1 ++ e :: l2).eraseIdx l1.length = l1 ++ l2 := by
  rw [List.eraseIdx_append_of_length_le (Nat.le_refl _), Nat.sub_self]
  rfl
 rw [hset]
 have hp := h.apart
 rw [List.pairwise_append, List.pairwise_cons] at hp
 obtain ⟨p1, ⟨p2, p3⟩, p4⟩ := hp
 have hn1 : ∀ x ∈ l1, x.key ≠ keyV k := fun x hx => by rw [← he]; exact p4 x hx e (List.mem_cons_self ..)
 have hn2 : ∀ x ∈ l2, x.key ≠ keyV k := fun x hx => by rw [← he]; exact (p2 x hx).symm
 refine ⟨fun x hx => ?_, ?_, fun k' v' => ?_⟩
 ·rcases List.mem_append.1 hx with hx | hx
  ·exact h.key x (List.mem_append_left _ hx)
  ·exact h.key x (List.mem_append_right _ (List.mem_cons_of_mem _ hx))
 ·rw [List.pairwise_append]
  exact ⟨p1, p3, fun x hx y hy => p4 x hx y (List.mem_cons_of_mem _ hy)⟩
 ·by_cases ek : k' = k
  ·subst ek
   rw [q3c]
   constructor
   ·intro hv
    cases hv
   ·rintro ⟨x, hx, e1, e2⟩
    rcases List.mem_append.1 hx with hx | hx
    ·exact absurd e1 (hn1 x hx)
    ·exact absurd e1 (hn2 x hx)
  ·rw [q5e _ ek, h.val]
   constructor
   ·rintro ⟨x, hx, e1, e2⟩
    rcases List.mem_append.1 hx with hx | hx
    ·exact ⟨x, List.mem_append_left _ hx, e1, e2⟩
    ·rcases List.mem_cons.1 hx with rfl | hx
     ·rw [he] at e1
      exact absurd (q4B e1).symm ek
     ·exact ⟨x, List.mem_append_right _ hx, e1, e2⟩
   ·rintro ⟨x, hx, e1, e2⟩
    rcases List.mem_append.1 hx with hx | hx
    ·exact ⟨x, List.mem_append_left _ hx, e1, e2⟩
    ·exact ⟨x, List.mem_append_right _ (List.mem_cons_of_mem _ hx), e1, e2⟩
theorem q2x.drop_none (h : q2x l f) (hn : ∀ x ∈ l, x.key ≠ keyV k) : q2x l (updM f k none) := by
 have e : updM f k none = f := funext fun x => by
  by_cases ek : x = k
  ·subst ek
   rw [q3c, h.none_ hn]
  ·exact q5e _ ek
 rw [e]
 exact h
end
def MapS (w : World) (B : Nat) (f : KeyS → Option Value) : Prop := ∃ es clock, w.heap[B]? = some (.map es clock) ∧ q2x es.toList f
section
variable {P : Program} {w w' : World} {B : Nat} {f : KeyS → Option Value} {t kt et : TypeId}
theorem MapS.keep (h : MapS w B f) (hb : w'.heap[B]? = w.heap[B]?) : MapS w' B f := by
 obtain ⟨es, clock, h1, h2⟩ := h
 exact ⟨es, clock, hb.trans h1, h2⟩
theorem MapS.lt (h : MapS w B f) : B < w.heap.size := by
 obtain ⟨es, clock, h1, h2⟩ := h
 exact (Array.getElem?_eq_some_iff.1 h1).1
theorem MapS.made (w : World) : MapS (w.alloc (.map #[] 0)) w.heap.size fun _ => none :=
 ⟨#[], 0, heap_alloc_new w _, by simp, by simp, by simp⟩
theorem q19 (k : KeyS) : IsKey .string (keyV k) := by simp [IsKey, keyV]
theorem MapS.find {es : Array MapEntry} (h : q2x es.toList f) (hk : P.underlying kt = some .string) (w : World) (k : KeyS) :
  ((Instr.findKey kt (keyV k) es.toList).run P w = .ok none w ∧ (∀ x ∈ es.toList, x.key ≠ keyV k) ∧ f k = none) ∨
  ∃ j e, (Instr.findKey kt (keyV k) es.toList).run P w = .ok (some (j, e.val)) w ∧ es.toList[j]? = some e ∧ e.key = keyV k ∧ f k = some e.val := by
 rcases findNow_spec (q19 k) es.toList 0 (fun x hx => by
  obtain ⟨k', e⟩ := h.key x hx
  rw [e]
  exact q19 k') with ⟨h1, h2⟩ | ⟨j, e, h1, h2, h3⟩
 ·exact .inl ⟨run_findKey hk h1, h2, h.none_ h2⟩
 ·refine .inr ⟨j, e, by simpa using run_findKey hk h1, h2, h3, (h.val k e.val).2 ⟨e, List.mem_of_getElem? h2, h3, rfl⟩⟩
theorem MapS.look (h : MapS w B f) (ht : P.underlying t = some (.map kt et)) (hk : P.underlying kt = some .string) {z : Value} (hz : (zeroValue et).run P w = .ok z w) (c : Bool) (k : KeyS) :
  (Instr.lookup t (.map (some B)) (keyV k) c).run P w = .ok (if c then .tuple #[(f k).getD z, .bool (f k).isSome] else (f k).getD z) w := by
 obtain ⟨es, clock, h1, h2⟩ := h
 rcases MapS.find h2 hk w k with ⟨g1, g2, g3⟩ | ⟨j, e, g1, g2, g3, g4⟩
 ·rw [g3]
  simp [Instr.lookup, run_underlying ht, MapKept.run_getObj_map h1, MapKept.run_checkKey hk (q19 k), g1, hz, Result.andThen]
 ·rw [g4]
  simp [Instr.lookup, run_underlying ht, MapKept.run_getObj_map h1, MapKept.run_checkKey hk (q19 k), g1, Result.andThen]
theorem MapS.store (h : MapS w B f) (ht : P.underlying t = some (.map kt et)) (hk : P.underlying kt = some .string) (k : KeyS) (v : Value) :
  ∃ w', (Instr.mapUpdate t (.map (some B)) (keyV k) v).run P w = .ok () w' ∧ MapS w' B (updM f k (some v)) ∧ w.grownBy w' (some B) ∧ w'.heap.size = w.heap.size := by
 obtain ⟨es, clock, h1, h2⟩ := h
 rcases MapS.find h2 hk w k with ⟨g1, g2, g3⟩ | ⟨j, e, g1, g2, g3, g4⟩
 ·refine ⟨setBlock w B (.map (es.push ⟨keyV k, v, clock⟩) (clock + 1)), ?_, ⟨_, _, heap_setBlock_same h1 _, ?_⟩, ⟨rfl, rfl, rfl, by simp [setBlock], fun i _ hi => heap_setBlock_other h1 _ (fun e => hi (by rw [e]))⟩, by simp [setBlock]⟩
  ·simp [Instr.mapUpdate, run_underlying ht, MapKept.run_getObj_map h1, MapKept.run_checkKey hk (q19 k), g1, MapKept.run_setObj_map _ h1, Result.andThen, setBlock]
  ·rw [Array.toList_push]
   exact h2.push g2 clock
 ·have hj : es[j]? = some e := by simpa using g2
  have hlist : (es.modify j (fun e' => { e' with key := keyV k, val := v })).toList = es.toList.set j { e with key := keyV k, val := v } := by rw [Array.toList_modify, modify_eq_set _ _ _ _ g2]
  refine ⟨setBlock w B (.map (es.modify j fun e' => { e' with key := keyV k, val := v }) clock), ?_, ⟨_, _, heap_setBlock_same h1 _, ?_⟩, ⟨rfl, rfl, rfl, by simp [setBlock], fun i _ hi => heap_setBlock_other h1 _ (fun e => hi (by rw [e]))⟩, by simp [setBlock]⟩
  ·simp [Instr.mapUpdate, run_underlying ht, MapKept.run_getObj_map h1, MapKept.run_checkKey hk (q19 k), g1, hj, g3, MapKept.run_keyThatStays (q19 k), MapKept.run_setObj_map _ h1, Result.andThen, setBlock]
  ·rw [hlist]
   exact h2.set g2 g3
theorem MapS.drop {ty : TypeId} {t2 : TypeId} (h : MapS w B f) (ht : P.underlying t = some (.map kt et)) (hk : P.underlying kt = some .string) (k : KeyS) :
  ∃ w', (Builtin.delete_ #[t, t2] ty #[.map (some B), keyV k]).run P w = .ok (.tuple #[]) w' ∧ MapS w' B (updM f k none) ∧ w.grownBy w' (some B) ∧ w'.heap.size = w.heap.size := by
 obtain ⟨es, clock, h1, h2⟩ := h
 rcases MapS.find h2 hk w k with ⟨g1, g2, g3⟩ | ⟨j, e, g1, g2, g3, g4⟩
 ·refine ⟨setBlock w B (.map es clock), ?_, ⟨_, _, heap_setBlock_same h1 _, h2.drop_none g2⟩, ⟨rfl, rfl, rfl, by simp [setBlock], fun i _ hi => heap_setBlock_other h1 _ (fun e => hi (by rw [e]))⟩, by simp [setBlock]⟩
  simp [Builtin.delete_, run_underlying ht, MapKept.run_getObj_map h1, MapKept.run_checkKey hk (q19 k), g1, MapKept.run_setObj_map _ h1, Result.andThen, setBlock]
 ·have hjl : j < es.toList.length := (List.getElem?_eq_some_iff.1 g2).1
  have hjs : j < es.size := by simpa using hjl
  have hsub : (es.eraseIdxIfInBounds j).toList = es.toList.eraseIdx j := by
   unfold Array.eraseIdxIfInBounds
   rw [dif_pos hjs]
   simp
  refine ⟨setBlock w B (.map (es.eraseIdxIfInBounds j) clock), ?_, ⟨_, _, heap_setBlock_same h1 _, ?_⟩, ⟨rfl, rfl, rfl, by simp [setBlock], fun i _ hi => heap_setBlock_other h1 _ (fun e => hi (by rw [e]))⟩, by simp [setBlock]⟩
  ·simp [Builtin.delete_, run_underlying ht, MapKept.run_getObj_map h1, MapKept.run_checkKey hk (q19 k), g1, MapKept.run_setObj_map _ h1, Result.andThen, setBlock]
  ·rw [hsub]
   exact h2.erase g2 g3
end
open Go.RowKit Go.MapKept
open Go.ChangeMaps (setBlock modify_eq_set heap_setBlock_same heap_setBlock_other)
structure KeyK (α : Type) where
 d : TypeDesc
 enc : α → Value
 inj : ∀ {a b : α}, enc a = enc b → a = b
 key : ∀ a, IsKey d (enc a)
def strK : KeyK KeyS := ⟨.string, keyV, q4B, q19⟩
def intK : KeyK Int := ⟨.int .i64, fun n => .int .i64 n, fun h => by injection h, fun _ => rfl⟩
section
variable {α : Type}
def updK [DecidableEq α] (f : α → Option Value) (k : α) (v : Option Value) : α → Option Value := fun x => if x = k then v else f x
theorem q2O [DecidableEq α] (f : α → Option Value) (k : α) (v : Option Value) : updK f k v k = v := if_pos rfl
theorem q4n [DecidableEq α] {f : α → Option Value} {k x : α} (v : Option Value) (h : x ≠ k) : updK f k v x = f x := if_neg h
structure q1G (K : KeyK α) (es : Array MapEntry) (clock : Nat) (f : α → Option Value) : Prop where
 key : ∀ x ∈ es.toList, ∃ k, x.key = K.enc k
 stamp : Stamped es clock
 val : ∀ k v, f k = some v ↔ ∃ x ∈ es.toList, x.key = K.enc k ∧ x.val = v
section
variable {K : KeyK α} {es : Array MapEntry} {clock : Nat} {f : α → Option Value} {k : α} {v : Value}
theorem q1G.apart (h : q1G K es clock f) : es.toList.Pairwise (fun x y => x.key ≠ y.key) := by
 have := h.stamp.2.2
 unfold List.Nodup at this
 rwa [List.pairwise_map] at this
theorem q1G.none_ (h : q1G K es clock f) (hn : ∀ x ∈ es.toList, x.key ≠ K.enc k) : f k = none := by
 cases hf : f k with
 | none => rfl
 | some v =>
  obtain ⟨x, hx, e, _⟩ := (h.val k v).1 hf
  exact absurd e (hn x hx)
theorem q1G.push [DecidableEq α] (h : q1G K es clock f) (hn : ∀ x ∈ es.toList, x.key ≠ K.enc k) : q1G K (es.push ⟨K.enc k, v, clock⟩) (clock + 1) (updK f k (some v)) := by
 refine ⟨fun x hx => ?_, stamped_push h.stamp hn, fun k' v' => ?_⟩
 ·rw [Array.toList_push] at hx
  rcases List.mem_append.1 hx with hx | hx
  ·exact h.key x hx
  ·rw [List.mem_singleton] at hx
   subst hx
   exact ⟨k, rfl⟩
 ·rw [Array.toList_push]
  by_cases e : k' = k
  ·subst e
   rw [q2O]
   constructor
   ·intro hv
    injection hv with hv
    exact ⟨⟨K.enc k', v, clock⟩, by simp, rfl, hv⟩
   ·rintro ⟨x, hx, e1, e2⟩
    rcases List.mem_append.1 hx with hx | hx
    ·exact absurd e1 (hn x hx)
    ·rw [List.mem_singleton] at hx
     subst hx
     rw [← e2]
  ·rw [q4n _ e, h.val]
   constructor
   ·rintro ⟨x, hx, h1⟩
    exact ⟨x, List.mem_append_left _ hx, h1⟩
   ·rintro ⟨x, hx, e1, e2⟩
    rcases List.mem_append.1 hx with hx | hx
    ·exact ⟨x, hx, e1, e2⟩
    ·rw [List.mem_singleton] at hx
     subst hx
     exact absurd (K.inj e1).symm e
theorem q1G.set [DecidableEq α] (h : q1G K es clock f) {j : Nat} {e : MapEntry} (hj : es.toList[j]? = some e) (he : e.key = K.enc k) : q1G K (es.modify j fun e' => { e' with key := K.enc k, val := v }) clock (updK f k (some v)) := by
 have hap := h.apart
 have hst : Stamped (es.modify j fun e' => { e' with key := K.enc k, val := v }) clock := stamped_modify h.stamp j _ (fun _ _ => rfl) (fun e1 _ he1 => by
  have e2 : es.toList[j]? = some e1 := by simpa using he1
  rw [hj] at e2
  injection e2 with e2
  subst e2
  exact he.symm)
 have hk := h.key
 have hv := h.val
 have hlist : (es.modify j (fun e' => { e' with key := K.enc k, val := v })).toList = es.toList.set j { e with key := K.enc k, val := v } := by rw [Array.toList_modify, modify_eq_set _ _ _ _ hj]
 refine ⟨?_, hst, ?_⟩ <;> rw [hlist]
 all_goals
  obtain ⟨l1, l2, hl, rfl⟩ := q5K hj
  rw [hl] at hap hk hv ⊢
  have hset : (l1 ++ e :: l2).set l1.length { e with key := K.enc k, val := v } = l1 ++ { e with key := K.enc k, val := v } :: l2 := by
   rw [List.set_append_right _ _ (Nat.le_refl _), Nat.sub_self]
   rfl
  rw [hset]
  rw [List.pairwise_append, List.pairwise_cons] at hap
  obtain ⟨p1, ⟨p2, p3⟩, p4⟩ := hap
 ·intro x hx
  rcases List.mem_append.1 hx with hx | hx
  ·exact hk x (List.mem_append_left _ hx)
  ·rcases List.mem_cons.1 hx with rfl | hx
   ·exact ⟨k, rfl⟩
   ·exact hk x (List.mem_append_right _ (List.mem_cons_of_mem _ hx))
 ·have hn1 : ∀ x ∈ l1, x.key ≠ K.enc k := fun x hx => by rw [← he]; exact p4 x hx e (List.mem_cons_self ..)
  have hn2 : ∀ x ∈ l2, x.key ≠ K.enc k := fun x hx => by rw [← he]; exact (p2 x hx).symm
  intro k' v'
  by_cases ek : k' = k
  ·subst ek
   rw [q2O]
   constructor
   ·intro hv
    injection hv with hv
    exact ⟨{ e with key := K.enc k', val := v }, by simp, rfl, hv⟩
   ·rintro ⟨x, hx, e1, e2⟩
    rcases List.mem_append.1 hx with hx | hx
    ·exact absurd e1 (hn1 x hx)
    ·rcases List.mem_cons.1 hx with rfl | hx
     ·rw [← e2]
     ·exact absurd e1 (hn2 x hx)
  ·rw [q4n _ ek, hv]
   constructor
   ·rintro ⟨x, hx, e1, e2⟩
    rcases List.mem_append.1 hx with hx | hx
    ·exact ⟨x, List.mem_append_left _ hx, e1, e2⟩
    ·rcases List.mem_cons.1 hx with rfl | hx
     ·rw [he] at e1
      exact absurd (K.inj e1).symm ek
     ·exact ⟨x, List.mem_append_right _ (List.mem_cons_of_mem _ hx), e1, e2⟩
   ·rintro ⟨x, hx, e1, e2⟩
    rcases List.mem_append.1 hx with hx | hx
    ·exact ⟨x, List.mem_append_left _ hx, e1, e2⟩
    ·rcases List.mem_cons.1 hx with rfl | hx
     ·exact absurd (K.inj e1).symm ek
     ·exact ⟨x, List.mem_append_right _ (List.mem_cons_of_mem _ hx), e1, e2⟩
theorem q1G.erase [DecidableEq α] (h : q1G K es clock f) {j : Nat} {e : MapEntry} (hj : es.toList[j]? = some e) (he : e.key = K.enc k) : q1G K (es.eraseIdxIfInBounds j) clock (updK f k none) := by
 have hst := stamped_erase h.stamp j
 have hap := h.apart
 have hk := h.key
 have hv := h.val
 have hjs : j < es.size := by
  have := (List.getElem?_eq_some_iff.1 hj).1
  simpa using this
 have hsub : (es.eraseIdxIfInBounds j).toList = es.toList.eraseIdx j := by
  unfold Array.eraseIdxIfInBounds
  rw [dif_pos hjs]
  simp
 refine ⟨?_, hst, ?_⟩ <;> rw [hsub]
 all_goals
  obtain ⟨l1, l2, hl, rfl⟩ := q5K hj
  rw [hl] at hap hk hv ⊢
  have hset : (l1 ++ e :: l2).eraseIdx l1.length = l1 ++ l2 := by
   rw [List.eraseIdx_append_of_length_le (Nat.le_refl _), Nat.sub_self]
   rfl
  rw [hset]
  rw [List.pairwise_append, List.pairwise_cons] at hap
  obtain ⟨p1, ⟨p2, p3⟩, p4⟩ := hap
 ·intro x hx
  rcases List.mem_append.1 hx with hx | hx
  ·exact hk x (List.mem_append_left _ hx)
  ·exact hk x (List.mem_append_right _ (List.mem_cons_of_mem _ hx))
 ·have hn1 : ∀ x ∈ l1, x.key ≠ K.enc k := fun x hx => by rw [← he]; exact p4 x hx e (List.mem_cons_self ..)
  have hn2 : ∀ x ∈ l2, x.key ≠ K.enc k := fun x hx => by rw [← he]; exact (p2 x hx).symm
  intro k' v'
  by_cases ek : k' = k
  ·subst ek
   rw [q2O]
   constructor
   ·intro hv
    cases hv
   ·rintro ⟨x, hx, e1, e2⟩
    rcases List.mem_append.1 hx with hx | hx
    ·exact absurd e1 (hn1 x hx)
    ·exact absurd e1 (hn2 x hx)
  ·rw [q4n _ ek, hv]
   constructor
   ·rintro ⟨x, hx, e1, e2⟩
    rcases List.mem_append.1 hx with hx | hx
    ·exact ⟨x, List.mem_append_left _ hx, e1, e2⟩
    ·rcases List.mem_cons.1 hx with rfl | hx
     ·rw [he] at e1
      exact absurd (K.inj e1).symm ek
     ·exact ⟨x, List.mem_append_right _ hx, e1, e2⟩
   ·rintro ⟨x, hx, e1, e2⟩
    rcases List.mem_append.1 hx with hx | hx
    ·exact ⟨x, List.mem_append_left _ hx, e1, e2⟩
    ·exact ⟨x, List.mem_append_right _ (List.mem_cons_of_mem _ hx), e1, e2⟩
theorem q1G.drop_none [DecidableEq α] (h : q1G K es clock f) (hn : ∀ x ∈ es.toList, x.key ≠ K.enc k) : q1G K es clock (updK f k none) := by
 have e : updK f k none = f := funext fun x => by
  by_cases ek : x = k
  ·subst ek
   rw [q2O, h.none_ hn]
  ·exact q4n _ ek
 rw [e]
 exact h
theorem q1G.count (h : q1G K es clock f) {ks : List α} (hd : ks.Nodup) (hk : ∀ k, k ∈ ks ↔ (f k).isSome = true) : es.size = ks.length := by
 have hp : (es.toList.map MapEntry.key).Perm (ks.map K.enc) := by
  refine (List.perm_ext_iff_of_nodup h.stamp.2.2 (List.Pairwise.map _ (fun a b (hab : a ≠ b) e => hab (K.inj e)) hd)).2 fun v => ?_
  rw [List.mem_map, List.mem_map]
  constructor
  ·rintro ⟨x, hx, rfl⟩
   obtain ⟨k, e⟩ := h.key x hx
   refine ⟨k, (hk k).2 ?_, e.symm⟩
   rw [(h.val k x.val).2 ⟨x, hx, e, rfl⟩]
   rfl
  ·rintro ⟨k, hk2, rfl⟩
   obtain ⟨v, hv⟩ := Option.isSome_iff_exists.1 ((hk k).1 hk2)
   obtain ⟨x, hx, e, _⟩ := (h.val k v).1 hv
   exact ⟨x, hx, e⟩
 have := hp.length_eq
 simpa using this
end
def MapK (K : KeyK α) (w : World) (B : Nat) (f : α → Option Value) : Prop := ∃ es clock, w.heap[B]? = some (.map es clock) ∧ q1G K es clock f
section
variable {P : Program} {w w' : World} {B : Nat} {K : KeyK α} {f : α → Option Value} {t kt et : TypeId}
theorem MapK.keep (h : MapK K w B f) (hb : w'.heap[B]? = w.heap[B]?) : MapK K w' B f := by
 obtain ⟨es, clock, h1, h2⟩ := h
 exact ⟨es, clock, hb.trans h1, h2⟩
theorem MapK.lt (h : MapK K w B f) : B < w.heap.size := by
 obtain ⟨es, clock, h1, h2⟩ := h
 exact (Array.getElem?_eq_some_iff.1 h1).1
theorem MapK.made (K : KeyK α) (w : World) : MapK K (w.alloc (.map #[] 0)) w.heap.size fun _ => none :=
 ⟨#[], 0, heap_alloc_new w _, by simp, stamped_empty 0, by simp⟩
theorem MapK.find {es : Array MapEntry} {clock : Nat} (h : q1G K es clock f) (hk : P.underlying kt = some K.d) (w : World) (k : α) :
  ((Instr.findKey kt (K.enc k) es.toList).run P w = .ok none w ∧ (∀ x ∈ es.toList, x.key ≠ K.enc k) ∧ f k = none) ∨
  ∃ j e, (Instr.findKey kt (K.enc k) es.toList).run P w = .ok (some (j, e.val)) w ∧ es.toList[j]? = some e ∧ e.key = K.enc k ∧ f k = some e.val := by
 rcases findNow_spec (K.key k) es.toList 0 (fun x hx => by
  obtain ⟨k', e⟩ := h.key x hx
  rw [e]
  exact K.key k') with ⟨h1, h2⟩ | ⟨j, e, h1, h2, h3⟩
 ·exact .inl ⟨run_findKey hk h1, h2, h.none_ h2⟩
 ·refine .inr ⟨j, e, by simpa using run_findKey hk h1, h2, h3, (h.val k e.val).2 ⟨e, List.mem_of_getElem? h2, h3, rfl⟩⟩
theorem MapK.look (h : MapK K w B f) (ht : P.underlying t = some (.map kt et)) (hk : P.underlying kt = some K.d) {z : Value} (hz : (zeroValue et).run P w = .ok z w) (c : Bool) (k : α) :
  (Instr.lookup t (.map (some B)) (K.enc k) c).run P w = .ok (if c then .tuple #[(f k).getD z, .bool (f k).isSome] else (f k).getD z) w := by
 obtain ⟨es, clock, h1, h2⟩ := h
 rcases MapK.find h2 hk w k with ⟨g1, g2, g3⟩ | ⟨j, e, g1, g2, g3, g4⟩
 ·rw [g3]
  simp [Instr.lookup, run_underlying ht, MapKept.run_getObj_map h1, MapKept.run_checkKey hk (K.key k), g1, hz, Result.andThen]
 ·rw [g4]
  simp [Instr.lookup, run_underlying ht, MapKept.run_getObj_map h1, MapKept.run_checkKey hk (K.key k), g1, Result.andThen]
theorem MapK.store [DecidableEq α] (h : MapK K w B f) (ht : P.underlying t = some (.map kt et)) (hk : P.underlying kt = some K.d) (k : α) (v : Value) :
  ∃ w', (Instr.mapUpdate t (.map (some B)) (K.enc k) v).run P w = .ok () w' ∧ MapK K w' B (updK f k (some v)) ∧ w.grownBy w' (some B) ∧ w'.heap.size = w.heap.size := by
 obtain ⟨es, clock, h1, h2⟩ := h
 rcases MapK.find h2 hk w k with ⟨g1, g2, g3⟩ | ⟨j, e, g1, g2, g3, g4⟩
 ·refine ⟨setBlock w B (.map (es.push ⟨K.enc k, v, clock⟩) (clock + 1)), ?_, ⟨_, _, heap_setBlock_same h1 _, h2.push g2⟩, ⟨rfl, rfl, rfl, by simp [setBlock], fun i _ hi => heap_setBlock_other h1 _ (fun e => hi (by rw [e]))⟩, by simp [setBlock]⟩
  simp [Instr.mapUpdate, run_underlying ht, MapKept.run_getObj_map h1, MapKept.run_checkKey hk (K.key k), g1, MapKept.run_setObj_map _ h1, Result.andThen, setBlock]
 ·have hj : es[j]? = some e := by simpa using g2
  refine ⟨setBlock w B (.map (es.modify j fun e' => { e' with key := K.enc k, val := v }) clock), ?_, ⟨_, _, heap_setBlock_same h1 _, h2.set g2 g3⟩, ⟨rfl, rfl, rfl, by simp [setBlock], fun i _ hi => heap_setBlock_other h1 _ (fun e => hi (by rw [e]))⟩, by simp [setBlock]⟩
  simp [Instr.mapUpdate, run_underlying ht, MapKept.run_getObj_map h1, MapKept.run_checkKey hk (K.key k), g1, hj, g3, MapKept.run_keyThatStays (K.key k), MapKept.run_setObj_map _ h1, Result.andThen, setBlock]
theorem MapK.drop [DecidableEq α] {ty : TypeId} {t2 : TypeId} (h : MapK K w B f) (ht : P.underlying t = some (.map kt et)) (hk : P.underlying kt = some K.d) (k : α) :
  ∃ w', (Builtin.delete_ #[t, t2] ty #[.map (some B), K.enc k]).run P w = .ok (.tuple #[]) w' ∧ MapK K w' B (updK f k none) ∧ w.grownBy w' (some B) ∧ w'.heap.size = w.heap.size := by
 obtain ⟨es, clock, h1, h2⟩ := h
 rcases MapK.find h2 hk w k with ⟨g1, g2, g3⟩ | ⟨j, e, g1, g2, g3, g4⟩
 ·refine ⟨setBlock w B (.map es clock), ?_, ⟨_, _, heap_setBlock_same h1 _, h2.drop_none g2⟩, ⟨rfl, rfl, rfl, by simp [setBlock], fun i _ hi => heap_setBlock_other h1 _ (fun e => hi (by rw [e]))⟩, by simp [setBlock]⟩
  simp [Builtin.delete_, run_underlying ht, MapKept.run_getObj_map h1, MapKept.run_checkKey hk (K.key k), g1, MapKept.run_setObj_map _ h1, Result.andThen, setBlock]
 ·refine ⟨setBlock w B (.map (es.eraseIdxIfInBounds j) clock), ?_, ⟨_, _, heap_setBlock_same h1 _, h2.erase g2 g3⟩, ⟨rfl, rfl, rfl, by simp [setBlock], fun i _ hi => heap_setBlock_other h1 _ (fun e => hi (by rw [e]))⟩, by simp [setBlock]⟩
  simp [Builtin.delete_, run_underlying ht, MapKept.run_getObj_map h1, MapKept.run_checkKey hk (K.key k), g1, MapKept.run_setObj_map _ h1, Result.andThen, setBlock]
def q0W (K : KeyK α) (w : World) (B r : Nat) (f : α → Option Value) (done : List α) : Prop :=
 ∃ es clock since seen c0, w.heap[B]? = some (.map es clock) ∧ q1G K es clock f ∧ w.heap[r]? = some (.mapIter (some B) since seen c0) ∧ (∀ x ∈ es.toList, x.born < since) ∧ since ≤ c0 ∧ since ≤ clock ∧
  done.Nodup ∧ (∀ x ∈ es.toList, seen.contains x.born = true ↔ ∃ k ∈ done, x.key = K.enc k) ∧ ∀ k ∈ done, (f k).isSome = true
theorem MapK.range (h : MapK K w B f) (ht : P.underlying t = some (.map kt et)) :
  ∃ w', (Instr.range t (.map (some B))).run P w = .ok (.pointer (some ⟨w.heap.size, 0, none⟩)) w' ∧ q0W K w' B w.heap.size f [] ∧ w.grownBy w' none ∧ w'.heap.size = w.heap.size + 1 := by
 have hlt := h.lt
 obtain ⟨es, clock, hb, hr⟩ := h
 refine ⟨_, run_range_map w t kt et B es clock ht hb, ⟨es, clock, clock, #[], clock, ((MapKept.heap_alloc w _).2 B hlt).trans hb, hr, (MapKept.heap_alloc w _).1, hr.stamp.1, Nat.le_refl _, Nat.le_refl _, List.nodup_nil, fun x hx => ?_, by simp⟩, World.grownBy_alloc w _ none, by simp⟩
 simp
theorem q0W.keep {r : Nat} {done : List α} (h : q0W K w B r f done) (hb : w'.heap[B]? = w.heap[B]?) (hr : w'.heap[r]? = w.heap[r]?) : q0W K w' B r f done := by
 obtain ⟨es, clock, since, seen, c0, h1, h2, h3, h4⟩ := h
 exact ⟨es, clock, since, seen, c0, hb.trans h1, h2, hr.trans h3, h4⟩
theorem q0W.lt {r : Nat} {done : List α} (h : q0W K w B r f done) : B < w.heap.size ∧ r < w.heap.size ∧ r ≠ B := by
 obtain ⟨es, clock, since, seen, c0, h1, h2, h3, h4⟩ := h
 refine ⟨(Array.getElem?_eq_some_iff.1 h1).1, (Array.getElem?_eq_some_iff.1 h3).1, fun e => ?_⟩
 rw [e, h1] at h3
 cases h3
theorem q0W.left {r : Nat} {done : List α} {k : α} (h : q0W K w B r f done) (h' : q0W K w' B r f (done ++ [k])) (hn : k ∉ done) (hb : w'.heap[B]? = w.heap[B]?) : w'.rangeLeft B r < w.rangeLeft B r := by
 obtain ⟨es, clock, since, seen, c0, h1, h2, h3, h4, h5, h6, h7, h8, h9⟩ := h
 obtain ⟨es', clock', since', seen', c0', g1, g2, g3, g4, g5, g6, g7, g8, g9⟩ := h'
 rw [hb, h1] at g1
 injection g1 with g1
 injection g1 with e1 e2
 subst e1 e2
 have hsome := g9 k (by simp)
 obtain ⟨v, hv⟩ := Option.isSome_iff_exists.1 hsome
 obtain ⟨x, hx, ex, _⟩ := (h2.val k v).1 hv
 simp only [World.rangeLeft, hb, h1, h3, g3]
 have e1 : ∀ s : Array Nat, (leftOf es s).size = (es.toList.filter fun e => !s.contains e.born).length := fun s => by
  unfold leftOf
  rw [← Array.toList_filter, Array.length_toList]
 rw [e1, e1]
 have hsub : ∀ y ∈ es.toList, (!seen'.contains y.born) = true → (!seen.contains y.born) = true := fun y hy hs => by
  cases hc : seen.contains y.born with
  | false => rfl
  | true =>
   obtain ⟨k', hk', e⟩ := (h8 y hy).1 hc
   rw [(g8 y hy).2 ⟨k', List.mem_append_left _ hk', e⟩] at hs
   cases hs
 have h0 : (!seen.contains x.born) = true := by
  cases hc : seen.contains x.born with
  | false => rfl
  | true =>
   obtain ⟨k', hk', e⟩ := (h8 x hx).1 hc
   rw [ex] at e
   exact absurd (K.inj e ▸ hk') hn
 have h1' : (!seen'.contains x.born) = false := by rw [(g8 x hx).2 ⟨k, by simp, ex⟩]; rfl
 have key : ∀ l : List MapEntry, (∀ y ∈ l, (!seen'.contains y.born) = true → (!seen.contains y.born) = true) → x ∈ l → (l.filter fun e => !seen'.contains e.born).length < (l.filter fun e => !seen.contains e.born).length := by
  intro l hl hxl
  have hle : ∀ m : List MapEntry, (∀ y ∈ m, (!seen'.contains y.born) = true → (!seen.contains y.born) = true) → (m.filter fun e => !seen'.contains e.born).length ≤ (m.filter fun e => !seen.contains e.born).length := by
   intro m hm
   induction m with
   | nil => exact Nat.le_refl _
   | cons a m ih =>
    have := ih fun y hy => hm y (List.mem_cons_of_mem _ hy)
    have ha := hm a (List.mem_cons_self ..)
    simp only [List.filter_cons]
    split
    ·rename_i h'
     rw [if_pos (ha h')]
     simp only [List.length_cons]
     omega
    ·split
     ·simp only [List.length_cons]; omega
     ·exact this
  obtain ⟨l1, l2, rfl⟩ := List.append_of_mem hxl
  rw [List.filter_append, List.filter_append, List.length_append, List.length_append, List.filter_cons, List.filter_cons, if_pos h0, if_neg (by rw [h1']; decide), List.length_cons]
  have a1 := hle l1 fun y hy => hl y (List.mem_append_left _ hy)
  have a2 := hle l2 fun y hy => hl y (List.mem_append_right _ (List.mem_cons_of_mem _ hy))
  omega
 exact key es.toList hsub hx
theorem q0W.next {r : Nat} {done : List α} (h : q0W K w B r f done) (ty : TypeId) :
  ((∀ k, (f k).isSome = true → k ∈ done) ∧ (Instr.next (.pointer (some ⟨r, 0, none⟩)) false ty).run P w = .ok (.tuple #[.bool false]) w) ∨
  ∃ k v w', f k = some v ∧ k ∉ done ∧ (Instr.next (.pointer (some ⟨r, 0, none⟩)) false ty).run P w = .ok (.tuple #[.bool true, K.enc k, v]) w' ∧ q0W K w' B r f (done ++ [k]) ∧ w.grownBy w' (some r) ∧ w'.heap.size = w.heap.size ∧
   (Instr.entry (.pointer (some ⟨r, 0, none⟩))).run P w' = .ok (.tuple #[K.enc k, v]) w' ∧ w'.rangeLeft B r < w.rangeLeft B r := by
 have h0 := h
 have hne := h.lt.2.2
 obtain ⟨es, clock, since, seen, c0, hb, hR, hr, hold, hsc, hsk, hnd, hse, hso⟩ := h
 rcases run_next_at (P := P) w ty r B since c0 seen es clock hr hb hold hsc with ⟨hz, hrun⟩ | ⟨e, he, w1, hal, hrun⟩
 ·refine .inl ⟨fun k hk => ?_, hrun⟩
  obtain ⟨v, hv⟩ := Option.isSome_iff_exists.1 hk
  obtain ⟨x, hx, ex, _⟩ := (hR.val k v).1 hv
  obtain ⟨k', hk', e⟩ := (hse x hx).1 (all_seen es seen hz x hx)
  rw [ex] at e
  exact K.inj e ▸ hk'
 ·obtain ⟨hem, hes⟩ := mem_left he
  obtain ⟨k, hk⟩ := hR.key e hem
  have hfk : f k = some e.val := (hR.val k e.val).2 ⟨e, hem, hk, rfl⟩
  have hnot : k ∉ done := fun hd => by
   rw [(hse e hem).2 ⟨k, hd, hk⟩] at hes
   cases hes
  have hr1 : w1.heap[r]? = some (.mapIter (some B) since seen c0) := by rcases hal with rfl | rfl <;> exact hr
  have hb1 : w1.heap[B]? = some (.map es clock) := by rcases hal with rfl | rfl <;> exact hb
  have hb' : (setBlock w1 r (.mapIter (some B) since (seen.push e.born) clock)).heap[B]? = some (.map es clock) := ((heap_set (o' := .mapIter (some B) since (seen.push e.born) clock) hr1).2 B (fun e1 => hne e1.symm)).trans hb1
  have hr' := (heap_set (o' := .mapIter (some B) since (seen.push e.born) clock) hr1).1
  have hR' : q0W K (setBlock w1 r (.mapIter (some B) since (seen.push e.born) clock)) B r f (done ++ [k]) := by
   refine ⟨es, clock, since, seen.push e.born, clock, hb', hR, hr', hold, hsk, hsk, ?_, fun x hx => ?_, fun k' hk' => ?_⟩
   ·exact List.nodup_append.2 ⟨hnd, by simp, fun a ha b hb e => by
     rw [List.mem_singleton] at hb
     subst hb
     exact hnot (e ▸ ha)⟩
   ·rw [contains_push, Bool.or_eq_true, hse x hx]
    constructor
    ·rintro (⟨k', hk', e1⟩ | e1)
     ·exact ⟨k', List.mem_append_left _ hk', e1⟩
     ·have e2 : x.born = e.born := by simpa using e1
      have := born_inj hR.stamp.2.1 hx hem e2
      subst this
      exact ⟨k, by simp, hk⟩
    ·rintro ⟨k', hk', e1⟩
     rcases List.mem_append.1 hk' with hk' | hk'
     ·exact .inl ⟨k', hk', e1⟩
     ·rw [List.mem_singleton] at hk'
      subst hk'
      have := entry_eq_of_key hR.apart hx hem (e1.trans hk.symm)
      subst this
      exact .inr (by simp)
   ·rcases List.mem_append.1 hk' with hk' | hk'
    ·exact hso k' hk'
    ·rw [List.mem_singleton] at hk'
     subst hk'
     rw [hfk]
     rfl
  have hrun' : (Instr.next (.pointer (some ⟨r, 0, none⟩)) false ty).run P w = .ok (.tuple #[.bool true, K.enc k, e.val]) (setBlock w1 r (.mapIter (some B) since (seen.push e.born) clock)) := by rw [← hk]; exact hrun
  refine .inr ⟨k, e.val, _, hfk, hnot, hrun', hR', ?_, ?_, ?_, h0.left hR' hnot (hb'.trans hb.symm)⟩
  ·rcases hal with rfl | rfl <;> exact ⟨rfl, rfl, rfl, by simp [setBlock], fun i _ hi => (heap_set (o' := .mapIter (some B) since (seen.push e.born) clock) hr1).2 i (fun e1 => hi (by rw [e1]))⟩
  ·rcases hal with rfl | rfl <;> simp [setBlock]
  ·rw [← hk]
   exact run_entry_at _ r B since seen es clock e hr' hb' hem hR.stamp.2.1
end
end
end Go.Proofs.YtdpbllacfljmoaaGreat
