/-
  Of, Ask, Wrap, First of package fault, and Error of a Fault.
-/
import Derived.Test.YtdlmnhpmdidkeaaDoorFText
namespace Go.Proofs.YtdlmnhpmdidkeaaDoor
open Go.RowKit

theorem of_zero (w : World) : Calls Tryd.prog 21 #[.int .i64 0] w fun r w' => r = .returned .nilIface ∧ w = w' := by
  go_enter Tryd.func21, Tryd.ntmps21
  go_wp2
  go_ret
  exact ⟨rfl, rfl⟩
theorem of_num (n : Int) (w : World) (hn : n ≠ 0) : Calls Tryd.prog 21 #[.int .i64 n] w fun r w' => r = .returned (.iface 29 (.int .i64 n)) ∧ w = w' := by
  have h : (n == 0) = false := by simpa using hn
  clear hn
  go_enter Tryd.func21, Tryd.ntmps21
  go_wp2
  go_ret
  exact ⟨rfl, rfl⟩
theorem ask_any (a b : ByteArray) (w : World) : Calls Tryd.prog 24 #[.string a, .string b] w fun r w' => r = .returned (.iface 31 (.agg #[.string a, .string b])) ∧ w = w' := by
  go_enter Tryd.func24, Tryd.ntmps24
  go_wp2
  go_ret
  exact ⟨rfl, rfl⟩
theorem wrap_none (p : ByteArray) (w : World) : Calls Tryd.prog 19 #[.string p, .nilIface] w fun r w' => r = .returned .nilIface ∧ w = w' := by
  go_enter Tryd.func19, Tryd.ntmps19
  go_wp2
  go_ret
  exact ⟨rfl, rfl⟩
theorem wrap_raw (p : ByteArray) (T : TypeId) (y : Value) (w : World) : Calls Tryd.prog 19 #[.string p, .iface T y] w
    fun r w' => r = .returned (.iface 49 (.pointer (some ⟨w.heap.size, 0, none⟩))) ∧ w.alloc (.cells #[.string p, .iface T y] 51) = w' := by
  go_enter Tryd.func19, Tryd.ntmps19
  go_wp2
  go_ret
  exact ⟨rfl, rfl⟩

/-- Made of an error: a new one, and nothing that was there has changed. -/
def RetE (e : End) (ps : List ByteArray) (w : World) (r : Ending) (w' : World) : Prop := ∃ v, r = .returned v ∧ Err w' w'.heap.size e ps v ∧ Below w.heap.size w w'

theorem wrap_any (p : ByteArray) (ps : List ByteArray) (v : Value) (e : End) (hi : Nat) (w : World) (he : Err w hi e ps v) (hs : some? e ps) (hhi : hi ≤ w.heap.size) :
    Calls Tryd.prog 19 #[.string p, v] w (RetE e (p :: ps) w) := by
  obtain ⟨T, y, rfl⟩ := he.iface hs
  refine (wrap_raw p T y w).mono ?_
  rintro r w' ⟨rfl, rfl⟩
  have hb : Below w.heap.size w (w.alloc (.cells #[.string p, .iface T y] 51)) := (Below.refl _ w).alloc (Nat.le_refl _) _
  exact ⟨_, rfl, ⟨w.heap.size, _, rfl, by simp, heap_alloc_new w _, (he.below hb hhi).wide (by simp; omega)⟩, hb⟩

theorem error_none (w : World) : Calls Tryd.prog 23 #[.pointer none] w fun r w' => r = .returned (.string ⟨#[]⟩) ∧ w = w' := by
  go_enter Tryd.func23, Tryd.ntmps23
  go_wp2
  go_ret
  exact ⟨rfl, rfl⟩
theorem error_any (b : Nat) (p : ByteArray) (ps : List ByteArray) (e : End) (hi : Nat) (w : World) (he : Err w hi e (p :: ps) (.iface 49 (.pointer (some ⟨b, 0, none⟩)))) (hhi : hi ≤ w.heap.size) (hps : (p :: ps).length ≤ 1000000) (hG : Glob w)
    (h0 : -2147483648 ≤ codeOf e) (h1 : codeOf e ≤ 2147483647) (hlen : (textOf e (p :: ps)).length ≤ 281474976710656) :
    Calls Tryd.prog 23 #[.pointer (some ⟨b, 0, none⟩)] w fun r w' => r = .returned (.string ⟨(textOf e (p :: ps)).toArray⟩) ∧ Below w.heap.size w w' := by
  have H := Lib.hid (text_any (p :: ps) _ e hi w he (.inl (by simp)) hhi hps hG h0 h1 hlen)
  clear he hG hlen hps h0 h1
  go_enter Tryd.func23, Tryd.ntmps23
  go_wp2_with (refine (H.out).mono ?_; rintro r w' ⟨rfl, hb⟩)
  go_ret
  exact ⟨rfl, hb⟩
theorem unwrap_none (w : World) : Calls Tryd.prog 22 #[.pointer none] w fun r w' => r = .returned .nilIface ∧ w = w' := by
  go_enter Tryd.func22, Tryd.ntmps22
  go_wp2
  go_ret
  exact ⟨rfl, rfl⟩

theorem first_none (w : World) : Calls Tryd.prog 20 #[.slice none 0 0] w fun r w' => r = .returned .nilIface ∧ w = w' := by
  go_enter Tryd.func20, Tryd.ntmps20
  go_wp2
  refine wp_loop_rounds 1 ?_
  rw [rounds_succ]
  go_wp2
  go_ret
  exact ⟨rfl, rfl⟩

theorem first_a (T : TypeId) (y vb vc : Value) (g : Nat) (w : World) (h : w.heap[g]? = some (.cells #[.iface T y, .nilIface, vb, vc] 27 (0, 0))) :
    Calls Tryd.prog 20 #[.slice (some ⟨g, 0, none⟩) 4 4] w fun r w' => r = .returned (.iface T y) ∧ w = w' := by
  have c0 : w.cell? ⟨g, 0, none⟩ = some (.iface T y) := by simp [World.cell?, h]
  clear h
  go_enter Tryd.func20, Tryd.ntmps20
  go_wp2
  refine wp_loop_rounds 1 ?_
  rw [rounds_succ]
  go_wp2
  go_ret
  exact ⟨rfl, rfl⟩

theorem first_b (T : TypeId) (y vc : Value) (g : Nat) (w : World) (h : w.heap[g]? = some (.cells #[.nilIface, .nilIface, .iface T y, vc] 27 (0, 0))) :
    Calls Tryd.prog 20 #[.slice (some ⟨g, 0, none⟩) 4 4] w fun r w' => r = .returned (.iface T y) ∧ w = w' := by
  have c0 : w.cell? ⟨g, 0, none⟩ = some (.nilIface) := by simp [World.cell?, h]
  have c1 : w.cell? ⟨g, 1, none⟩ = some (.nilIface) := by simp [World.cell?, h]
  have c2 : w.cell? ⟨g, 2, none⟩ = some (.iface T y) := by simp [World.cell?, h]
  clear h
  go_enter Tryd.func20, Tryd.ntmps20
  go_wp2
  refine wp_loop_rounds 3 ?_
  rw [rounds_succ]
  go_wp2
  rw [rounds_succ]
  go_wp2
  rw [rounds_succ]
  go_wp2
  go_ret
  exact ⟨rfl, rfl⟩

theorem first_c (T : TypeId) (y : Value) (g : Nat) (w : World) (h : w.heap[g]? = some (.cells #[.nilIface, .nilIface, .nilIface, .iface T y] 27 (0, 0))) :
    Calls Tryd.prog 20 #[.slice (some ⟨g, 0, none⟩) 4 4] w fun r w' => r = .returned (.iface T y) ∧ w = w' := by
  have c0 : w.cell? ⟨g, 0, none⟩ = some (.nilIface) := by simp [World.cell?, h]
  have c1 : w.cell? ⟨g, 1, none⟩ = some (.nilIface) := by simp [World.cell?, h]
  have c2 : w.cell? ⟨g, 2, none⟩ = some (.nilIface) := by simp [World.cell?, h]
  have c3 : w.cell? ⟨g, 3, none⟩ = some (.iface T y) := by simp [World.cell?, h]
  clear h
  go_enter Tryd.func20, Tryd.ntmps20
  go_wp2
  refine wp_loop_rounds 4 ?_
  rw [rounds_succ]
  go_wp2
  rw [rounds_succ]
  go_wp2
  rw [rounds_succ]
  go_wp2
  rw [rounds_succ]
  go_wp2
  go_ret
  exact ⟨rfl, rfl⟩

theorem first_d (g : Nat) (w : World) (h : w.heap[g]? = some (.cells #[.nilIface, .nilIface, .nilIface, .nilIface] 27 (0, 0))) :
    Calls Tryd.prog 20 #[.slice (some ⟨g, 0, none⟩) 4 4] w fun r w' => r = .returned (.nilIface) ∧ w = w' := by
  have c0 : w.cell? ⟨g, 0, none⟩ = some (.nilIface) := by simp [World.cell?, h]
  have c1 : w.cell? ⟨g, 1, none⟩ = some (.nilIface) := by simp [World.cell?, h]
  have c2 : w.cell? ⟨g, 2, none⟩ = some (.nilIface) := by simp [World.cell?, h]
  have c3 : w.cell? ⟨g, 3, none⟩ = some (.nilIface) := by simp [World.cell?, h]
  clear h
  go_enter Tryd.func20, Tryd.ntmps20
  go_wp2
  refine wp_loop_rounds 5 ?_
  rw [rounds_succ]
  go_wp2
  rw [rounds_succ]
  go_wp2
  rw [rounds_succ]
  go_wp2
  rw [rounds_succ]
  go_wp2
  rw [rounds_succ]
  go_wp2
  go_ret
  exact ⟨rfl, rfl⟩
end Go.Proofs.YtdlmnhpmdidkeaaDoor
