/-
  errors.Is of two numbers, and Is of package fault.
-/
import Derived.Test.YtdlmnhpmdidkeaaDoorFCode
namespace Go.Proofs.YtdlmnhpmdidkeaaDoor
open Go.RowKit

theorem eqlE (a b : Int) (w : World) : (binOp .eql 27 (.iface 29 (.int .i64 a)) (.iface 29 (.int .i64 b))).run Tryd.prog w = .ok (.bool (a == b)) w := by kernel_rfl

set_option maxHeartbeats 1000000 in
theorem is_any (a b : Int) (w : World) : Calls Tryd.prog 50 #[.iface 29 (.int .i64 a), .iface 29 (.int .i64 b), .bool true] w fun e w' => e = .returned (.bool (a == b)) ∧ w = w' := by
  have f1 := eqlE
  have f2 := noIsE
  have f3 := noU1E
  have f4 := noU2E
  by_cases h : a = b
  · have hb : (a == b) = true := by simpa using h
    go_enter Tryd.func50, Tryd.ntmps50
    go_wp2
    refine wp_loop_rounds 1 ?_
    rw [rounds_succ]
    go_wp2
    go_ret
    exact ⟨by rw [hb]; rfl, rfl⟩
  · have hb : (a == b) = false := by simpa using h
    go_enter Tryd.func50, Tryd.ntmps50
    go_wp2
    refine wp_loop_rounds 1 ?_
    rw [rounds_succ]
    go_wp2
    go_ret
    exact ⟨by rw [hb]; rfl, rfl⟩

theorem Is_lib (a b : Int) (w : World) : Calls Tryd.prog 37 #[.iface 29 (.int .i64 a), .iface 29 (.int .i64 b)] w fun e w' => e = .returned (.bool (a == b)) ∧ w = w' := by
  have f1 := typeOfE
  have f2 := methodComparable
  have f3 := comparableE
  go_enter Tryd.func37, Tryd.ntmps37
  go_wp2_with (go_at_call 50; refine (is_any a b _).mono ?_; rintro e w' ⟨rfl, rfl⟩)
  go_ret
  exact ⟨rfl, rfl⟩

theorem is_of (v : Value) (n c : Int) (w : World) (H : Calls Tryd.prog 13 #[v] w fun r w' => r = .returned (.int .i64 n) ∧ Below w.heap.size w w') :
    Calls Tryd.prog 18 #[v, .int .i64 c] w fun r w' => r = .returned (.bool (n == c)) ∧ Below w.heap.size w w' := by
  have H' := Lib.hid H
  clear H
  go_enter Tryd.func18, Tryd.ntmps18
  go_wp2_with (first | (go_at_call 13; refine (H'.out).mono ?_; rintro e w' ⟨rfl, hb⟩) | (go_at_call 37; refine (Is_lib _ _ _).mono ?_; rintro e w' ⟨rfl, rfl⟩))
  go_ret
  exact ⟨rfl, hb⟩
theorem is_any' (ps : List ByteArray) (v : Value) (e : End) (hi : Nat) (c : Int) (w : World) (he : Err w hi e ps v) (hs : some? e ps) (hhi : hi ≤ w.heap.size) (hG : Glob w) :
    Calls Tryd.prog 18 #[v, .int .i64 c] w fun r w' => r = .returned (.bool (codeOf e == c)) ∧ Below w.heap.size w w' := is_of v _ c w (code_any ps v e hi w he hs hhi hG)
theorem is_none (c : Int) (w : World) :
    Calls Tryd.prog 18 #[.nilIface, .int .i64 c] w fun r w' => r = .returned (.bool (0 == c)) ∧ Below w.heap.size w w' := is_of .nilIface 0 c w (code_none w)
end Go.Proofs.YtdlmnhpmdidkeaaDoor
