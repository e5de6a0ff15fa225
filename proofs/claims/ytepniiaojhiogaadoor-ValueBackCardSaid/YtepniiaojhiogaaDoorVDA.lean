/-
  Package value: Int, Bool, Text, and Right.
-/
import Derived.Test.YtepniiaojhiogaaDoorVEq
namespace Go.Proofs.YtepniiaojhiogaaDoor
open Go.RowKit

theorem vInt_all (n : Int) (w : World) : Calls Tryd.prog 18 #[.int .i64 n] w fun r w' => r = .returned (.agg #[.int .i64 1, .int .i64 n, .string ⟨#[]⟩]) ∧ Below w.heap.size w w' := by
  go_enter Tryd.func18, Tryd.ntmps18
  go_wp2
  exact bodyPost_ret (v := .agg #[.int .i64 1, .int .i64 n, .string ⟨#[]⟩]) (by simp [results, Tryd.results18, go_sem]) rfl ⟨rfl, box_below w _ _⟩
theorem vInt_any : IntC := fun n w _ _ => vInt_all n w

theorem vText_any : TextC := by
  intro s w
  go_enter Tryd.func20, Tryd.ntmps20
  go_wp2
  exact bodyPost_ret (v := .agg #[.int .i64 3, .int .i64 0, .string s]) (by simp [results, Tryd.results20, go_sem]) rfl ⟨rfl, box_below w _ _⟩

theorem vBool_any : BoolC := by
  intro b w
  cases b
  · go_enter Tryd.func19, Tryd.ntmps19
    go_wp2
    exact bodyPost_ret (v := .agg #[.int .i64 2, .int .i64 0, .string ⟨#[]⟩]) (by simp [results, Tryd.results19, go_sem]) rfl ⟨rfl, box_below w _ _⟩
  · go_enter Tryd.func19, Tryd.ntmps19
    go_wp2
    exact bodyPost_ret (v := .agg #[.int .i64 2, .int .i64 1, .string ⟨#[]⟩]) (by simp [results, Tryd.results19, go_sem]) rfl ⟨rfl, box_below w _ _⟩
end Go.Proofs.YtepniiaojhiogaaDoor
