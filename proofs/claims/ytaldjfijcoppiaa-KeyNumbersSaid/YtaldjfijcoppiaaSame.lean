/-
  Same of the document's own answers, of two slices of texts that read alike, and of two that do not.
-/
import Derived.Test.YtaldjfijcoppiaaStrs
import Derived.BigQuiet
import Derived.Deep.QuietTactic
import Derived.Deep.LoopGhost
import Derived.RegionTactic
namespace Go.Proofs.Ytaldjfijcoppiaa
open Go.RowKit

theorem below_drewN' (w : World) (n : Nat) : Below w.heap.size w (w.drewN n) := ⟨rfl, rfl, rfl, Nat.le_refl _, fun _ _ => rfl⟩

set_option maxHeartbeats 1000000 in
theorem same_same (A1 A2 : Option Addr) (n1 n2 c1 c2 lo1 hi1 lo2 hi2 : Nat) (l : List ByteArray) (w : World) (e1 : n1 = l.length) (e2 : n2 = l.length) (h1 : RowS w lo1 hi1 A1 l) (h2 : RowS w lo2 hi2 A2 l) (hl : l.length ≤ 2000000) :
    Calls Try.prog 16 #[.slice A1 n1 c1, .slice A2 n2 c2] w fun r w' => r = .returned (.bool true) ∧ Below w.heap.size w w' := by
  subst e1 e2
  have H1 := Lib.hid h1
  have H2 := Lib.hid h2
  clear h1 h2
  go_enter Try.func16, Try.ntmps16
  go_wp2
  go_loopg [13] l.length (fun k i wr => ∃ j m : Nat, j + k = l.length ∧ i = .int .i64 j ∧ wr = w.drewN m)
  case atStart => exact ⟨0, 0, by omega, rfl, rfl⟩
  case round =>
    obtain ⟨j, m, hk, rfl, rfl⟩ := hrel
    have HK := Lib.hid hk
    by_cases hj : j < l.length
    · have hlt : decide ((j : Int) < (l.length : Int)) = true := by simpa using hj
      obtain ⟨b, o, rfl, d1⟩ := H1.out.at_ hj
      obtain ⟨b', o', rfl, d2⟩ := H2.out.at_ hj
      clear hk
      go_wp2
      go_region
      all_goals
        go_wp2
        go_roundg (gk - 1)
        case measure => have := HK.out; omega
        case rel => exact ⟨j + 1, m + 1, by have := HK.out; omega, by go_num, rfl⟩
    · have hlt : decide ((j : Int) < (l.length : Int)) = false := by simpa using hj
      clear hk
      go_wp2
      go_ret
      exact ⟨rfl, below_drewN' w m⟩

theorem ba_append (a b : List UInt8) : (⟨a.toArray⟩ : ByteArray) ++ ⟨b.toArray⟩ = ⟨(a ++ b).toArray⟩ := by
  apply ByteArray.ext
  simp

end Go.Proofs.Ytaldjfijcoppiaa
