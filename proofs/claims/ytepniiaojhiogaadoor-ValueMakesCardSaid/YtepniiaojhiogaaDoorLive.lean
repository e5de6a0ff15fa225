/-
  The chapter's examples: the law's own function live answers true, and changes nothing that was there.
-/
import Derived.Test.YtepniiaojhiogaaDoorRead
namespace Go.Proofs.YtepniiaojhiogaaDoor
open Go.RowKit

theorem un_300 : un 300 = [172, 2] := by
  rw [un_big (by omega), un_small (by omega)]; rfl
theorem unInt_m1 : unInt (-1) = [1] := by
  have : zig (-1) = 1 := by decide
  rw [unInt, this, un_small (by omega)]; rfl
theorem unText_ab : unText [97, 98] = [2, 97, 98] := by
  rw [unText, show ([97, 98] : List UInt8).length = 2 from rfl, un_small (by omega)]; rfl

theorem uintOf_80 : uintOf [128, 0] 0 maxU = (0, [128, 0], 8) := by
  simp [uintOf, numOf, nums]

/-- Two bytes that were built. -/
theorem Rd.two (w : World) (e : TypeId) (a b : UInt8) : Rd (w.alloc (.cells #[.int .u8 a.toNat, .int .u8 b.toNat] e)) w.heap.size (w.heap.size + 1) (some ⟨w.heap.size, 0, none⟩) [a, b] := fun _ => by
  refine ⟨w.heap.size, 0, rfl, Nat.le_refl _, by omega, fun j hj => ?_⟩
  rw [cell_of_row _ w.heap.size _ _ e (0, 0) (heap_alloc_new w _)]
  match j, hj with
  | 0, _ => rfl
  | 1, _ => rfl

theorem read_80 (w : World) : Calls Tryd.prog 30 #[.slice (some ⟨w.heap.size, 0, none⟩) 2 2] (w.alloc (.cells #[.int .u8 128, .int .u8 0] 5)) (ReadRet [128, 0] (w.alloc (.cells #[.int .u8 128, .int .u8 0] 5))) :=
  read_any _ [128, 0] 2 _ (by simp) (by intro h; cases h) ((Rd.two w 5 128 0).wide (Nat.zero_le _) (by simp))

theorem uint_300 (w : World) : Calls Tryd.prog 65 #[.int .u64 300] w (Ret [172, 2] w) := by
  have := uint_int 300 (by omega) (by omega) w
  rwa [show (300 : Int).toNat = 300 from rfl, un_300] at this
theorem int_m1 (w : World) : Calls Tryd.prog 41 #[.int .i64 (-1)] w (Ret [1] w) := by
  have := int_any (-1) (by omega) (by omega) w
  rwa [unInt_m1] at this
theorem text_ab (w : World) : Calls Tryd.prog 40 #[.string ⟨#[97, 98]⟩] w (Ret [2, 97, 98] w) := by
  have := text_any ⟨#[97, 98]⟩ (by decide) w
  rwa [show (⟨#[97, 98]⟩ : ByteArray).data.toList = [97, 98] from rfl, unText_ab] at this

/-- 'string(b)' of what was just written. -/
theorem conv_ret {w : World} {lo hi c n : Nat} {A : Option Addr} {m : List UInt8} (hn : n = m.length) (hr : Rd w lo hi A m) : (convert 24 9 (.slice A n c)).run Tryd.prog w = .ok (.string ⟨m.toArray⟩) w :=
  conv_rd 24 9 5 Tryd.underlying24 Tryd.underlying5 Tryd.underlying9 hn hr

end Go.Proofs.YtepniiaojhiogaaDoor
