/-
  The chapter's examples: the law's own function live answers true, and changes nothing that was there.
-/
import Derived.Test.YtfobiojeekcgeaaRead
namespace Go.Proofs.Ytfobiojeekcgeaa
open Go.RowKit

theorem un_300 : un 300 = [172, 2] := by
  rw [un_big (by omega), un_small (by omega)]; rfl
theorem unInt_m1 : unInt (-1) = [1] := by
  have : zig (-1) = 1 := by decide
  rw [unInt, this, un_small (by omega)]; rfl
theorem unText_ab : unText [97, 98] = [2, 97, 98] := by
  rw [unText, show ([97, 98] : List UInt8).length = 2 from rfl, un_small (by omega)]; rfl

theorem uintOf_80 : uintOf [128, 0] 0 maxU = (0, [128, 0], 8) := by
  simp [uintOf, numOf, nums]

/-- Two bytes that were built. -/
theorem Rd.two (w : World) (e : TypeId) (a b : UInt8) : Rd (w.alloc (.cells #[.int .u8 a.toNat, .int .u8 b.toNat] e)) w.heap.size (w.heap.size + 1) (some ⟨w.heap.size, 0, none⟩) [a, b] := fun _ => by
  refine ⟨w.heap.size, 0, rfl, Nat.le_refl _, by omega, fun j hj => ?_⟩
  rw [cell_of_row _ w.heap.size _ _ e (0, 0) (heap_alloc_new w _)]
  match j, hj with
  | 0, _ => rfl
  | 1, _ => rfl

theorem read_80 (w : World) : Calls Try.prog 20 #[.slice (some ⟨w.heap.size, 0, none⟩) 2 2] (w.alloc (.cells #[.int .u8 128, .int .u8 0] 5)) (ReadRet [128, 0] (w.alloc (.cells #[.int .u8 128, .int .u8 0] 5))) :=
  read_any _ [128, 0] 2 _ (by simp) (by intro h; cases h) ((Rd.two w 5 128 0).wide (Nat.zero_le _) (by simp))

theorem uint_300 (w : World) : Calls Try.prog 16 #[.int .u64 300] w (Ret [172, 2] w) := by
  have := uint_int 300 (by omega) (by omega) w
  rwa [show (300 : Int).toNat = 300 from rfl, un_300] at this
theorem int_m1 (w : World) : Calls Try.prog 18 #[.int .i64 (-1)] w (Ret [1] w) := by
  have := int_any (-1) (by omega) (by omega) w
  rwa [unInt_m1] at this
theorem text_ab (w : World) : Calls Try.prog 12 #[.string ⟨#[97, 98]⟩] w (Ret [2, 97, 98] w) := by
  have := text_any ⟨#[97, 98]⟩ (by decide) w
  rwa [show (⟨#[97, 98]⟩ : ByteArray).data.toList = [97, 98] from rfl, unText_ab] at this

/-- 'string(b)' of what was just written. -/
theorem conv_ret {w : World} {lo hi c n : Nat} {A : Option Addr} {m : List UInt8} (hn : n = m.length) (hr : Rd w lo hi A m) : (convert 25 9 (.slice A n c)).run Try.prog w = .ok (.string ⟨m.toArray⟩) w :=
  conv_rd 25 9 5 Try.underlying25 Try.underlying5 Try.underlying9 hn hr

set_option maxHeartbeats 400000 in
theorem live_any (w : World) : Calls Try.prog 10 #[] w fun e w' => e = .returned (.bool true) ∧ Below w.heap.size w w' := by
  have HR := Lib.hid (read_80 w)
  go_enter Try.func10, Try.ntmps10
  go_wp2_with fail
  refine HR.out.mono ?_
  rintro x w1 ⟨g, rfl, hg, hrd, hb⟩
  have HU := Lib.hid (rUint_max g _ 0 _ w1 hrd)
  rw [uintOf_80] at HU
  go_wp2_with fail
  refine HU.out.mono ?_
  rintro x w2 ⟨rfl, hrd2, hgr⟩
  have HE := Lib.hid (err_any g _ _ _ w2 hrd2)
  go_wp2_with fail
  refine HE.out.mono ?_
  rintro x w3 ⟨rfl, rfl⟩
  have hb1 : Below w.heap.size w w1 := ((Below.refl _ w).alloc (Nat.le_refl _) _).trans (hb.mono (by simp))
  have hb2 : Below w.heap.size w w2 := hb1.grown hgr hb1.size (fun i hi => by injection hi with hi; subst hi; have h := hg; simp at h; omega)
  clear hg hrd hb hrd2 hgr HR HU HE hb1
  go_wp2_with fail
  refine (uint_300 _).mono ?_
  rintro x w4 ⟨A4, c4, rfl, _, _, _, hr4, hb4⟩
  have hb5 : Below w.heap.size w w4 := hb2.trans (hb4.mono hb2.size)
  have hcv := conv_ret (c := c4) (n := 2) rfl hr4
  clear hb4 hr4 hb2
  go_wp2_with fail
  refine (int_m1 _).mono ?_
  rintro x w5 ⟨A5, c5, rfl, _, _, _, hr5, hb6⟩
  have hb7 : Below w.heap.size w w5 := hb5.trans (hb6.mono hb5.size)
  have hcv2 := conv_ret (c := c5) (n := 1) rfl hr5
  clear hcv hb6 hr5 hb5
  go_wp2_with fail
  refine (text_ab _).mono ?_
  rintro x w6 ⟨A6, c6, rfl, _, _, _, hr6, hb8⟩
  have hb9 : Below w.heap.size w w6 := hb7.trans (hb8.mono hb7.size)
  have hcv3 := conv_ret (c := c6) (n := 3) rfl hr6
  clear hcv2 hb8 hr6 hb7
  go_wp2
  go_ret
  exact ⟨rfl, hb9⟩

end Go.Proofs.Ytfobiojeekcgeaa
