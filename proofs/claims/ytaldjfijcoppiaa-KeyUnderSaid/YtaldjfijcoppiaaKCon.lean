/-
  What package key has to answer, as contracts that the walks of its statements take for granted; and the chapter's examples from them.
-/
import Derived.Test.YtaldjfijcoppiaaKLaw
import Derived.Laws.NewBlocks
namespace Go.Proofs.Ytaldjfijcoppiaa
open Go.RowKit

def MakeC : Prop := ∀ (kind : UInt8) (A : Option Addr) (n c : Nat) (l : List ByteArray) (lo hi : Nat) (w : World), n = l.length → n ≤ 5000 → (∀ p ∈ l, p.size ≤ 5000) → RowS w lo hi A l → hi ≤ w.heap.size → (A = none → c = 0) → n ≤ c →
  Calls Try.prog 15 #[.int .u8 kind.toNat, .slice A n c] w fun r w' => r = .returned (.string ⟨(keyB kind l).toArray⟩) ∧ Below w.heap.size w w'
def UnderC : Prop := ∀ (kind : UInt8) (A : Option Addr) (n c : Nat) (l : List ByteArray) (lo hi : Nat) (w : World), n = l.length → n ≤ 20 → (∀ p ∈ l, p.size ≤ 100) → RowS w lo hi A l → hi ≤ w.heap.size → (A = none → c = 0) → n ≤ c →
  Calls Try.prog 13 #[.int .u8 kind.toNat, .slice A n c] w fun r w' => r = .returned (.tuple #[.string ⟨(keyB kind l).toArray⟩, .string ⟨(afterL (keyB kind l)).toArray⟩]) ∧ Below w.heap.size w w'
def ParseC : Prop := ∀ (k : List UInt8) (w : World), k.length ≤ 5000 → Calls Try.prog 11 #[.string ⟨k.toArray⟩] w (RetParse k w)
def NumberC : Prop := ∀ (n : Nat) (w : World), (n : Int) ≤ 18446744073709551615 → Calls Try.prog 22 #[.int .u64 n] w fun r w' => r = .returned (.string ⟨(hexN 16 n).toArray⟩) ∧ Below w.heap.size w w'
def DigitsC : Prop := ∀ (l : List UInt8) (w : World), l.length ≤ 5000 → Calls Try.prog 20 #[.string ⟨l.toArray⟩] w fun r w' => r = .returned (.tuple #[.int .u64 ((digitsL l).1 : Int), .int .i64 (digitsL l).2]) ∧ Below w.heap.size w w'
def AfterC : Prop := ∀ (p : List UInt8) (w : World), p.length ≤ 5000 → Calls Try.prog 24 #[.string ⟨p.toArray⟩] w fun r w' => r = .returned (.string ⟨(afterL p).toArray⟩) ∧ Below w.heap.size w w'
def NameC : Prop := ∀ (l : List UInt8) (w : World), l.length ≤ 5000 → Calls Try.prog 17 #[.string ⟨l.toArray⟩] w fun r w' => r = .returned (.bool (nameL l)) ∧ Below w.heap.size w w'
structure KeyC : Prop where
  make : MakeC
  under : UnderC
  parse : ParseC
  number : NumberC
  digits : DigitsC
  after : AfterC
  name : NameC

theorem RowS.two (w : World) (e : TypeId) (x y : ByteArray) : RowS (w.alloc (.cells #[.string x, .string y] e)) w.heap.size (w.heap.size + 1) (some ⟨w.heap.size, 0, none⟩) [x, y] := fun _ => by
  refine ⟨w.heap.size, 0, rfl, Nat.le_refl _, by omega, fun j hj => ?_⟩
  match j, hj with
  | 0, _ => simp
  | 1, _ => simp

set_option maxRecDepth 100000 in
set_option maxHeartbeats 1000000 in
theorem liveK_any (K : KeyC) (w : World) : Calls Try.prog 9 #[] w fun r w' => r = .returned (.bool true) ∧ Below w.heap.size w w' := by
  have HK := Lib.hid K
  clear K
  have H1 := Lib.hid (HK.out.under 116 (some ⟨w.heap.size, 0, none⟩) 1 1 [⟨#[97]⟩] w.heap.size (w.heap.size + 1) (w.alloc (.cells #[.string ⟨#[97]⟩] 9)) rfl (by omega) (by decide) (RowS.one w 9 ⟨#[97]⟩) (by simp) (by intro h; cases h) (by omega))
  go_enter Try.func9, Try.ntmps9
  go_wp2_with fail
  refine (H1.out).mono ?_
  rintro r w1 ⟨rfl, hb⟩
  have HB1 := Lib.hid (((Below.refl _ w).alloc (Nat.le_refl _) _).trans (hb.mono (by simp)))
  clear hb H1
  have H2 := Lib.hid (HK.out.make 116 (some ⟨w1.heap.size, 0, none⟩) 2 2 [⟨#[97, 98]⟩, ⟨#[]⟩] w1.heap.size (w1.heap.size + 1) (w1.alloc (.cells #[.string ⟨#[97, 98]⟩, .string ⟨#[]⟩] 9)) rfl (by omega) (by decide) (RowS.two w1 9 ⟨#[97, 98]⟩ ⟨#[]⟩) (by simp) (by intro h; cases h) (by omega))
  rw [show keyB 116 [⟨#[97]⟩] = [116, 97, 0, 1] from rfl, show afterL [116, 97, 0, 1] = [116, 97, 0, 2] from rfl]
  go_wp2_with fail
  refine (H2.out).mono ?_
  rintro r w2 ⟨rfl, hb⟩
  have HB2 := Lib.hid (HB1.out.trans ((((Below.refl _ w1).alloc (Nat.le_refl _) _).trans (hb.mono (by simp))).mono HB1.out.size))
  clear hb H2 HB1
  rw [show keyB 116 [⟨#[97, 98]⟩, ⟨#[]⟩] = [116, 97, 98, 0, 1, 0, 1] from rfl]
  go_wp2_with fail
  refine (HK.out.after [97, 98] _ (by simp)).mono ?_
  rintro r w3 ⟨rfl, hb⟩
  have HB3 := Lib.hid (HB2.out.trans (hb.mono HB2.out.size))
  clear hb HB2
  rw [show afterL [97, 98] = [97, 99] from rfl]
  go_wp2_with fail
  refine (HK.out.number 255 _ (by omega)).mono ?_
  rintro r w4 ⟨rfl, hb⟩
  have HB4 := Lib.hid (HB3.out.trans (hb.mono HB3.out.size))
  clear hb HB3
  rw [show hexN 16 255 = [48, 48, 48, 48, 48, 48, 48, 48, 48, 48, 48, 48, 48, 48, 102, 102] from rfl]
  go_wp2_with fail
  refine (HK.out.name [97, 45, 49] _ (by simp)).mono ?_
  rintro r w5 ⟨rfl, hb⟩
  have HB5 := Lib.hid (HB4.out.trans (hb.mono HB4.out.size))
  clear hb HB4
  rw [show nameL [97, 45, 49] = true from by decide]
  go_wp2
  go_ret
  exact ⟨rfl, HB5.out⟩
end Go.Proofs.Ytaldjfijcoppiaa
