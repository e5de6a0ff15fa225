/-
  One operation on a Reader, as the law's functions does and should ask it: of package pack's Reader, and of the document's.
-/
import Derived.Test.YtfobiojeekcgeaaRefT
namespace Go.Proofs.Ytfobiojeekcgeaa
open Go.RowKit

theorem wrapU_bd (n : Int) : 0 ≤ IntKind.u64.wrap n ∧ IntKind.u64.wrap n ≤ 18446744073709551615 := by
  rw [IntKind.wrap_u64]; omega

/-- What an operation tells (a number, a text, an error), what is left, and the error that stays. -/
def opOf (l : List UInt8) (e : Nat) (d n : Int) : Int × List UInt8 × Nat × List UInt8 × Nat :=
  if d = 0 then (((uintOf l e (IntKind.u64.wrap n).toNat).1 : Int), [], 0, (uintOf l e (IntKind.u64.wrap n).toNat).2.1, (uintOf l e (IntKind.u64.wrap n).toNat).2.2)
  else if d = 1 then (IntKind.u64.wrap (zag (uintOf l e maxU).1), [], 0, (uintOf l e maxU).2.1, (uintOf l e maxU).2.2)
  else if d = 2 then (((byteOf l e).1 : Int), [], 0, (byteOf l e).2.1, (byteOf l e).2.2)
  else if d = 3 then (0, (textOfR l e n).1, 0, (textOfR l e n).2.1, (textOfR l e n).2.2)
  else (0, [], endOf l e, l, e)

def OpRet (r : Int × List UInt8 × Nat × List UInt8 × Nat) (lo g : Nat) (w : World) (x : Ending) (w' : World) : Prop :=
  x = .returned (.tuple #[.int .u64 r.1, .string ⟨r.2.1.toArray⟩, .int .i64 r.2.2.1]) ∧ Rdr w' lo g r.2.2.2.1 r.2.2.2.2 ∧ w.grownBy w' (some g)

theorem grown_alloc {w w' : World} {g : Nat} (o : Obj) (h : (w.alloc o).grownBy w' (some g)) : w.grownBy w' (some g) :=
  grown_step (World.grownBy_alloc w o (some g)) h

theorem byteOf_le (l : List UInt8) (e : Nat) : (byteOf l e).1 ≤ 255 := by
  unfold byteOf
  split
  · exact Nat.zero_le _
  · split
    · exact Nat.zero_le _
    · next b _ => have := b.toNat_lt; simp only []; omega

def FOpRet (r : Int × List UInt8 × Nat × List UInt8 × Nat) (lo g : Nat) (w : World) (x : Ending) (w' : World) : Prop :=
  x = .returned (.tuple #[.int .u64 r.1, .string ⟨r.2.1.toArray⟩, .int .i64 r.2.2.1]) ∧ FRdr w' lo g r.2.2.2.1 r.2.2.2.2 ∧ w.grownBy w' (some g)

set_option maxHeartbeats 1000000 in
set_option maxRecDepth 100000 in
theorem does_any (g lo e : Nat) (l : List UInt8) (d n : Int) (w : World) (h : Rdr w lo g l e) (h0 : -9223372036854775808 ≤ n) (h1 : n ≤ 9223372036854775807) :
    Calls Try.prog 22 #[.pointer (some ⟨g, 0, none⟩), .agg #[.int .i64 d, .int .i64 n]] w (OpRet (opOf l e d n) lo g w) := by
  have hb : Below w.heap.size w (w.alloc (.cells #[.int .i64 d, .int .i64 n] 38)) := (Below.refl _ w).alloc (Nat.le_refl _) _
  have h2 := h.below hb h.lt
  have hw := wrapU_bd n
  rcases (show d = 0 ∨ d = 1 ∨ d = 2 ∨ d = 3 ∨ (d ≠ 0 ∧ d ≠ 1 ∧ d ≠ 2 ∧ d ≠ 3) from by omega) with rfl | rfl | rfl | rfl | hd
  · have HU := Lib.hid (rUint_any g lo e l _ _ h2 hw.1 hw.2)
    have HO := Lib.hid (show opOf l e 0 n = (((uintOf l e (IntKind.u64.wrap n).toNat).1 : Int), [], 0, (uintOf l e (IntKind.u64.wrap n).toNat).2.1, (uintOf l e (IntKind.u64.wrap n).toNat).2.2) from if_pos rfl)
    obtain ⟨x, l', e', hq⟩ : ∃ x l' e', uintOf l e (IntKind.u64.wrap n).toNat = (x, l', e') := ⟨_, _, _, rfl⟩
    rw [hq] at HU HO
    clear h h2 hb hw hq
    go_enter Try.func22, Try.ntmps22
    go_wp2_with fail
    refine HU.out.mono ?_
    rintro y w1 ⟨rfl, hrd, hgr⟩
    go_wp2
    go_ret3
    rw [HO.out]
    exact ⟨rfl, hrd, grown_alloc _ hgr⟩
  · have HU := Lib.hid (rInt_any g lo e l _ h2)
    have HO := Lib.hid (show opOf l e 1 n = (IntKind.u64.wrap (zag (uintOf l e maxU).1), [], 0, (uintOf l e maxU).2.1, (uintOf l e maxU).2.2) by simp [opOf])
    obtain ⟨x, l', e', hq⟩ : ∃ x l' e', uintOf l e maxU = (x, l', e') := ⟨_, _, _, rfl⟩
    rw [hq] at HU HO
    clear h h2 hb hw hq
    generalize zag x = z at *
    go_enter Try.func22, Try.ntmps22
    go_wp2_with fail
    refine HU.out.mono ?_
    rintro y w1 ⟨rfl, hrd, hgr⟩
    go_wp2
    go_ret3
    rw [HO.out]
    exact ⟨rfl, hrd, grown_alloc _ hgr⟩
  · have HU := Lib.hid (rByte_any g lo e l _ h2)
    have HO := Lib.hid (show opOf l e 2 n = (((byteOf l e).1 : Int), [], 0, (byteOf l e).2.1, (byteOf l e).2.2) by simp [opOf])
    have hby := byteOf_le l e
    obtain ⟨x, l', e', hq⟩ : ∃ x l' e', byteOf l e = (x, l', e') := ⟨_, _, _, rfl⟩
    rw [hq] at HU HO hby
    have hby2 : x ≤ 255 := hby
    clear h h2 hb hw hq hby
    go_enter Try.func22, Try.ntmps22
    go_wp2_with fail
    refine HU.out.mono ?_
    rintro y w1 ⟨rfl, hrd, hgr⟩
    go_wp2
    go_ret3
    rw [HO.out]
    exact ⟨rfl, hrd, grown_alloc _ hgr⟩
  · have HU := Lib.hid (rText_any g lo e l n _ h2 h0 h1)
    have HO := Lib.hid (show opOf l e 3 n = (0, (textOfR l e n).1, 0, (textOfR l e n).2.1, (textOfR l e n).2.2) by simp [opOf])
    obtain ⟨x, l', e', hq⟩ : ∃ x l' e', textOfR l e n = (x, l', e') := ⟨_, _, _, rfl⟩
    rw [hq] at HU HO
    clear h h2 hb hw hq
    go_enter Try.func22, Try.ntmps22
    go_wp2_with fail
    refine HU.out.mono ?_
    rintro y w1 ⟨rfl, hrd, hgr⟩
    go_wp2
    go_ret3
    rw [HO.out]
    exact ⟨rfl, hrd, grown_alloc _ hgr⟩
  · have HU := Lib.hid (end_any g lo e l _ h2)
    have HO := Lib.hid (show opOf l e d n = (0, [], endOf l e, l, e) by simp [opOf, hd])
    have HR := Lib.hid h2
    have t0 : (d == 0) = false := by rw [beq_eq_false_iff_ne]; exact hd.1
    have t1 : (d == 1) = false := by rw [beq_eq_false_iff_ne]; exact hd.2.1
    have t2 : (d == 2) = false := by rw [beq_eq_false_iff_ne]; exact hd.2.2.1
    have t3 : (d == 3) = false := by rw [beq_eq_false_iff_ne]; exact hd.2.2.2
    generalize endOf l e = E at *
    clear h h2 hb hw hd
    go_enter Try.func22, Try.ntmps22
    go_wp2_with fail
    refine HU.out.mono ?_
    rintro y w1 ⟨rfl, rfl⟩
    go_wp2
    go_ret3
    rw [HO.out]
    exact ⟨rfl, HR.out, World.grownBy_alloc w _ (some g)⟩

set_option maxHeartbeats 1000000 in
set_option maxRecDepth 100000 in
theorem should_any (g lo e : Nat) (l : List UInt8) (d n : Int) (w : World) (h : FRdr w lo g l e) (h0 : -9223372036854775808 ≤ n) (h1 : n ≤ 9223372036854775807) :
    Calls Try.prog 23 #[.pointer (some ⟨g, 0, none⟩), .agg #[.int .i64 d, .int .i64 n]] w (FOpRet (opOf l e d n) lo g w) := by
  have hb : Below w.heap.size w (w.alloc (.cells #[.int .i64 d, .int .i64 n] 38)) := (Below.refl _ w).alloc (Nat.le_refl _) _
  have h2 := h.below hb h.lt
  have hw := wrapU_bd n
  rcases (show d = 0 ∨ d = 1 ∨ d = 2 ∨ d = 3 ∨ (d ≠ 0 ∧ d ≠ 1 ∧ d ≠ 2 ∧ d ≠ 3) from by omega) with rfl | rfl | rfl | rfl | hd
  · have HU := Lib.hid (fUint_any g lo e l _ _ h2 hw.1 hw.2)
    have HO := Lib.hid (show opOf l e 0 n = (((uintOf l e (IntKind.u64.wrap n).toNat).1 : Int), [], 0, (uintOf l e (IntKind.u64.wrap n).toNat).2.1, (uintOf l e (IntKind.u64.wrap n).toNat).2.2) from if_pos rfl)
    obtain ⟨x, l', e', hq⟩ : ∃ x l' e', uintOf l e (IntKind.u64.wrap n).toNat = (x, l', e') := ⟨_, _, _, rfl⟩
    rw [hq] at HU HO
    clear h h2 hb hw hq
    go_enter Try.func23, Try.ntmps23
    go_wp2_with fail
    refine HU.out.mono ?_
    rintro y w1 ⟨rfl, hrd, hgr⟩
    go_wp2
    go_ret3
    rw [HO.out]
    exact ⟨rfl, hrd, grown_alloc _ hgr⟩
  · have HU := Lib.hid (fInt_r g lo e l _ h2)
    have HO := Lib.hid (show opOf l e 1 n = (IntKind.u64.wrap (zag (uintOf l e maxU).1), [], 0, (uintOf l e maxU).2.1, (uintOf l e maxU).2.2) by simp [opOf])
    obtain ⟨x, l', e', hq⟩ : ∃ x l' e', uintOf l e maxU = (x, l', e') := ⟨_, _, _, rfl⟩
    rw [hq] at HU HO
    clear h h2 hb hw hq
    generalize zag x = z at *
    go_enter Try.func23, Try.ntmps23
    go_wp2_with fail
    refine HU.out.mono ?_
    rintro y w1 ⟨rfl, hrd, hgr⟩
    go_wp2
    go_ret3
    rw [HO.out]
    exact ⟨rfl, hrd, grown_alloc _ hgr⟩
  · have HU := Lib.hid (fByte_any g lo e l _ h2)
    have HO := Lib.hid (show opOf l e 2 n = (((byteOf l e).1 : Int), [], 0, (byteOf l e).2.1, (byteOf l e).2.2) by simp [opOf])
    have hby := byteOf_le l e
    obtain ⟨x, l', e', hq⟩ : ∃ x l' e', byteOf l e = (x, l', e') := ⟨_, _, _, rfl⟩
    rw [hq] at HU HO hby
    have hby2 : x ≤ 255 := hby
    clear h h2 hb hw hq hby
    go_enter Try.func23, Try.ntmps23
    go_wp2_with fail
    refine HU.out.mono ?_
    rintro y w1 ⟨rfl, hrd, hgr⟩
    go_wp2
    go_ret3
    rw [HO.out]
    exact ⟨rfl, hrd, grown_alloc _ hgr⟩
  · have HU := Lib.hid (fText_r g lo e l n _ h2 h0 h1)
    have HO := Lib.hid (show opOf l e 3 n = (0, (textOfR l e n).1, 0, (textOfR l e n).2.1, (textOfR l e n).2.2) by simp [opOf])
    obtain ⟨x, l', e', hq⟩ : ∃ x l' e', textOfR l e n = (x, l', e') := ⟨_, _, _, rfl⟩
    rw [hq] at HU HO
    clear h h2 hb hw hq
    go_enter Try.func23, Try.ntmps23
    go_wp2_with fail
    refine HU.out.mono ?_
    rintro y w1 ⟨rfl, hrd, hgr⟩
    go_wp2
    go_ret3
    rw [HO.out]
    exact ⟨rfl, hrd, grown_alloc _ hgr⟩
  · have HU := Lib.hid (fEnd_any g lo e l _ h2)
    have HO := Lib.hid (show opOf l e d n = (0, [], endOf l e, l, e) by simp [opOf, hd])
    have HR := Lib.hid h2
    have t0 : (d == 0) = false := by rw [beq_eq_false_iff_ne]; exact hd.1
    have t1 : (d == 1) = false := by rw [beq_eq_false_iff_ne]; exact hd.2.1
    have t2 : (d == 2) = false := by rw [beq_eq_false_iff_ne]; exact hd.2.2.1
    have t3 : (d == 3) = false := by rw [beq_eq_false_iff_ne]; exact hd.2.2.2
    generalize endOf l e = E at *
    clear h h2 hb hw hd
    go_enter Try.func23, Try.ntmps23
    go_wp2_with fail
    refine HU.out.mono ?_
    rintro y w1 ⟨rfl, rfl⟩
    go_wp2
    go_ret3
    rw [HO.out]
    exact ⟨rfl, HR.out, World.grownBy_alloc w _ (some g)⟩

end Go.Proofs.Ytfobiojeekcgeaa
