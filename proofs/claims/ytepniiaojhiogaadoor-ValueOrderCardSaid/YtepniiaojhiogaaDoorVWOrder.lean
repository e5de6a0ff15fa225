/-
  The walk of ValueOrder.
-/
import Derived.Test.YtepniiaojhiogaaDoorVEq
namespace Go.Proofs.YtepniiaojhiogaaDoor.valueOrder
open Go.RowKit

def CmpW (P : Program) (a b : Value) (x : Int) : Prop := ∀ W wx : World, Below W.heap.size W wx → Calls P 24 #[a, b] wx fun r w' => r = .returned (.int .i64 x) ∧ Below W.heap.size W w'
/-- What the three are to each other. -/
def Three (x y z : Int) (e : Bool) : Prop := (x = 1 ∧ e = false) ∨ (x = -1 ∧ y = 1 ∧ e = false) ∨ (x = 0 ∧ y = 1 ∧ e = true) ∨ (x = 0 ∧ y = 0 ∧ e = true ∧ z ≤ 0) ∨ (x = -1 ∧ y = 0 ∧ e = false ∧ z = -1) ∨ (x = 0 ∧ y = -1 ∧ e = true ∧ z = -1) ∨ (x = -1 ∧ y = -1 ∧ e = false ∧ z = -1)
theorem three_of (a b c : V) : Three (cmpV a b) (cmpV b c) (cmpV a c) (eqV a b) ∧ cmpV b a = - cmpV a b := by
  have h1 := cmpV_ord.rng a b
  have h2 := cmpV_ord.rng b c
  have h3 := cmpV_ord.rng a c
  have ht := cmpV_ord.trans a b c
  have hn := cmpV_ord.neg a b
  have he : eqV a b = decide (cmpV a b = 0) := rfl
  refine ⟨?_, hn⟩
  unfold Three
  rw [he]
  generalize cmpV a b = x at *
  generalize cmpV b c = y at *
  generalize cmpV a c = z at *
  clear hn he
  rcases h1 with rfl | rfl | rfl <;> rcases h2 with rfl | rfl | rfl <;> simp at ht ⊢ <;> omega

set_option maxRecDepth 100000 in
set_option maxHeartbeats 4000000 in
theorem walk_of (K : ValueC) (k1 n1 k2 n2 k3 n3 : Int) (s1 s2 s3 : ByteArray) (x y z : Int) (e : Bool) (hab : CmpW Tryd.prog (.agg #[.int .i64 k1, .int .i64 n1, .string s1]) (.agg #[.int .i64 k2, .int .i64 n2, .string s2]) x) (hba : CmpW Tryd.prog (.agg #[.int .i64 k2, .int .i64 n2, .string s2]) (.agg #[.int .i64 k1, .int .i64 n1, .string s1]) (-x)) (hbc : CmpW Tryd.prog (.agg #[.int .i64 k2, .int .i64 n2, .string s2]) (.agg #[.int .i64 k3, .int .i64 n3, .string s3]) y) (hac : CmpW Tryd.prog (.agg #[.int .i64 k1, .int .i64 n1, .string s1]) (.agg #[.int .i64 k3, .int .i64 n3, .string s3]) z)
    (heq : ∀ w, (Op.equalIn 10000 23 (.agg #[.int .i64 k1, .int .i64 n1, .string s1]) (.agg #[.int .i64 k2, .int .i64 n2, .string s2])).run Tryd.prog w = .ok e w) (h3 : Three x y z e) (w : World) :
    Calls Tryd.prog 7 #[.agg #[.int .i64 k1, .int .i64 n1, .string s1], .agg #[.int .i64 k2, .int .i64 n2, .string s2], .agg #[.int .i64 k3, .int .i64 n3, .string s3]] w fun r w' => r = .returned (.bool true) ∧ Below w.heap.size w w' := by
  have HL := Lib.hid (fun (W wx : World) (hb : Below W.heap.size W wx) => call_from hb (liveV_any K wx))
  have HAB := Lib.hid hab
  have HBA := Lib.hid hba
  have HBC := Lib.hid hbc
  have HAC := Lib.hid hac
  unfold CmpW at HAB HBA HBC HAC
  clear K hab hba hbc hac
  rcases h3 with ⟨rfl, rfl⟩ | ⟨rfl, rfl, rfl⟩ | ⟨rfl, rfl, rfl⟩ | ⟨rfl, rfl, rfl, hz⟩ | ⟨rfl, rfl, rfl, rfl⟩ | ⟨rfl, rfl, rfl, rfl⟩ | ⟨rfl, rfl, rfl, rfl⟩
  all_goals
    (try have hz' : decide (z ≤ 0) = true := by simpa using hz)
    go_enter Tryd.func7, Tryd.ntmps7
    go_wp2_with fail
    have hb3 : Below w.heap.size w (((w.alloc (.cells #[.int .i64 k1, .int .i64 n1, .string s1] 23)).alloc (.cells #[.int .i64 k2, .int .i64 n2, .string s2] 23)).alloc (.cells #[.int .i64 k3, .int .i64 n3, .string s3] 23)) := (((Below.refl _ w).alloc (Nat.le_refl _) _).alloc (by simp) _).alloc (by simp; omega) _
    have x1 := ((Boxed.new w k1 n1 s1).below ((Below.refl _ _).alloc (Nat.le_refl _) (.cells #[.int .i64 k2, .int .i64 n2, .string s2] 23))).below ((Below.refl _ _).alloc (Nat.le_refl _) (.cells #[.int .i64 k3, .int .i64 n3, .string s3] 23))
    have x2 := (Boxed.new (w.alloc (.cells #[.int .i64 k1, .int .i64 n1, .string s1] 23)) k2 n2 s2).below ((Below.refl _ _).alloc (Nat.le_refl _) (.cells #[.int .i64 k3, .int .i64 n3, .string s3] 23))
    have x3 := Boxed.new ((w.alloc (.cells #[.int .i64 k1, .int .i64 n1, .string s1] 23)).alloc (.cells #[.int .i64 k2, .int .i64 n2, .string s2] 23)) k3 n3 s3
    rw [show (w.alloc (.cells #[.int .i64 k1, .int .i64 n1, .string s1] 23)).heap.size = w.heap.size + 1 from by simp] at x2
    rw [show ((w.alloc (.cells #[.int .i64 k1, .int .i64 n1, .string s1] 23)).alloc (.cells #[.int .i64 k2, .int .i64 n2, .string s2] 23)).heap.size = w.heap.size + 2 from by simp] at x3
    generalize (((w.alloc (.cells #[.int .i64 k1, .int .i64 n1, .string s1] 23)).alloc (.cells #[.int .i64 k2, .int .i64 n2, .string s2] 23)).alloc (.cells #[.int .i64 k3, .int .i64 n3, .string s3] 23)) = w0 at *
    refine (HL.out w0 _ (Below.refl _ _)).mono ?_
    rintro r w1 ⟨rfl, hb1⟩
    have X1 := Lib.hid (x1.below hb1)
    have X2 := Lib.hid (x2.below hb1)
    have X3 := Lib.hid (x3.below hb1)
    have HB1 := Lib.hid (hb3.trans (hb1.mono hb3.size))
    clear x1 x2 x3 hb1 hb3
    have keep : ∀ w', Below w1.heap.size w1 w' → w'.cell? ⟨w.heap.size, 0, none⟩ = some (.int .i64 k1) ∧ w'.cell? ⟨w.heap.size, 1, none⟩ = some (.int .i64 n1) ∧ w'.cell? ⟨w.heap.size, 2, none⟩ = some (.string s1) ∧ w'.cell? ⟨w.heap.size + 1, 0, none⟩ = some (.int .i64 k2) ∧ w'.cell? ⟨w.heap.size + 1, 1, none⟩ = some (.int .i64 n2) ∧ w'.cell? ⟨w.heap.size + 1, 2, none⟩ = some (.string s2) ∧ w'.cell? ⟨w.heap.size + 2, 0, none⟩ = some (.int .i64 k3) ∧ w'.cell? ⟨w.heap.size + 2, 1, none⟩ = some (.int .i64 n3) ∧ w'.cell? ⟨w.heap.size + 2, 2, none⟩ = some (.string s3) ∧ Below w1.heap.size w1 w' := fun w' h =>
      have m1 := (X1.out.below h).cells
      have m2 := (X2.out.below h).cells
      have m3 := (X3.out.below h).cells
      ⟨m1.1, m1.2.1, m1.2.2, m2.1, m2.2.1, m2.2.2, m3.1, m3.2.1, m3.2.2, h⟩
    have KEEP := Lib.hid keep
    obtain ⟨c0, c1, c2, c3, c4, c5, c6, c7, c8, _⟩ := keep _ (Below.refl _ _)
    clear keep
    go_upto_region 3 with fail
    go_region_held3 (fun w' => w'.cell? ⟨w.heap.size, 0, none⟩ = some (.int .i64 k1) ∧ w'.cell? ⟨w.heap.size, 1, none⟩ = some (.int .i64 n1) ∧ w'.cell? ⟨w.heap.size, 2, none⟩ = some (.string s1) ∧ w'.cell? ⟨w.heap.size + 1, 0, none⟩ = some (.int .i64 k2) ∧ w'.cell? ⟨w.heap.size + 1, 1, none⟩ = some (.int .i64 n2) ∧ w'.cell? ⟨w.heap.size + 1, 2, none⟩ = some (.string s2) ∧ w'.cell? ⟨w.heap.size + 2, 0, none⟩ = some (.int .i64 k3) ∧ w'.cell? ⟨w.heap.size + 2, 1, none⟩ = some (.int .i64 n3) ∧ w'.cell? ⟨w.heap.size + 2, 2, none⟩ = some (.string s3) ∧ Below w1.heap.size w1 w')
      (first | with_reducible exact KEEP.out _ hb6 | with_reducible exact KEEP.out _ (Below.refl _ _).drew)
      (first
        | (go_at_call 24; (with_reducible refine (HAB.out w1 _ (by go_split_ands; assumption)).mono ?_); rintro r w' ⟨rfl, hb6⟩)
        | (go_at_call 24; (with_reducible refine (HBC.out w1 _ (by go_split_ands; assumption)).mono ?_); rintro r w' ⟨rfl, hb6⟩))
    obtain ⟨c0, c1, c2, c3, c4, c5, c6, c7, c8, _⟩ := KEEP.out _ hb6
    have heq1 := heq
    go_wp2_with (first
      | (go_at_call 24; (with_reducible refine (HBA.out w1 _ (by assumption)).mono ?_); rintro r w' ⟨rfl, hb6⟩; obtain ⟨c0, c1, c2, c3, c4, c5, c6, c7, c8, _⟩ := KEEP.out _ hb6)
      | (go_at_call 24; (with_reducible refine (HAC.out w1 _ (by assumption)).mono ?_); rintro r w' ⟨rfl, hb6⟩; obtain ⟨c0, c1, c2, c3, c4, c5, c6, c7, c8, _⟩ := KEEP.out _ hb6))
    go_ret
    exact ⟨rfl, HB1.out.trans (hb6.mono HB1.out.size)⟩

theorem walk (K : ValueC) (a b c : V) (w : World) : Calls Tryd.prog 7 #[a.val, b.val, c.val] w fun r w' => r = .returned (.bool true) ∧ Below w.heap.size w w' := by
  obtain ⟨h1, h2⟩ := three_of a b c
  obtain ⟨k1, n1, s1⟩ := a
  obtain ⟨k2, n2, s2⟩ := b
  obtain ⟨k3, n3, s3⟩ := c
  exact walk_of K k1 n1 k2 n2 k3 n3 s1 s2 s3 _ _ _ _ (fun W wx hb => call_from hb (K.compare ⟨k1, n1, s1⟩ ⟨k2, n2, s2⟩ wx)) (fun W wx hb => by rw [← h2]; exact call_from hb (K.compare ⟨k2, n2, s2⟩ ⟨k1, n1, s1⟩ wx))
    (fun W wx hb => call_from hb (K.compare ⟨k2, n2, s2⟩ ⟨k3, n3, s3⟩ wx)) (fun W wx hb => call_from hb (K.compare ⟨k1, n1, s1⟩ ⟨k3, n3, s3⟩ wx)) (fun w => eq_in k1 n1 k2 n2 s1 s2 w) h1 w
end Go.Proofs.YtepniiaojhiogaaDoor.valueOrder
