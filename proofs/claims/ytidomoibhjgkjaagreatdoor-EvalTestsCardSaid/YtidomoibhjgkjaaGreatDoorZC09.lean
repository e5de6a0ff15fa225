import Derived.Test.YtidomoibhjgkjaaGreatDoorZC08
/-
  errors.As at the three targets of package fault (a number, a need, a Fault), of any error that is made of places around an end.
-/
namespace Go.Proofs.YtidomoibhjgkjaaGreatDoor
open Go.RowKit

/-- errors.As of no error. -/
theorem As_none (t : Value) (w : World) : Calls Tryz.prog 41 #[.nilIface, t] w fun e w' => e = .returned (.bool false) ∧ w = w' := by
  go_enter Tryz.func41, Tryz.ntmps41
  go_wp2
  go_ret
  exact ⟨rfl, rfl⟩

set_option maxHeartbeats 1000000 in
/-- errors.As is what errors.as is, behind two new blocks. -/
theorem frontE (T : TypeId) (y : Value) (t : Nat) (w : World) (R : Ending → World → Prop) (hG : GlobW w) (hR : ∀ e w', R e w' → ∃ b, e = .returned (.bool b))
    (H : Calls Tryz.prog 73 #[.iface T y, .iface 80 (.pointer (some ⟨t, 0, none⟩)), .agg #[.pointer (some ⟨5, 80, none⟩), .pointer (some ⟨w.heap.size, 0, none⟩), .int .u64 150], .iface 156 (.agg #[.pointer (some ⟨5, 33, none⟩)])] ((w.alloc (.cells #[.pointer (some ⟨t, 0, none⟩)] 80)).alloc (.cells #[.pointer (some ⟨5, 80, none⟩), .pointer (some ⟨w.heap.size, 0, none⟩), .int .u64 150] 107)) R) :
    Calls Tryz.prog 41 #[.iface T y, .iface 80 (.pointer (some ⟨t, 0, none⟩))] w R := by
  have f1 := valueOfTE
  have f2 := typeTE
  have f3 := methodKind
  have f4 := kindTE
  have f5 := isNilTE ⟨w.heap.size, 0, none⟩ ⟨t, 0, none⟩ ((w.alloc (.cells #[.pointer (some ⟨t, 0, none⟩)] 80)).alloc (.cells #[.pointer (some ⟨5, 80, none⟩), .pointer (some ⟨w.heap.size, 0, none⟩), .int .u64 150] 107)) (by simp)
  have f6 := methodElem
  have f7 := elemTE
  have f8 := kindE
  have f9 := methodImplements
  have f10 := implementsE
  have f11 := cell_alloc (cell_alloc hG.et (.cells #[.pointer (some ⟨t, 0, none⟩)] 80)) (.cells #[.pointer (some ⟨5, 80, none⟩), .pointer (some ⟨w.heap.size, 0, none⟩), .int .u64 150] 107)
  have H' := Lib.hid H
  have HR := Lib.hid hR
  clear hG H hR
  go_enter Tryz.func41, Tryz.ntmps41
  go_wp2_with (go_at_call 73; refine (H'.out).mono ?_; intro e w' hq; obtain ⟨b, rfl⟩ := HR.out _ _ hq)
  exact hq

set_option maxHeartbeats 1000000 in
/-- errors.As is what errors.as is, behind two new blocks. -/
theorem frontNd (T : TypeId) (y : Value) (t : Nat) (w : World) (R : Ending → World → Prop) (hG : GlobW w) (hR : ∀ e w', R e w' → ∃ b, e = .returned (.bool b))
    (H : Calls Tryz.prog 73 #[.iface T y, .iface 96 (.pointer (some ⟨t, 0, none⟩)), .agg #[.pointer (some ⟨5, 96, none⟩), .pointer (some ⟨w.heap.size, 0, none⟩), .int .u64 150], .iface 156 (.agg #[.pointer (some ⟨5, 35, none⟩)])] ((w.alloc (.cells #[.pointer (some ⟨t, 0, none⟩)] 96)).alloc (.cells #[.pointer (some ⟨5, 96, none⟩), .pointer (some ⟨w.heap.size, 0, none⟩), .int .u64 150] 107)) R) :
    Calls Tryz.prog 41 #[.iface T y, .iface 96 (.pointer (some ⟨t, 0, none⟩))] w R := by
  have f1 := valueOfTN
  have f2 := typeTN
  have f3 := methodKind
  have f4 := kindTN
  have f5 := isNilTN ⟨w.heap.size, 0, none⟩ ⟨t, 0, none⟩ ((w.alloc (.cells #[.pointer (some ⟨t, 0, none⟩)] 96)).alloc (.cells #[.pointer (some ⟨5, 96, none⟩), .pointer (some ⟨w.heap.size, 0, none⟩), .int .u64 150] 107)) (by simp)
  have f6 := methodElem
  have f7 := elemTN
  have f8 := kindN
  have f9 := methodImplements
  have f10 := implementsN
  have f11 := cell_alloc (cell_alloc hG.et (.cells #[.pointer (some ⟨t, 0, none⟩)] 96)) (.cells #[.pointer (some ⟨5, 96, none⟩), .pointer (some ⟨w.heap.size, 0, none⟩), .int .u64 150] 107)
  have H' := Lib.hid H
  have HR := Lib.hid hR
  clear hG H hR
  go_enter Tryz.func41, Tryz.ntmps41
  go_wp2_with (go_at_call 73; refine (H'.out).mono ?_; intro e w' hq; obtain ⟨b, rfl⟩ := HR.out _ _ hq)
  exact hq

set_option maxHeartbeats 1000000 in
/-- errors.As is what errors.as is, behind two new blocks. -/
theorem frontP (T : TypeId) (y : Value) (t : Nat) (w : World) (R : Ending → World → Prop) (hG : GlobW w) (hR : ∀ e w', R e w' → ∃ b, e = .returned (.bool b))
    (H : Calls Tryz.prog 73 #[.iface T y, .iface 118 (.pointer (some ⟨t, 0, none⟩)), .agg #[.pointer (some ⟨5, 118, none⟩), .pointer (some ⟨w.heap.size, 0, none⟩), .int .u64 150], .iface 156 (.agg #[.pointer (some ⟨5, 117, none⟩)])] ((w.alloc (.cells #[.pointer (some ⟨t, 0, none⟩)] 118)).alloc (.cells #[.pointer (some ⟨5, 118, none⟩), .pointer (some ⟨w.heap.size, 0, none⟩), .int .u64 150] 107)) R) :
    Calls Tryz.prog 41 #[.iface T y, .iface 118 (.pointer (some ⟨t, 0, none⟩))] w R := by
  have f1 := valueOfTP
  have f2 := typeTP
  have f3 := methodKind
  have f4 := kindTP
  have f5 := isNilTP ⟨w.heap.size, 0, none⟩ ⟨t, 0, none⟩ ((w.alloc (.cells #[.pointer (some ⟨t, 0, none⟩)] 118)).alloc (.cells #[.pointer (some ⟨5, 118, none⟩), .pointer (some ⟨w.heap.size, 0, none⟩), .int .u64 150] 107)) (by simp)
  have f6 := methodElem
  have f7 := elemTP
  have f8 := kindP
  have f9 := methodImplements
  have f10 := implementsP
  have f11 := cell_alloc (cell_alloc hG.et (.cells #[.pointer (some ⟨t, 0, none⟩)] 118)) (.cells #[.pointer (some ⟨5, 118, none⟩), .pointer (some ⟨w.heap.size, 0, none⟩), .int .u64 150] 107)
  have H' := Lib.hid H
  have HR := Lib.hid hR
  clear hG H hR
  go_enter Tryz.func41, Tryz.ntmps41
  go_wp2_with (go_at_call 73; refine (H'.out).mono ?_; intro e w' hq; obtain ⟨b, rfl⟩ := HR.out _ _ hq)
  exact hq

theorem AsE_num (ps : List ByteArray) (v : Value) (n : Int) (hi t : Nat) (o1 : Value) (w : World) (he : Err w hi (End.num n) ps v) (hhi : hi ≤ w.heap.size) (hG : GlobW w) (ht : w.cell? ⟨t, 0, none⟩ = some o1) (hf : w.frozen? ⟨t, 0, none⟩ = false) :
    Calls Tryz.prog 41 #[v, .iface 80 (.pointer (some ⟨t, 0, none⟩))] w fun e w' => e = .returned (.bool true) ∧ Below w.heap.size (w.setCell ⟨t, 0, none⟩ (.int .i64 n)) w' := by
  have hs : some? (End.num n) ps := .inr (by intro h; cases h)
  obtain ⟨T, y, rfl⟩ := he.iface hs
  have HE := he.below (((Below.refl _ w).alloc (Nat.le_refl _) (.cells #[.pointer (some ⟨t, 0, none⟩)] 80)).alloc (by simp) (.cells #[.pointer (some ⟨5, 80, none⟩), .pointer (some ⟨w.heap.size, 0, none⟩), .int .u64 150] 107)) hhi
  have t1 := cell_alloc (cell_alloc ht (.cells #[.pointer (some ⟨t, 0, none⟩)] 80)) (.cells #[.pointer (some ⟨5, 80, none⟩), .pointer (some ⟨w.heap.size, 0, none⟩), .int .u64 150] 107)
  have g1 := frozen_alloc (cell_alloc ht _) (.cells #[.pointer (some ⟨5, 80, none⟩), .pointer (some ⟨w.heap.size, 0, none⟩), .int .u64 150] 107) (frozen_alloc ht (.cells #[.pointer (some ⟨t, 0, none⟩)] 80) hf)
  refine frontE T y t w _ hG (fun e w' h => ⟨_, h.1⟩) ((asE_num ps _ n hi t _ o1 _ HE hs (by simp; omega) (by simp) t1 g1).mono ?_)
  rintro e w' ⟨he, hb⟩
  exact ⟨he, Below.trans (b := ((w.alloc (.cells #[.pointer (some ⟨t, 0, none⟩)] 80)).alloc (.cells #[.pointer (some ⟨5, 80, none⟩), .pointer (some ⟨w.heap.size, 0, none⟩), .int .u64 150] 107)).setCell ⟨t, 0, none⟩ (.int .i64 n)) (below_set (((Below.refl _ w).alloc (Nat.le_refl _) _).alloc (by simp) _) _ _) (hb.mono (by simp; omega))⟩

theorem AsE_need (ps : List ByteArray) (v : Value) (a b : ByteArray) (hi t : Nat) (w : World) (he : Err w hi (End.need a b) ps v) (hhi : hi ≤ w.heap.size) (hG : GlobW w) :
    Calls Tryz.prog 41 #[v, .iface 80 (.pointer (some ⟨t, 0, none⟩))] w fun e w' => e = .returned (.bool false) ∧ Below w.heap.size w w' := by
  have hs : some? (End.need a b) ps := .inr (by intro h; cases h)
  obtain ⟨T, y, rfl⟩ := he.iface hs
  have HE := he.below (((Below.refl _ w).alloc (Nat.le_refl _) (.cells #[.pointer (some ⟨t, 0, none⟩)] 80)).alloc (by simp) (.cells #[.pointer (some ⟨5, 80, none⟩), .pointer (some ⟨w.heap.size, 0, none⟩), .int .u64 150] 107)) hhi
  refine frontE T y t w _ hG (fun e w' h => ⟨_, h.1⟩) ((asE_need ps _ a b hi t _ _ HE hs (by simp; omega)).mono ?_)
  rintro e w' ⟨he, hb⟩
  exact ⟨he, (((Below.refl _ w).alloc (Nat.le_refl _) _).alloc (by simp) _).trans (hb.mono (by simp; omega))⟩

theorem AsE_nil (ps : List ByteArray) (v : Value)  (hi t : Nat) (w : World) (he : Err w hi End.nil ps v) (hs : some? End.nil ps) (hhi : hi ≤ w.heap.size) (hG : GlobW w) :
    Calls Tryz.prog 41 #[v, .iface 80 (.pointer (some ⟨t, 0, none⟩))] w fun e w' => e = .returned (.bool false) ∧ Below w.heap.size w w' := by
  obtain ⟨T, y, rfl⟩ := he.iface hs
  have HE := he.below (((Below.refl _ w).alloc (Nat.le_refl _) (.cells #[.pointer (some ⟨t, 0, none⟩)] 80)).alloc (by simp) (.cells #[.pointer (some ⟨5, 80, none⟩), .pointer (some ⟨w.heap.size, 0, none⟩), .int .u64 150] 107)) hhi
  refine frontE T y t w _ hG (fun e w' h => ⟨_, h.1⟩) ((asE_nil ps _ hi t _ _ HE hs (by simp; omega)).mono ?_)
  rintro e w' ⟨he, hb⟩
  exact ⟨he, (((Below.refl _ w).alloc (Nat.le_refl _) _).alloc (by simp) _).trans (hb.mono (by simp; omega))⟩

theorem AsN_num (ps : List ByteArray) (v : Value) (n : Int) (hi t : Nat) (w : World) (he : Err w hi (End.num n) ps v) (hhi : hi ≤ w.heap.size) (hG : GlobW w) :
    Calls Tryz.prog 41 #[v, .iface 96 (.pointer (some ⟨t, 0, none⟩))] w fun e w' => e = .returned (.bool false) ∧ Below w.heap.size w w' := by
  have hs : some? (End.num n) ps := .inr (by intro h; cases h)
  obtain ⟨T, y, rfl⟩ := he.iface hs
  have HE := he.below (((Below.refl _ w).alloc (Nat.le_refl _) (.cells #[.pointer (some ⟨t, 0, none⟩)] 96)).alloc (by simp) (.cells #[.pointer (some ⟨5, 96, none⟩), .pointer (some ⟨w.heap.size, 0, none⟩), .int .u64 150] 107)) hhi
  refine frontNd T y t w _ hG (fun e w' h => ⟨_, h.1⟩) ((asN_num ps _ n hi t _ _ HE hs (by simp; omega)).mono ?_)
  rintro e w' ⟨he, hb⟩
  exact ⟨he, (((Below.refl _ w).alloc (Nat.le_refl _) _).alloc (by simp) _).trans (hb.mono (by simp; omega))⟩

theorem AsN_need (ps : List ByteArray) (v : Value) (a b : ByteArray) (hi t : Nat) (o1 o2 : Value) (w : World) (he : Err w hi (End.need a b) ps v) (hhi : hi ≤ w.heap.size) (hG : GlobW w) (ht : w.cell? ⟨t, 0, none⟩ = some o1) (ht' : w.cell? ⟨t, 1, none⟩ = some o2) (hf : w.frozen? ⟨t, 0, none⟩ = false) (hf' : w.frozen? ⟨t, 1, none⟩ = false) :
    Calls Tryz.prog 41 #[v, .iface 96 (.pointer (some ⟨t, 0, none⟩))] w fun e w' => e = .returned (.bool true) ∧ Below w.heap.size ((w.setCell ⟨t, 0, none⟩ (.string a)).setCell ⟨t, 1, none⟩ (.string b)) w' := by
  have hs : some? (End.need a b) ps := .inr (by intro h; cases h)
  obtain ⟨T, y, rfl⟩ := he.iface hs
  have HE := he.below (((Below.refl _ w).alloc (Nat.le_refl _) (.cells #[.pointer (some ⟨t, 0, none⟩)] 96)).alloc (by simp) (.cells #[.pointer (some ⟨5, 96, none⟩), .pointer (some ⟨w.heap.size, 0, none⟩), .int .u64 150] 107)) hhi
  have t1 := cell_alloc (cell_alloc ht (.cells #[.pointer (some ⟨t, 0, none⟩)] 96)) (.cells #[.pointer (some ⟨5, 96, none⟩), .pointer (some ⟨w.heap.size, 0, none⟩), .int .u64 150] 107)
  have g1 := frozen_alloc (cell_alloc ht _) (.cells #[.pointer (some ⟨5, 96, none⟩), .pointer (some ⟨w.heap.size, 0, none⟩), .int .u64 150] 107) (frozen_alloc ht (.cells #[.pointer (some ⟨t, 0, none⟩)] 96) hf)
  have t2 := cell_alloc (cell_alloc ht' (.cells #[.pointer (some ⟨t, 0, none⟩)] 96)) (.cells #[.pointer (some ⟨5, 96, none⟩), .pointer (some ⟨w.heap.size, 0, none⟩), .int .u64 150] 107)
  have g2 := frozen_alloc (cell_alloc ht' _) (.cells #[.pointer (some ⟨5, 96, none⟩), .pointer (some ⟨w.heap.size, 0, none⟩), .int .u64 150] 107) (frozen_alloc ht' (.cells #[.pointer (some ⟨t, 0, none⟩)] 96) hf')
  refine frontNd T y t w _ hG (fun e w' h => ⟨_, h.1⟩) ((asN_need ps _ a b hi t _ o1 o2 _ HE hs (by simp; omega) (by simp) t1 t2 g1 g2).mono ?_)
  rintro e w' ⟨he, hb⟩
  exact ⟨he, Below.trans (b := (((w.alloc (.cells #[.pointer (some ⟨t, 0, none⟩)] 96)).alloc (.cells #[.pointer (some ⟨5, 96, none⟩), .pointer (some ⟨w.heap.size, 0, none⟩), .int .u64 150] 107)).setCell ⟨t, 0, none⟩ (.string a)).setCell ⟨t, 1, none⟩ (.string b)) (below_set (below_set (((Below.refl _ w).alloc (Nat.le_refl _) _).alloc (by simp) _) _ _) _ _) (hb.mono (by simp; omega))⟩

theorem AsN_nil (ps : List ByteArray) (v : Value)  (hi t : Nat) (w : World) (he : Err w hi End.nil ps v) (hs : some? End.nil ps) (hhi : hi ≤ w.heap.size) (hG : GlobW w) :
    Calls Tryz.prog 41 #[v, .iface 96 (.pointer (some ⟨t, 0, none⟩))] w fun e w' => e = .returned (.bool false) ∧ Below w.heap.size w w' := by
  obtain ⟨T, y, rfl⟩ := he.iface hs
  have HE := he.below (((Below.refl _ w).alloc (Nat.le_refl _) (.cells #[.pointer (some ⟨t, 0, none⟩)] 96)).alloc (by simp) (.cells #[.pointer (some ⟨5, 96, none⟩), .pointer (some ⟨w.heap.size, 0, none⟩), .int .u64 150] 107)) hhi
  refine frontNd T y t w _ hG (fun e w' h => ⟨_, h.1⟩) ((asN_nil ps _ hi t _ _ HE hs (by simp; omega)).mono ?_)
  rintro e w' ⟨he, hb⟩
  exact ⟨he, (((Below.refl _ w).alloc (Nat.le_refl _) _).alloc (by simp) _).trans (hb.mono (by simp; omega))⟩

theorem AsP_hit (c t : Nat) (o1 : Value) (w : World) (hG : GlobW w) (ht : w.cell? ⟨t, 0, none⟩ = some o1) (hf : w.frozen? ⟨t, 0, none⟩ = false) :
    Calls Tryz.prog 41 #[.iface 117 (.pointer (some ⟨c, 0, none⟩)), .iface 118 (.pointer (some ⟨t, 0, none⟩))] w fun e w' => e = .returned (.bool true) ∧ Below w.heap.size (w.setCell ⟨t, 0, none⟩ (.pointer (some ⟨c, 0, none⟩))) w' := by
  have t1 := cell_alloc (cell_alloc ht (.cells #[.pointer (some ⟨t, 0, none⟩)] 118)) (.cells #[.pointer (some ⟨5, 118, none⟩), .pointer (some ⟨w.heap.size, 0, none⟩), .int .u64 150] 107)
  have g1 := frozen_alloc (cell_alloc ht _) (.cells #[.pointer (some ⟨5, 118, none⟩), .pointer (some ⟨w.heap.size, 0, none⟩), .int .u64 150] 107) (frozen_alloc ht (.cells #[.pointer (some ⟨t, 0, none⟩)] 118) hf)
  refine frontP _ _ t w _ hG (fun e w' h => ⟨_, h.1⟩) ((asP_hit c t _ o1 _ (by simp) t1 g1).mono ?_)
  rintro e w' ⟨he, hb⟩
  exact ⟨he, Below.trans (b := ((w.alloc (.cells #[.pointer (some ⟨t, 0, none⟩)] 118)).alloc (.cells #[.pointer (some ⟨5, 118, none⟩), .pointer (some ⟨w.heap.size, 0, none⟩), .int .u64 150] 107)).setCell ⟨t, 0, none⟩ (.pointer (some ⟨c, 0, none⟩))) (below_set (((Below.refl _ w).alloc (Nat.le_refl _) _).alloc (by simp) _) _ _) (hb.mono (by simp; omega))⟩

theorem AsP_num (n : Int) (t : Nat) (w : World) (hG : GlobW w) :
    Calls Tryz.prog 41 #[.iface 33 (.int .i64 n), .iface 118 (.pointer (some ⟨t, 0, none⟩))] w fun e w' => e = .returned (.bool false) ∧ Below w.heap.size w w' := by
  refine frontP _ _ t w _ hG (fun e w' h => ⟨_, h.1⟩) ((asP_num n t _ _).mono ?_)
  rintro e w' ⟨he, hb⟩
  exact ⟨he, (((Below.refl _ w).alloc (Nat.le_refl _) _).alloc (by simp) _).trans (hb.mono (by simp; omega))⟩

theorem AsP_need (a b : ByteArray) (t : Nat) (w : World) (hG : GlobW w) :
    Calls Tryz.prog 41 #[.iface 35 (.agg #[.string a, .string b]), .iface 118 (.pointer (some ⟨t, 0, none⟩))] w fun e w' => e = .returned (.bool false) ∧ Below w.heap.size w w' := by
  refine frontP _ _ t w _ hG (fun e w' h => ⟨_, h.1⟩) ((asP_need a b t _ _).mono ?_)
  rintro e w' ⟨he, hb⟩
  exact ⟨he, (((Below.refl _ w).alloc (Nat.le_refl _) _).alloc (by simp) _).trans (hb.mono (by simp; omega))⟩

end Go.Proofs.YtidomoibhjgkjaaGreatDoor
