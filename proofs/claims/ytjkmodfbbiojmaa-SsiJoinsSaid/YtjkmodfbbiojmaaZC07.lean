import Derived.Test.YtjkmodfbbiojmaaZC00
import Derived.Test.YtjkmodfbbiojmaaZC02
import Derived.Test.YtjkmodfbbiojmaaZC01
import Derived.Test.YtjkmodfbbiojmaaZC06
import Derived.Laws.Cover1
import Derived.Deep.DeepCutAuto
import Derived.Deep.RegionHeld3
import Derived.BigQuiet
/-
  Texts as lists of bytes.
-/
namespace Go.Proofs.Ytjkmodfbbiojmaa

/-- A text of these bytes. -/
def bs (k : List UInt8) : ByteArray := ⟨k.toArray⟩
theorem bs_list (k : List UInt8) : (bs k).toList = k := by rw [ByteArray.toList_eq]; rfl
theorem bs_size (k : List UInt8) : (bs k).size = k.length := by simp [bs, ByteArray.size]
theorem bs_of (s : ByteArray) : s = bs s.data.toList := by cases s; simp [bs]
theorem bs_less (a b : List UInt8) : Op.bytesLess (bs a).toList (bs b).toList = blt a b := by rw [bs_list, bs_list]
theorem bs_same (a b : List UInt8) : ((bs a).toList == (bs b).toList) = (a == b) := by rw [bs_list, bs_list]
theorem bs_nil : bs [] = ⟨#[]⟩ := rfl
/-! ### comparisons as the model makes them -/
theorem sp_less (a b : List UInt8) (t : TypeId) : binOp .lss t (.string (bs a)) (.string (bs b)) = pure (.bool (blt a b)) := by
  have h : binOp .lss t (.string (bs a)) (.string (bs b)) = pure (.bool (Op.bytesLess (bs a).toList (bs b).toList)) := by simp [binOp, Op.stringOp]
  rw [h, bs_less]
theorem sp_geq (a b : List UInt8) (t : TypeId) : binOp .geq t (.string (bs a)) (.string (bs b)) = pure (.bool !(blt a b)) := by
  have h : binOp .geq t (.string (bs a)) (.string (bs b)) = pure (.bool !(Op.bytesLess (bs a).toList (bs b).toList)) := by simp [binOp, Op.stringOp]
  rw [h, bs_less]
theorem sp_gtr (a b : List UInt8) (t : TypeId) : binOp .gtr t (.string (bs a)) (.string (bs b)) = pure (.bool (blt b a)) := by
  have h : binOp .gtr t (.string (bs a)) (.string (bs b)) = pure (.bool !(Op.bytesLess (bs a).toList (bs b).toList || (bs a).toList == (bs b).toList)) := by simp [binOp, Op.stringOp]
  rw [h, bs_less, bs_same]
  rcases blt_tri a b with g | g | g
  · have g2 := blt_asymm g
    rw [g2, show blt a b = true from g]
    rfl
  · subst g
    rw [blt_self]
    simp
  · have g2 := blt_asymm g
    have g3 : (a == b) = false := by
      rw [beq_eq_false_iff_ne]
      rintro rfl
      rw [blt_self] at g
      cases g
    rw [g, g2, g3]
    rfl
theorem sp_leq (a b : List UInt8) (t : TypeId) : binOp .leq t (.string (bs a)) (.string (bs b)) = pure (.bool !(blt b a)) := by
  have h : binOp .leq t (.string (bs a)) (.string (bs b)) = pure (.bool (Op.bytesLess (bs a).toList (bs b).toList || (bs a).toList == (bs b).toList)) := by simp [binOp, Op.stringOp]
  rw [h, bs_less, bs_same]
  rcases blt_tri a b with g | g | g
  · have g2 := blt_asymm g
    rw [g2, show blt a b = true from g]
    rfl
  · subst g
    rw [blt_self]
    simp
  · have g2 := blt_asymm g
    have g3 : (a == b) = false := by
      rw [beq_eq_false_iff_ne]
      rintro rfl
      rw [blt_self] at g
      cases g
    rw [g, g2, g3]
    rfl
end Go.Proofs.Ytjkmodfbbiojmaa

/-
  Stretches in memory: values, rows, slices of them.
-/
namespace Go.Proofs.Ytjkmodfbbiojmaa
open Go.RowKit

def spCells (s : Sp) : List Value := [.string (bs s.lo), .string (bs s.hi)]
theorem spF : Fixed 2 spCells := ⟨by decide, fun _ => rfl, fun x v hv => by
  simp only [spCells, List.mem_cons, List.not_mem_nil, or_false] at hv
  rcases hv with rfl | rfl <;> rfl⟩
def spVal (s : Sp) : Value := .agg #[.string (bs s.lo), .string (bs s.hi)]
theorem spInfo : InfoG Try.prog 58 2 32 := InfoG.of (by kernel_rfl)
/-- A slice of stretches that reads as l, below hi. -/
def ChI (w : World) (hi : Nat) (A : Option Addr) (c : Nat) (l : List Sp) : Prop := l.length ≤ c ∧ c ≤ maxLen ∧ (A = none → c = 0) ∧ RowG spCells w 0 hi A l
section
variable {w w' : World} {hi hi' B : Nat} {A : Option Addr} {c : Nat} {l : List Sp}
theorem ChI.below (h : ChI w hi A c l) (hb : Below B w w') (hB : hi ≤ B) (hh : hi ≤ hi') : ChI w' hi' A c l := ⟨h.1, h.2.1, h.2.2.1, (h.2.2.2.below hb hB).wide (Nat.le_refl _) hh⟩
theorem ChI.none_ (w : World) (hi : Nat) : ChI w hi none 0 [] := ⟨Nat.le_refl _, Nat.zero_le _, fun _ => rfl, RowG.nil_⟩
theorem ChI.at_ (h : ChI w hi A c l) {j : Nat} (hj : j < l.length) : ∃ b o, A = some ⟨b, o, none⟩ ∧ b < hi ∧ w.cell? ⟨b, o + j * 2, none⟩ = some (.string (bs (l[j]'hj).lo)) ∧ w.cell? ⟨b, o + j * 2 + 1, none⟩ = some (.string (bs (l[j]'hj).hi)) := by
  obtain ⟨b, o, e, _, hb, hc⟩ := h.2.2.2.at_ spF hj
  exact ⟨b, o, e, hb, by simpa using hc 0 _ rfl, hc 1 _ rfl⟩
theorem OwnG.chI {e : TypeId} {lo : Nat} {v : Value} (h : OwnG e 2 spCells w lo v l) : ∃ A c, v = .slice A l.length c ∧ ChI w w.heap.size A c l := by
  obtain ⟨A, c, rfl, k1, k2, k3, k4⟩ := h.form
  exact ⟨A, c, rfl, k1, k2, k3, k4.wide (Nat.zero_le _) (Nat.le_refl _)⟩
end
/-- A call told a slice that reads as m. -/
def RetI (m : List Sp) (w : World) (r : Ending) (w' : World) : Prop := ∃ A c, r = .returned (.slice A m.length c) ∧ ChI w' w'.heap.size A c m ∧ Below w.heap.size w w'
def sameI (a b : List Sp) : Bool := decide (a = b)
end Go.Proofs.Ytjkmodfbbiojmaa

/-
  Stretches, the document's own answers: Point, Right, Has, touches.
-/
namespace Go.Proofs.Ytjkmodfbbiojmaa
open Go.RowKit

theorem nil_q {h : List UInt8} (e : h.isEmpty = true) : ((bs h).toList == []) = true ∧ (bs h).toList = [] := by
  rw [List.isEmpty_iff] at e
  subst e
  rw [bs_list]
  exact ⟨rfl, rfl⟩
theorem nil_n {h : List UInt8} (e : h.isEmpty = false) : ((bs h).toList == []) = false ∧ ¬ (bs h).toList = [] := by
  rw [List.isEmpty_eq_false_iff] at e
  rw [bs_list]
  exact ⟨beq_eq_false_iff_ne.2 e, e⟩
set_option maxRecDepth 100000 in
set_option maxHeartbeats 2000000 in
theorem refRightI_any (s : Sp) (w : World) : Calls Try.prog 49 #[spVal s] w fun r w' => r = .returned (.bool (rightS s)) ∧ Below w.heap.size w w' := by
  obtain ⟨lo, hi⟩ := s
  have HB := Lib.hid ((Below.refl w.heap.size w).alloc (Nat.le_refl _) (.cells #[.string (bs lo), .string (bs hi)] 58))
  have h0 := sp_less lo hi
  unfold rightS endS spVal
  cases hq : hi.isEmpty with
  | true =>
    obtain ⟨q1, q2⟩ := nil_q hq
    clear hq
    go_enter Try.func49, Try.ntmps49
    go_wp2
    go_ret
    exact ⟨rfl, HB.out⟩
  | false =>
    obtain ⟨q1, q2⟩ := nil_n hq
    clear hq
    rw [Bool.false_or]
    generalize blt lo hi = x at *
    go_enter Try.func49, Try.ntmps49
    go_wp2
    go_ret
    exact ⟨rfl, HB.out⟩

set_option maxRecDepth 100000 in
set_option maxHeartbeats 2000000 in
theorem refHasI_any (s : Sp) (k : List UInt8) (w : World) : Calls Try.prog 60 #[spVal s, .string (bs k)] w fun r w' => r = .returned (.bool (hasS s k)) ∧ Below w.heap.size w w' := by
  obtain ⟨lo, hi⟩ := s
  have HB := Lib.hid ((Below.refl w.heap.size w).alloc (Nat.le_refl _) (.cells #[.string (bs lo), .string (bs hi)] 58))
  have h0 := sp_geq k lo
  have h1 := sp_less k hi
  unfold hasS endS blo spVal
  simp only
  cases hl : blt k lo with
  | true =>
    rw [hl] at h0
    clear hl h1
    rw [Bool.not_true, Bool.false_and]
    go_enter Try.func60, Try.ntmps60
    go_wp2
    go_ret
    exact ⟨rfl, HB.out⟩
  | false =>
    rw [hl] at h0
    clear hl
    rw [Bool.not_false, Bool.true_and]
    cases hq : hi.isEmpty with
    | true =>
      obtain ⟨q1, q2⟩ := nil_q hq
      clear hq h1
      rw [Bool.true_or]
      go_enter Try.func60, Try.ntmps60
      go_wp2
      go_ret
      exact ⟨rfl, HB.out⟩
    | false =>
      obtain ⟨q1, q2⟩ := nil_n hq
      clear hq
      rw [Bool.false_or]
      generalize blt k hi = x at *
      go_enter Try.func60, Try.ntmps60
      go_wp2
      go_ret
      exact ⟨rfl, HB.out⟩
theorem str_geq (a b : List UInt8) : Op.stringOp .geq (bs a) (bs b) = pure (.bool !(blt a b)) := by simp [Op.stringOp, bs_list]
theorem str_leq (a b : List UInt8) : Op.stringOp .leq (bs a) (bs b) = pure (.bool !(blt b a)) := sp_leq a b 0
theorem run_max_sp {P : Program} (w : World) (ts : Array TypeId) (t : TypeId) (a b : List UInt8) : (Builtin.max_ ts t #[.string (bs a), .string (bs b)]).run P w = .ok (.string (bs (maxS a b))) w := by
  have h := str_geq a b
  unfold maxS
  cases q : blt a b <;> rw [q] at h <;> simp [Builtin.max_, Builtin.max2, h, asBool]
theorem run_min_sp {P : Program} (w : World) (ts : Array TypeId) (t : TypeId) (a b : List UInt8) : (Builtin.min_ ts t #[.string (bs a), .string (bs b)]).run P w = .ok (.string (bs (minS a b))) w := by
  have h := str_leq a b
  unfold minS
  rcases blt_tri a b with g | g | g
  · have g2 := blt_asymm g
    rw [g2] at h
    simp [Builtin.min_, Builtin.min2, h, asBool, show blt a b = true from g]
  · subst g
    rw [blt_self] at h
    simp [Builtin.min_, Builtin.min2, h, asBool]
  · have g2 := blt_asymm g
    rw [g] at h
    simp [Builtin.min_, Builtin.min2, h, asBool, show blt a b = false from g2]
set_option maxRecDepth 100000 in
set_option maxHeartbeats 2000000 in
theorem refMeetsI_any (a b : Sp) (w : World) : Calls Try.prog 44 #[spVal a, spVal b] w fun r w' => r = .returned (.bool (meetsS a b)) ∧ Below w.heap.size w w' := by
  obtain ⟨w0, hw0⟩ : ∃ y, (w.alloc (.cells #[.string (bs a.lo), .string (bs a.hi)] 58)).alloc (.cells #[.string (bs b.lo), .string (bs b.hi)] 58) = y := ⟨_, rfl⟩
  have hb0 : Below w.heap.size w w0 := by rw [← hw0]; exact ((Below.refl _ w).alloc (Nat.le_refl _) _).alloc (by simp) _
  have ha : w0.heap[w.heap.size]? = some (.cells #[.string (bs a.lo), .string (bs a.hi)] 58 (0, 0)) := by rw [← hw0]; exact heap_allocs (heap_alloc_new w _) _
  have hb : w0.heap[w.heap.size + 1]? = some (.cells #[.string (bs b.lo), .string (bs b.hi)] 58 (0, 0)) := by rw [← hw0]; exact heap_new2 w _ _
  have HM := run_max_sp (P := Try.prog) w0 #[9, 9] 9 a.lo b.lo
  unfold meetsS
  generalize maxS a.lo b.lo = m at *
  have H1 := Lib.hid (refHasI_any a m)
  have H2 := Lib.hid (refHasI_any b m)
  obtain ⟨alo, ahi⟩ := a
  obtain ⟨blo', bhi⟩ := b
  simp only at ha hb HM hw0
  have KB : Hid (∀ w', Below w0.heap.size w0 w' → w'.cell? ⟨w.heap.size + 1, 0, none⟩ = some (.string (bs blo')) ∧ w'.cell? ⟨w.heap.size + 1, 1, none⟩ = some (.string (bs bhi))) := Lib.hid fun w' h => by
    have := heap_below hb h (lt_of_heap hb)
    exact ⟨cell_of_row _ _ 0 _ _ _ this, cell_of_row _ _ 1 _ _ _ this⟩
  have a0 := cell_of_row _ _ 0 _ _ _ ha
  have a1 := cell_of_row _ _ 1 _ _ _ ha
  have b0 := cell_of_row _ _ 0 _ _ _ hb
  have HB := Lib.hid hb0
  have HW := Lib.hid hw0
  clear ha hb hb0 hw0
  unfold spVal
  simp only
  generalize hasS ⟨alo, ahi⟩ m = x at *
  generalize hasS ⟨blo', bhi⟩ m = y at *
  go_enter Try.func44, Try.ntmps44
  go_upto_region 1 with fail
  rw [HW.out]
  clear HW
  cases x with
  | true =>
    go_wp2_with fail
    refine (H1.out w0).mono ?_
    rintro r w1 ⟨rfl, hb1⟩
    obtain ⟨b0, b1⟩ := KB.out w1 hb1
    have HB1 := Lib.hid (HB.out.trans (hb1.mono HB.out.size))
    clear hb1
    go_wp2_with fail
    refine (H2.out w1).mono ?_
    rintro r w2 ⟨rfl, hb2⟩
    have HB2 := Lib.hid (HB1.out.trans (hb2.mono HB1.out.size))
    clear hb2
    go_wp2_with fail
    go_ret
    exact ⟨rfl, HB2.out⟩
  | false =>
    go_wp2_with fail
    refine (H1.out w0).mono ?_
    rintro r w1 ⟨rfl, hb1⟩
    have HB1 := Lib.hid (HB.out.trans (hb1.mono HB.out.size))
    clear hb1
    go_wp2_with fail
    go_ret
    exact ⟨rfl, HB1.out⟩
end Go.Proofs.Ytjkmodfbbiojmaa

/-
  Stretches, the document's own answers: touches, cover, In, Meet, Same, Normal.
-/
namespace Go.Proofs.Ytjkmodfbbiojmaa
open Go.RowKit

set_option maxRecDepth 100000 in
set_option maxHeartbeats 2000000 in
theorem refTouchI_any (a b : Sp) (w : World) : Calls Try.prog 64 #[spVal a, spVal b] w fun r w' => r = .returned (.bool (touchS a b)) ∧ Below w.heap.size w w' := by
  obtain ⟨alo, ahi⟩ := a
  obtain ⟨blo', bhi⟩ := b
  have HB := Lib.hid (((Below.refl w.heap.size w).alloc (Nat.le_refl _) (.cells #[.string (bs alo), .string (bs ahi)] 58)).alloc (by simp) (.cells #[.string (bs blo'), .string (bs bhi)] 58))
  have h0 := sp_leq blo' ahi
  have h1 := sp_leq alo bhi
  unfold touchS blo spVal
  simp only
  cases hq : ahi.isEmpty with
  | true =>
    obtain ⟨q1, q2⟩ := nil_q hq
    clear hq h0
    rw [Bool.true_or, Bool.true_and]
    cases hp : bhi.isEmpty with
    | true =>
      obtain ⟨p1, p2⟩ := nil_q hp
      clear hp h1
      rw [Bool.true_or]
      go_enter Try.func64, Try.ntmps64
      go_wp2
      go_ret
      exact ⟨rfl, HB.out⟩
    | false =>
      obtain ⟨p1, p2⟩ := nil_n hp
      clear hp
      rw [Bool.false_or]
      generalize blt bhi alo = x at *
      go_enter Try.func64, Try.ntmps64
      go_wp2
      go_ret
      exact ⟨rfl, HB.out⟩
  | false =>
    obtain ⟨q1, q2⟩ := nil_n hq
    clear hq
    rw [Bool.false_or]
    cases hx : blt ahi blo' with
    | true =>
      rw [hx] at h0
      clear hx h1
      rw [Bool.not_true, Bool.false_and]
      go_enter Try.func64, Try.ntmps64
      go_wp2
      go_ret
      exact ⟨rfl, HB.out⟩
    | false =>
      rw [hx] at h0
      clear hx
      rw [Bool.not_false, Bool.true_and]
      cases hp : bhi.isEmpty with
      | true =>
        obtain ⟨p1, p2⟩ := nil_q hp
        clear hp h1
        rw [Bool.true_or]
        go_enter Try.func64, Try.ntmps64
        go_wp2
        go_ret
        exact ⟨rfl, HB.out⟩
      | false =>
        obtain ⟨p1, p2⟩ := nil_n hp
        clear hp
        rw [Bool.false_or]
        generalize blt bhi alo = x at *
        go_enter Try.func64, Try.ntmps64
        go_wp2
        go_ret
        exact ⟨rfl, HB.out⟩

set_option maxRecDepth 100000 in
set_option maxHeartbeats 4000000 in
theorem refCoverI_any (a b : Sp) (w : World) : Calls Try.prog 48 #[spVal a, spVal b] w fun r w' => r = .returned (spVal (coverS a b)) ∧ Below w.heap.size w w' := by
  obtain ⟨alo, ahi⟩ := a
  obtain ⟨blo', bhi⟩ := b
  have HM := fun w => run_min_sp (P := Try.prog) w #[9, 9] 9 alo blo'
  have HX := fun w => run_max_sp (P := Try.prog) w #[9, 9] 9 ahi bhi
  unfold coverS spVal
  simp only
  generalize minS alo blo' = m at *
  generalize maxS ahi bhi = x at *
  have HB := Lib.hid (fun o1 o2 o3 o4 : Obj => ((((Below.refl w.heap.size w).alloc (Nat.le_refl _) o1).alloc (by simp) o2).alloc (by simp; omega) o3).alloc (by simp; omega) o4)
  cases hq : ahi.isEmpty with
  | true =>
    obtain ⟨q1, q2⟩ := nil_q hq
    rw [if_pos (.inl (List.isEmpty_iff.1 hq))]
    clear hq
    go_enter Try.func48, Try.ntmps48
    go_wp2
    refine bodyPost_ret (v := .agg #[.string (bs m), .string ⟨#[]⟩]) (by simp [results, Try.results48, go_sem]) rfl ⟨rfl, HB.out _ _ _ _⟩
  | false =>
    obtain ⟨q1, q2⟩ := nil_n hq
    cases hp : bhi.isEmpty with
    | true =>
      obtain ⟨p1, p2⟩ := nil_q hp
      rw [if_pos (.inr (List.isEmpty_iff.1 hp))]
      clear hq hp
      go_enter Try.func48, Try.ntmps48
      go_wp2
      refine bodyPost_ret (v := .agg #[.string (bs m), .string ⟨#[]⟩]) (by simp [results, Try.results48, go_sem]) rfl ⟨rfl, HB.out _ _ _ _⟩
    | false =>
      obtain ⟨p1, p2⟩ := nil_n hp
      rw [if_neg (by rintro (e | e); exact List.isEmpty_eq_false_iff.1 hq e; exact List.isEmpty_eq_false_iff.1 hp e)]
      clear hq hp
      go_enter Try.func48, Try.ntmps48
      go_wp2
      refine bodyPost_ret (v := .agg #[.string (bs m), .string (bs x)]) (by simp [results, Try.results48, go_sem]) rfl ⟨rfl, HB.out _ _ _ _⟩

end Go.Proofs.Ytjkmodfbbiojmaa

/-
  A region that draws its order, walked once in the order of its text over a class of worlds.
-/
namespace Go.Proofs.Ytjkmodfbbiojmaa
open Go.RowKit

theorem wp_region_classJ {P : Program} {C : World → Prop} {id : Nat} {Q : Exit → Act → World → Prop} {a : Act} {w : World} {l : List Oper} (hm : P.follows .mixedOrders = true) (hB : Region.lexB .any l.toArray = true) (hC : C w.drew)
    (h : wpQuiet P l.toArray C (fun a' => ∀ w', C w' → Q .normal a' w') l a) : (Code.region id l.toArray true).wp P Q a w :=
  wp_region_quiet (C := C) hm hB hC (by simpa using h)
end Go.Proofs.Ytjkmodfbbiojmaa
