import Derived.Test.YtfdiidhilonkoaaZC19
import Derived.Laws.Cover1
import Derived.Deep.DeepCutAuto
import Derived.Deep.RegionHeld3
import Derived.Test.YtfdiidhilonkoaaZC10
import Derived.Lib.MinMax
set_option linter.unusedVariables false
/-
  Stretches, the document's own answers: Point, Right, Has, touches.
-/
namespace Go.Proofs.Ytfdiidhilonkoaa
open Go.RowKit

theorem nil_q {h : List UInt8} (e : h.isEmpty = true) : ((bs h).toList == []) = true ∧ (bs h).toList = [] := by
  rw [List.isEmpty_iff] at e
  subst e
  rw [bs_list]
  exact ⟨rfl, rfl⟩
theorem nil_n {h : List UInt8} (e : h.isEmpty = false) : ((bs h).toList == []) = false ∧ ¬ (bs h).toList = [] := by
  rw [List.isEmpty_eq_false_iff] at e
  rw [bs_list]
  exact ⟨beq_eq_false_iff_ne.2 e, e⟩
set_option maxRecDepth 100000 in
set_option maxHeartbeats 2000000 in
theorem refHasI_any (s : Sp) (k : List UInt8) (w : World) : Calls Try.prog 42 #[spVal s, .string (bs k)] w fun r w' => r = .returned (.bool (hasS s k)) ∧ Below w.heap.size w w' := by
  obtain ⟨lo, hi⟩ := s
  have HB := Lib.hid ((Below.refl w.heap.size w).alloc (Nat.le_refl _) (.cells #[.string (bs lo), .string (bs hi)] 52))
  have h0 := sp_geq k lo
  have h1 := sp_less k hi
  unfold hasS endS blo spVal
  simp only
  cases hl : blt k lo with
  | true =>
    rw [hl] at h0
    clear hl h1
    rw [Bool.not_true, Bool.false_and]
    go_enter Try.func42, Try.ntmps42
    go_wp2
    go_ret
    exact ⟨rfl, HB.out⟩
  | false =>
    rw [hl] at h0
    clear hl
    rw [Bool.not_false, Bool.true_and]
    cases hq : hi.isEmpty with
    | true =>
      obtain ⟨q1, q2⟩ := nil_q hq
      clear hq h1
      rw [Bool.true_or]
      go_enter Try.func42, Try.ntmps42
      go_wp2
      go_ret
      exact ⟨rfl, HB.out⟩
    | false =>
      obtain ⟨q1, q2⟩ := nil_n hq
      clear hq
      rw [Bool.false_or]
      generalize blt k hi = x at *
      go_enter Try.func42, Try.ntmps42
      go_wp2
      go_ret
      exact ⟨rfl, HB.out⟩
theorem str_geq (a b : List UInt8) : Op.stringOp .geq (bs a) (bs b) = pure (.bool !(blt a b)) := by simp [Op.stringOp, bs_list]
theorem str_leq (a b : List UInt8) : Op.stringOp .leq (bs a) (bs b) = pure (.bool !(blt b a)) := sp_leq a b 0
theorem run_max_sp {P : Program} (w : World) (ts : Array TypeId) (t : TypeId) (a b : List UInt8) : (Builtin.max_ ts t #[.string (bs a), .string (bs b)]).run P w = .ok (.string (bs (maxS a b))) w := by
  have h := str_geq a b
  unfold maxS
  cases q : blt a b <;> rw [q] at h <;> simp [Builtin.max_, Builtin.max2, h, asBool]
theorem run_min_sp {P : Program} (w : World) (ts : Array TypeId) (t : TypeId) (a b : List UInt8) : (Builtin.min_ ts t #[.string (bs a), .string (bs b)]).run P w = .ok (.string (bs (minS a b))) w := by
  have h := str_leq a b
  unfold minS
  rcases blt_tri a b with g | g | g
  · have g2 := blt_asymm g
    rw [g2] at h
    simp [Builtin.min_, Builtin.min2, h, asBool, show blt a b = true from g]
  · subst g
    rw [blt_self] at h
    simp [Builtin.min_, Builtin.min2, h, asBool]
  · have g2 := blt_asymm g
    rw [g] at h
    simp [Builtin.min_, Builtin.min2, h, asBool, show blt a b = false from g2]
set_option maxRecDepth 100000 in
set_option maxHeartbeats 2000000 in
theorem refMeetsI_any (a b : Sp) (w : World) : Calls Try.prog 29 #[spVal a, spVal b] w fun r w' => r = .returned (.bool (meetsS a b)) ∧ Below w.heap.size w w' := by
  obtain ⟨w0, hw0⟩ : ∃ y, (w.alloc (.cells #[.string (bs a.lo), .string (bs a.hi)] 52)).alloc (.cells #[.string (bs b.lo), .string (bs b.hi)] 52) = y := ⟨_, rfl⟩
  have hb0 : Below w.heap.size w w0 := by rw [← hw0]; exact ((Below.refl _ w).alloc (Nat.le_refl _) _).alloc (by simp) _
  have ha : w0.heap[w.heap.size]? = some (.cells #[.string (bs a.lo), .string (bs a.hi)] 52 (0, 0)) := by rw [← hw0]; exact heap_allocs (heap_alloc_new w _) _
  have hb : w0.heap[w.heap.size + 1]? = some (.cells #[.string (bs b.lo), .string (bs b.hi)] 52 (0, 0)) := by rw [← hw0]; exact heap_new2 w _ _
  have HM := run_max_sp (P := Try.prog) w0 #[9, 9] 9 a.lo b.lo
  unfold meetsS
  generalize maxS a.lo b.lo = m at *
  have H1 := Lib.hid (refHasI_any a m)
  have H2 := Lib.hid (refHasI_any b m)
  obtain ⟨alo, ahi⟩ := a
  obtain ⟨blo', bhi⟩ := b
  simp only at ha hb HM hw0
  have KB : Hid (∀ w', Below w0.heap.size w0 w' → w'.cell? ⟨w.heap.size + 1, 0, none⟩ = some (.string (bs blo')) ∧ w'.cell? ⟨w.heap.size + 1, 1, none⟩ = some (.string (bs bhi))) := Lib.hid fun w' h => by
    have := heap_below hb h (lt_of_heap hb)
    exact ⟨cell_of_row _ _ 0 _ _ _ this, cell_of_row _ _ 1 _ _ _ this⟩
  have a0 := cell_of_row _ _ 0 _ _ _ ha
  have a1 := cell_of_row _ _ 1 _ _ _ ha
  have b0 := cell_of_row _ _ 0 _ _ _ hb
  have HB := Lib.hid hb0
  have HW := Lib.hid hw0
  clear ha hb hb0 hw0
  unfold spVal
  simp only
  generalize hasS ⟨alo, ahi⟩ m = x at *
  generalize hasS ⟨blo', bhi⟩ m = y at *
  go_enter Try.func29, Try.ntmps29
  go_upto_region 1 with fail
  rw [HW.out]
  clear HW
  cases x with
  | true =>
    go_wp2_with fail
    refine (H1.out w0).mono ?_
    rintro r w1 ⟨rfl, hb1⟩
    obtain ⟨b0, b1⟩ := KB.out w1 hb1
    have HB1 := Lib.hid (HB.out.trans (hb1.mono HB.out.size))
    clear hb1
    go_wp2_with fail
    refine (H2.out w1).mono ?_
    rintro r w2 ⟨rfl, hb2⟩
    have HB2 := Lib.hid (HB1.out.trans (hb2.mono HB1.out.size))
    clear hb2
    go_wp2_with fail
    go_ret
    exact ⟨rfl, HB2.out⟩
  | false =>
    go_wp2_with fail
    refine (H1.out w0).mono ?_
    rintro r w1 ⟨rfl, hb1⟩
    have HB1 := Lib.hid (HB.out.trans (hb1.mono HB.out.size))
    clear hb1
    go_wp2_with fail
    go_ret
    exact ⟨rfl, HB1.out⟩
end Go.Proofs.Ytfdiidhilonkoaa

/-
  Stretches, the document's own answers: touches, cover, In, Meet, Same, Normal.
-/
namespace Go.Proofs.Ytfdiidhilonkoaa
open Go.RowKit

end Go.Proofs.Ytfdiidhilonkoaa

/-
  Stretches, the document's own answers: Meet, Same, Normal.
-/
namespace Go.Proofs.Ytfdiidhilonkoaa
open Go.RowKit

theorem eq_sp (a b c d : List UInt8) (w : World) : (Op.equalIn 10000 52 (.agg #[.string (bs a), .string (bs b)]) (.agg #[.string (bs c), .string (bs d)])).run Try.prog w = .ok (decide ((⟨a, b⟩ : Sp) = ⟨c, d⟩)) w := by
  simp [go_sem, Try.underlying52, Try.underlying9, bs_list]
  by_cases h1 : a = c
  · by_cases h2 : b = d
    · simp [h1, h2]
    · simp [h1, h2]
  · simp [h1]
set_option maxRecDepth 100000 in
set_option maxHeartbeats 4000000 in
theorem refMeetI_any (a b : List Sp) (A B : Option Addr) (c d : Nat) (w : World) (hal : a.length ≤ 4294967296) (hbl : b.length ≤ 4294967296) (hra : RowG spCells w 0 w.heap.size A a) (hrb : RowG spCells w 0 w.heap.size B b) :
    Calls Try.prog 21 #[.slice A a.length c, .slice B b.length d] w fun r w' => r = .returned (.bool (meetB a b)) ∧ Below w.heap.size w w' := by
  have HRA := Lib.hid hra
  have HRB := Lib.hid hrb
  clear hra hrb
  go_enter Try.func21, Try.ntmps21
  go_wp2
  go_loopg [11] a.length (fun q i wr => ∃ j : Nat, j + q = a.length ∧ i = .int .i64 j ∧ meetB (a.take j) b = false ∧ Below w.heap.size w wr)
  case atStart => exact ⟨0, by omega, rfl, rfl, Below.refl _ _⟩
  case round =>
    obtain ⟨j, hk, rfl, hall, hb⟩ := hrel
    obtain ⟨wo, hwo⟩ : ∃ y, y = wr := ⟨_, rfl⟩
    subst hwo
    obtain ⟨g0, hg0⟩ : ∃ y, y = gk := ⟨_, rfl⟩
    subst hg0
    have HK := Lib.hid hk
    have HA := Lib.hid hall
    have HB := Lib.hid hb
    clear hall hb hk
    by_cases hj : j < a.length
    · have hlt : decide ((j : Int) < (a.length : Int)) = true := by simpa using hj
      have hlt3 : decide (j < a.length) = true := by simpa using hj
      obtain ⟨bb, o, rfl, _, hbl0, hc⟩ := (HRA.out.below HB.out (Nat.le_refl _)).at_ spF hj
      have c0 := hc 0 _ rfl
      have c1 := hc 1 _ rfl
      simp only [Nat.add_zero] at c0
      have HT := Lib.hid (show meetB (a.take (j + 1)) b = (meetB (a.take j) b || b.any fun y => meetsS a[j] y) by unfold meetB; rw [List.take_succ_eq_append_getElem hj, List.any_append]; simp)
      have HY := Lib.hid (fun (y : Sp) (hy : y ∈ b) (h : meetsS a[j] y = true) => meet_true (List.getElem_mem hj) hy h)
      clear hc hbl0
      generalize a[j] = x at *
      obtain ⟨xl, xh⟩ := x
      simp only at c0 c1
      obtain ⟨wt, hwt⟩ : ∃ y, wo.alloc (.cells #[.string (bs xl), .string (bs xh)] 52) = y := ⟨_, rfl⟩
      have hbt : Below w.heap.size w wt := by rw [← hwt]; exact HB.out.alloc HB.out.size _
      have hnt : wt.heap[wo.heap.size]? = some (.cells #[.string (bs xl), .string (bs xh)] 52 (0, 0)) := by rw [← hwt]; exact heap_alloc_new wo _
      have HBt := Lib.hid hbt
      have HNt := Lib.hid hnt
      have HWt := Lib.hid hwt
      clear hbt hnt hwt
      go_upto_region 5 with fail
      rw [HWt.out]
      clear HWt
      go_loopg [17] b.length (fun q i wr => ∃ n : Nat, n + q = b.length ∧ i = .int .i64 n ∧ ((b.take n).any fun y => meetsS ⟨xl, xh⟩ y) = false ∧ Below wt.heap.size wt wr)
      case atStart => exact ⟨0, by omega, rfl, rfl, Below.refl _ _⟩
      case round =>
        obtain ⟨n, hk, rfl, hall, hb⟩ := hrel
        have HK2 := Lib.hid hk
        have HA2 := Lib.hid hall
        have HB2 := Lib.hid hb
        clear hall hb hk
        by_cases hn : n < b.length
        · have hlt4 : decide ((n : Int) < (b.length : Int)) = true := by simpa using hn
          have hlt5 : decide (n < b.length) = true := by simpa using hn
          obtain ⟨bc, oc, rfl, _, hbl1, hc⟩ := (HRB.out.below (HBt.out.trans (HB2.out.mono HBt.out.size)) (Nat.le_refl _)).at_ spF hn
          have d0 := hc 0 _ rfl
          have d1 := hc 1 _ rfl
          simp only [Nat.add_zero] at d0
          have HT2 := Lib.hid (show ((b.take (n + 1)).any fun y => meetsS ⟨xl, xh⟩ y) = (((b.take n).any fun y => meetsS ⟨xl, xh⟩ y) || meetsS ⟨xl, xh⟩ b[n]) by rw [List.take_succ_eq_append_getElem hn, List.any_append]; simp)
          have HY2 := Lib.hid (HY.out b[n] (List.getElem_mem hn))
          clear hc hbl1
          generalize b[n] = y at *
          obtain ⟨yl, yh⟩ := y
          simp only at d0 d1
          have hx9 := heap_allocs (heap_below HNt.out HB2.out (lt_of_heap HNt.out)) (.cells #[.string (bs yl), .string (bs yh)] 52)
          have x0 := cell_of_row _ _ 0 _ _ _ hx9
          have x1 := cell_of_row _ _ 1 _ _ _ hx9
          have HBN := Lib.hid (HB2.out.alloc HB2.out.size (.cells #[.string (bs yl), .string (bs yh)] 52))
          have HC := Lib.hid (refMeetsI_any ⟨xl, xh⟩ ⟨yl, yh⟩)
          unfold spVal at HC
          simp only at HC
          clear hx9
          cases hq : meetsS ⟨xl, xh⟩ ⟨yl, yh⟩ with
          | true =>
            rw [hq] at HC
            have HF := Lib.hid (HY2.out hq)
            clear hq HY HT HT2 HY2
            go_wp2_with fail
            refine (HC.out _).mono ?_
            rintro r w1 ⟨rfl, hb1⟩
            have HB1 := Lib.hid (HBt.out.trans ((HBN.out.trans (hb1.mono HBN.out.size)).mono HBt.out.size))
            clear hb1
            go_wp2_with fail
            go_ret
            rw [HF.out]
            exact ⟨rfl, HB1.out⟩
          | false =>
            rw [hq] at HC
            have HF := Lib.hid (HT2.out.trans (by rw [HA2.out, hq, Bool.or_self]))
            clear hq HY HT HT2 HY2
            go_wp2_with fail
            refine (HC.out _).mono ?_
            rintro r w1 ⟨rfl, hb1⟩
            have HB1 := Lib.hid (HBN.out.trans (hb1.mono HBN.out.size))
            clear hb1
            go_wp2_with fail
            go_roundg (gk - 1)
            case measure => have := HK2.out; omega
            case rel => exact ⟨n + 1, by have := HK2.out; omega, by go_num, HF.out, HB1.out⟩
        · have hn' : n = b.length := by have := HK2.out; omega
          have hlt4 : decide ((n : Int) < (b.length : Int)) = false := by simpa using hn
          have hlt5 : decide (n < b.length) = false := by simpa using hn
          have HF := Lib.hid (show meetB (a.take (j + 1)) b = false by
            have h := HA2.out
            rw [hn', List.take_length] at h
            rw [HT.out, HA.out, h, Bool.or_self])
          have HB1 := Lib.hid (HBt.out.trans (HB2.out.mono HBt.out.size))
          clear hn' HT HY
          go_wp2
          go_roundg (g0 - 1)
          case measure => have := HK.out; omega
          case rel => exact ⟨j + 1, by have := HK.out; omega, by go_num, HF.out, HB1.out⟩
    · have hj' : j = a.length := by have := HK.out; omega
      have hlt : decide ((j : Int) < (a.length : Int)) = false := by simpa using hj
      have hlt2 : decide (j < a.length) = false := by simpa using hj
      have hF := HA.out
      rw [hj', List.take_length] at hF
      have HF := Lib.hid hF
      clear hF hj hj'
      go_wp2
      go_ret
      rw [HF.out]
      exact ⟨rfl, HB.out⟩

end Go.Proofs.Ytfdiidhilonkoaa

/-
  Stretches, the document's own answers: put.
-/
namespace Go.Proofs.Ytfdiidhilonkoaa
open Go.RowKit

theorem filter_yesI {α : Type} {f : α → Bool} {l : List α} {j : Nat} (hj : j < l.length) (h : f l[j] = true) : (l.take (j + 1)).filter f = (l.take j).filter f ++ [l[j]] := by
  rw [List.take_succ_eq_append_getElem hj, List.filter_append, List.filter_cons_of_pos h, List.filter_nil]
theorem filter_noI {α : Type} {f : α → Bool} {l : List α} {j : Nat} (hj : j < l.length) (h : f l[j] = false) : (l.take (j + 1)).filter f = (l.take j).filter f := by
  rw [List.take_succ_eq_append_getElem hj, List.filter_append, List.filter_cons_of_neg (by rw [h]; exact Bool.false_ne_true), List.filter_nil, List.append_nil]
theorem filter_lenI {α : Type} (f : α → Bool) (l : List α) (j : Nat) : ((l.take j).filter f).length ≤ l.length := Nat.le_trans (List.length_filter_le _ _) (by rw [List.length_take]; omega)
theorem box2_setI {w : World} {b : Nat} {e : TypeId} {a0 a1 : Value} (h : w.heap[b]? = some (.cells #[a0, a1] e (0, 0))) (v0 v1 : Value) :
    ((w.setCell ⟨b, 0, none⟩ v0).setCell ⟨b, 1, none⟩ v1).heap[b]? = some (.cells #[v0, v1] e (0, 0)) := by
  simp [World.setCell, Array.getElem?_modify, h]
theorem box2_farI {w : World} {b g : Nat} (hg : g ≠ b) (v0 v1 : Value) : ((w.setCell ⟨b, 0, none⟩ v0).setCell ⟨b, 1, none⟩ v1).heap[g]? = w.heap[g]? := by
  have hg' : b ≠ g := fun e => hg e.symm
  simp [World.setCell, Array.getElem?_modify, hg']
theorem lt_of_heap_own {w : World} {e : TypeId} {k lo g : Nat} {α : Type} {cs : α → List Value} {n c : Nat} {l : List α} (h : OwnG e k cs w lo (.slice (some ⟨g, 0, none⟩) n c) l) : g < w.heap.size := (h.lt g rfl).2
theorem grow_next {l : List Sp} {s : Sp} {j : Nat} (hj : j < l.length) : growS (l.take (j + 1)) s = if touchS l[j] (growS (l.take j) s) = true then coverS l[j] (growS (l.take j) s) else growS (l.take j) s := by
  unfold growS
  rw [List.take_succ_eq_append_getElem hj, List.foldl_append]
  rfl

end Go.Proofs.Ytfdiidhilonkoaa

/-
  Stretches, the document's own answers: Join, Add.
-/
namespace Go.Proofs.Ytfdiidhilonkoaa
open Go.RowKit

theorem join_next {l : List Sp} {j : Nat} (hj : j < l.length) : joinSp (l.take (j + 1)) = if rightS l[j] = true then putSp (joinSp (l.take j)) l[j] else joinSp (l.take j) := by
  unfold joinSp
  rw [List.take_succ_eq_append_getElem hj, List.foldl_append]
  rfl
theorem join_take_len (l : List Sp) (j : Nat) : (joinSp (l.take j)).length ≤ l.length := Nat.le_trans (join_len _) (by rw [List.length_take]; omega)
end Go.Proofs.Ytfdiidhilonkoaa

/-
  Stretches, the document's own answers: Fit.
-/
namespace Go.Proofs.Ytfdiidhilonkoaa
open Go.RowKit

theorem OwnG.oneI {α : Type} {cs : α → List Value} {k : Nat} {w : World} {g : Nat} {e : TypeId} {x : α} (hF : Fixed k cs) (h : w.heap[g]? = some (.cells (cs x).toArray e (0, 0))) : OwnG e k cs w g (.slice (some ⟨g, 0, none⟩) 1 1) [x] := by
  refine ⟨by rw [flatG_one, hF.len]; simp, .inr ⟨g, 1, _, rfl, Nat.le_refl _, h, Nat.le_refl _, by simp [maxLen], by simp [hF.len], ?_⟩⟩
  rw [flatG_one]
  exact List.take_of_length_le (by simp [hF.len])
/-- What an int asks for: that many, or one. -/
def fitN (n : Int) : Nat := (max n 1).toNat
def fitI (n : Int) (l : List Sp) : List Sp := fitS (fitN n) l
theorem fitN_cast (n : Int) : max n 1 = (fitN n : Int) := by unfold fitN; omega
theorem fitN_pos (n : Int) : 1 ≤ fitN n := by unfold fitN; omega
theorem fitI_few {n : Int} {l : List Sp} (h : l.length ≤ fitN n) : fitI n l = l := fit_few (by have := fitN_pos n; omega)
theorem fitI_step {n : Int} {a b : Sp} {l : List Sp} (h : fitN n < l.length + 2) : fitI n (a :: b :: l) = fitI n (⟨a.lo, b.hi⟩ :: l) := by
  unfold fitI
  conv => lhs; unfold fitS
  rw [if_pos (by have := fitN_pos n; simp; omega)]
end Go.Proofs.Ytfdiidhilonkoaa

/-
  What package span has to answer, as contracts; lists that are few and short; the chapter's examples.
-/
namespace Go.Proofs.Ytfdiidhilonkoaa
open Go.RowKit

/-- Lists of a length that the contracts speak of. -/
def okI (l : List Sp) : Prop := l.length ≤ 1000
structure SpanC : Prop where
  right : ∀ (s : Sp) (w : World), Calls Try.prog 48 #[spVal s] w fun r w' => r = .returned (.bool (rightS s)) ∧ Below w.heap.size w w'
  meets : ∀ (a b : Sp) (w : World), Calls Try.prog 40 #[spVal a, spVal b] w fun r w' => r = .returned (.bool (meetsS a b)) ∧ Below w.heap.size w w'
  normal : ∀ (l : List Sp) (A : Option Addr) (c : Nat) (w : World), okI l → ChI w w.heap.size A c l → Calls Try.prog 46 #[.slice A l.length c] w fun r w' => r = .returned (.bool (normB l)) ∧ Below w.heap.size w w'
  meet : ∀ (a b : List Sp) (A B : Option Addr) (c d : Nat) (w : World), okI a → okI b → ChI w w.heap.size A c a → ChI w w.heap.size B d b → Calls Try.prog 28 #[.slice A a.length c, .slice B b.length d] w fun r w' => r = .returned (.bool (meetB a b)) ∧ Below w.heap.size w w'

/-! ### few -/
def shortI (s : Sp) : Bool := decide (s.lo.length ≤ 300) && decide (s.hi.length ≤ 300)
def fewI (l : List Sp) : Bool := l.all shortI && decide (l.length ≤ 40)
theorem fewI_yes {l : List Sp} (h : fewI l = true) : (∀ s ∈ l, s.lo.length ≤ 300 ∧ s.hi.length ≤ 300) ∧ l.length ≤ 40 := by
  unfold fewI at h
  rw [Bool.and_eq_true, List.all_eq_true, decide_eq_true_iff] at h
  refine ⟨fun s hs => ?_, h.2⟩
  have := h.1 s hs
  unfold shortI at this
  rwa [Bool.and_eq_true, decide_eq_true_iff, decide_eq_true_iff] at this
theorem fewI_ok {l : List Sp} (h : fewI l = true) : okI l := by
  have := (fewI_yes h).2
  unfold okI
  omega
set_option maxRecDepth 100000 in
set_option maxHeartbeats 4000000 in
theorem fewI_any (l : List Sp) (A : Option Addr) (c : Nat) (w : World) (hl : l.length ≤ 9223372036854775807) (hr : RowG spCells w 0 w.heap.size A l) :
    Calls Try.prog 18 #[.slice A l.length c] w fun r w' => r = .returned (.bool (fewI l)) ∧ Below w.heap.size w w' := by
  have HR := Lib.hid hr
  clear hr
  go_enter Try.func18, Try.ntmps18
  go_wp2
  go_loopg [7] l.length (fun q i wr => ∃ j : Nat, j + q = l.length ∧ i = .int .i64 j ∧ (l.take j).all shortI = true ∧ Below w.heap.size w wr)
  case atStart => exact ⟨0, by omega, rfl, rfl, Below.refl _ _⟩
  case round =>
    obtain ⟨j, hk, rfl, hall, hb⟩ := hrel
    have HK := Lib.hid hk
    have HA := Lib.hid hall
    have HB := Lib.hid hb
    clear hall hb hk
    by_cases hj : j < l.length
    · have hlt : decide ((j : Int) < (l.length : Int)) = true := by simpa using hj
      have hlt3 : decide (j < l.length) = true := by simpa using hj
      obtain ⟨b, o, rfl, _, hbl, hc⟩ := (HR.out.below HB.out (Nat.le_refl _)).at_ spF hj
      have c0 := hc 0 _ rfl
      have c1 := hc 1 _ rfl
      simp only [Nat.add_zero] at c0
      have HT := Lib.hid (show (l.take (j + 1)).all shortI = ((l.take j).all shortI && shortI l[j]) by rw [List.take_succ_eq_append_getElem hj, List.all_append]; simp)
      have HNo := Lib.hid (fun h : shortI l[j] = false => (show fewI l = false by
        cases hf : fewI l
        · rfl
        · unfold fewI at hf
          rw [Bool.and_eq_true, List.all_eq_true] at hf
          rw [hf.1 _ (List.getElem_mem hj)] at h
          cases h))
      clear hc hbl
      generalize l[j] = x at *
      obtain ⟨xl, xh⟩ := x
      simp only at c0 c1
      have HBN := Lib.hid (HB.out.alloc HB.out.size (.cells #[.string (bs xl), .string (bs xh)] 52))
      have z1 : ((bs xl).size : Int) = (xl.length : Int) := by rw [bs_size]
      have z2 : ((bs xh).size : Int) = (xh.length : Int) := by rw [bs_size]
      by_cases h1 : xl.length ≤ 300
      · have d1 : decide ((300 : Int) < (xl.length : Int)) = false := by rw [decide_eq_false_iff_not]; omega
        have d1' : decide (300 < xl.length) = false := by rw [decide_eq_false_iff_not]; omega
        by_cases h2 : xh.length ≤ 300
        · have d2 : decide ((300 : Int) < (xh.length : Int)) = false := by rw [decide_eq_false_iff_not]; omega
          have d2' : decide (300 < xh.length) = false := by rw [decide_eq_false_iff_not]; omega
          have HF := Lib.hid (show (l.take (j + 1)).all shortI = true by rw [HT.out, HA.out]; simp [shortI, h1, h2])
          clear h1 h2 HT HNo
          go_wp2_with fail
          go_roundg (gk - 1)
          case measure => have := HK.out; omega
          case rel => exact ⟨j + 1, by have := HK.out; omega, by go_num, HF.out, HBN.out⟩
        · have d2 : decide ((300 : Int) < (xh.length : Int)) = true := by rw [decide_eq_true_iff]; omega
          have d2' : decide (300 < xh.length) = true := by rw [decide_eq_true_iff]; omega
          have HF := Lib.hid (HNo.out (by simp [shortI, h2]))
          clear h1 h2 HT HNo
          go_wp2_with fail
          go_ret
          rw [HF.out]
          exact ⟨rfl, HBN.out⟩
      · have d1 : decide ((300 : Int) < (xl.length : Int)) = true := by rw [decide_eq_true_iff]; omega
        have d1' : decide (300 < xl.length) = true := by rw [decide_eq_true_iff]; omega
        have HF := Lib.hid (HNo.out (by simp [shortI, h1]))
        clear h1 HT HNo
        go_wp2_with fail
        go_ret
        rw [HF.out]
        exact ⟨rfl, HBN.out⟩
    · have hj' : j = l.length := by have := HK.out; omega
      subst hj'
      have hlt : decide ((l.length : Int) < (l.length : Int)) = false := by simp
      have hlt2 : decide (l.length < l.length) = false := by simp
      have hF := HA.out
      rw [List.take_length] at hF
      by_cases h4 : l.length ≤ 40
      · have d1 : decide ((l.length : Int) ≤ 40) = true := by rw [decide_eq_true_iff]; omega
        have d1' : decide (l.length ≤ 40) = true := by rw [decide_eq_true_iff]; omega
        have HF := Lib.hid (show fewI l = true by unfold fewI; rw [hF, d1']; rfl)
        clear hF hj h4
        go_wp2_with fail
        go_ret
        rw [HF.out]
        exact ⟨rfl, HB.out⟩
      · have d1 : decide ((l.length : Int) ≤ 40) = false := by rw [decide_eq_false_iff_not]; omega
        have d1' : decide (l.length ≤ 40) = false := by rw [decide_eq_false_iff_not]; omega
        have HF := Lib.hid (show fewI l = false by unfold fewI; rw [hF, d1']; rfl)
        clear hF hj h4
        go_wp2_with fail
        go_ret
        rw [HF.out]
        exact ⟨rfl, HB.out⟩
end Go.Proofs.Ytfdiidhilonkoaa
