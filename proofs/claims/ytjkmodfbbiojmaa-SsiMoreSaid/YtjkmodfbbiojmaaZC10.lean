import Derived.Test.YtjkmodfbbiojmaaZC09
import Derived.Lib.MinMax
/-
  Stretches, the document's own answers: Join, Add.
-/
namespace Go.Proofs.Ytjkmodfbbiojmaa
open Go.RowKit

theorem join_next {l : List Sp} {j : Nat} (hj : j < l.length) : joinSp (l.take (j + 1)) = if rightS l[j] = true then putSp (joinSp (l.take j)) l[j] else joinSp (l.take j) := by
  unfold joinSp
  rw [List.take_succ_eq_append_getElem hj, List.foldl_append]
  rfl
theorem join_take_len (l : List Sp) (j : Nat) : (joinSp (l.take j)).length ≤ l.length := Nat.le_trans (join_len _) (by rw [List.length_take]; omega)
set_option maxRecDepth 100000 in
set_option maxHeartbeats 8000000 in
theorem refJoinI_any (a b : List Sp) (A B : Option Addr) (c d : Nat) (w : World) (hl : a.length + b.length ≤ 2097152) (hca : A = none → c = 0) (hcb : B = none → d = 0) (hra : RowG spCells w 0 w.heap.size A a) (hrb : RowG spCells w 0 w.heap.size B b) :
    Calls Try.prog 31 #[.slice A a.length c, .slice B b.length d] w (RetI (joinSp (a ++ b)) w) := by
  obtain ⟨w0, hw0⟩ : ∃ y, w.alloc (.cells #[] 58) = y := ⟨_, rfl⟩
  have s0 : w0.heap.size = w.heap.size + 1 := by rw [← hw0]; simp
  have b0 : Below w.heap.size w w0 := by rw [← hw0]; exact (Below.refl _ w).alloc (Nat.le_refl _) _
  have HRA := Lib.hid (hra.below (b0.alloc b0.size (.cells #[] 58)) (Nat.le_refl _))
  have HRB := Lib.hid hrb
  have HB0 := Lib.hid b0
  have HW0 := Lib.hid hw0
  have HCA := Lib.hid hca
  have HCB := Lib.hid hcb
  have HL := Lib.hid hl
  have HS0 := Lib.hid s0
  clear hra hrb hw0 s0 b0 hca hcb hl
  go_enter Try.func31, Try.ntmps31
  go_upto_region 2 with fail
  rw [HW0.out]
  clear HW0
  go_wp2_with (first
    | (at_builtin; refine append_row _ rfl _ _ 27 58 32 spF spInfo Try.underlying27 rfl w0.heap.size _ [] rfl (OwnG.made w0 58 2 spCells) 0 _ A a.length c a rfl rfl HCA.out HRA.out (by have := HL.out; simp [maxLen]; omega) (by have := HL.out; simp; omega) (by simp) ?_; intro v1 w5 ho5 hg5; have HO5 := Lib.hid ho5; have HB5 := Lib.hid (OwnG.grown_below (HB0.out.alloc HB0.out.size (.cells #[] 58)) (OwnG.made w0 58 2 spCells) hg5 (by have := HS0.out; omega) (by have := HS0.out; simp; omega)); have HZ5 := Lib.hid (show w0.heap.size ≤ w5.heap.size from Nat.le_trans (by simp) hg5.size); clear ho5 hg5)
    | (at_builtin; refine append_row _ rfl _ _ 27 58 32 spF spInfo Try.underlying27 rfl w0.heap.size _ ([] ++ a) rfl HO5.out 0 _ B b.length d b rfl rfl HCB.out (HRB.out.below HB5.out (Nat.le_refl _)) (by have := HL.out; simp [maxLen]; omega) (by have := HL.out; simp; omega) HZ5.out ?_; intro v2 w6 ho6 hg6; have HO6 := Lib.hid ho6.chI; have HB6 := Lib.hid (OwnG.grown_below HB5.out HO5.out hg6 (by have := HS0.out; omega) (by have := HS0.out; have := HZ5.out; omega)); obtain ⟨A9, c9, rfl, hc9⟩ := HO6.out; have HC9 := Lib.hid hc9; clear hc9; clear ho6 hg6 HO6 HO5 HB5 HZ5 HRA HRB HCA HCB))
  rw [List.nil_append] at HC9
  obtain ⟨L, hL⟩ : ∃ y, a ++ b = y := ⟨_, rfl⟩
  have HE := Lib.hid hL
  have HLL := Lib.hid (show L.length ≤ 2097152 by rw [← hL, List.length_append]; exact HL.out)
  rw [hL] at HC9
  have HLe := Lib.hid (show L.length = a.length + b.length by rw [← hL, List.length_append])
  clear hL
  have HZ := Lib.hid (show w.heap.size ≤ w6.heap.size from HB6.out.size)
  go_loopg [5, 15] L.length (fun q vo i wr => ∃ (j : Nat) (A8 : Option Addr) (c8 : Nat), j + q = L.length ∧ i = .int .i64 j ∧ vo = .slice A8 (joinSp (L.take j)).length c8 ∧ ChI wr wr.heap.size A8 c8 (joinSp (L.take j)) ∧ Below w6.heap.size w6 wr)
  case atStart => exact ⟨0, some ⟨w.heap.size, 0, none⟩, 0, by omega, rfl, rfl, ⟨Nat.le_refl _, Nat.zero_le _, (fun e => by cases e), RowG.nil_⟩, Below.refl _ _⟩
  case round =>
    obtain ⟨j, A8, c8, hk, rfl, rfl, ho, hb⟩ := hrel
    have HK := Lib.hid hk
    have HB := Lib.hid hb
    have HO := Lib.hid ho
    clear hk hb ho
    by_cases hj : j < L.length
    · have hlt : decide ((j : Int) < (a.length : Int) + (b.length : Int)) = true := by have := HLe.out; rw [decide_eq_true_iff]; omega
      have hlt2 : decide (j < a.length + b.length) = true := by have := HLe.out; rw [decide_eq_true_iff]; omega
      have hlt3 : j < a.length + b.length := by have := HLe.out; omega
      have hll := HL.out
      obtain ⟨bb, o, rfl, hbh, c0, c1⟩ := (HC9.out.below HB.out (Nat.le_refl _) (Nat.le_refl _)).at_ hj
      have HN := Lib.hid (join_next hj)
      have HLn := Lib.hid (join_take_len L j)
      clear hbh
      generalize L[j] = x at *
      generalize joinSp (L.take j) = J at *
      obtain ⟨xl, xh⟩ := x
      simp only at c0 c1
      obtain ⟨wt, hwt⟩ : ∃ y, wr.alloc (.cells #[.string (bs xl), .string (bs xh)] 58) = y := ⟨_, rfl⟩
      have hbt : Below wr.heap.size wr wt := by rw [← hwt]; exact (Below.refl _ _).alloc (Nat.le_refl _) _
      have hxt : wt.heap[wr.heap.size]? = some (.cells #[.string (bs xl), .string (bs xh)] 58 (0, 0)) := by rw [← hwt]; exact heap_alloc_new wr _
      have HCl := Lib.hid (fun (W : World) (h : Below wt.heap.size wt W) => And.intro (cell_of_row W wr.heap.size 0 _ _ _ (heap_below hxt h (lt_of_heap hxt))) (cell_of_row W wr.heap.size 1 _ _ _ (heap_below hxt h (lt_of_heap hxt))))
      have HOt := Lib.hid (HO.out.below hbt (Nat.le_refl _) hbt.size)
      have HBt := Lib.hid (HB.out.trans (hbt.mono HB.out.size))
      have HWt := Lib.hid hwt
      have HC1 := Lib.hid (refRightI_any ⟨xl, xh⟩)
      have HC2 := Lib.hid (fun (W : World) (h : Below wt.heap.size wt W) => refPutI_any J A8 c8 W.heap.size ⟨xl, xh⟩ W (by have := HLn.out; have := HLL.out; omega) ((HOt.out.below h (Nat.le_refl _) h.size).2.2.2) (Nat.le_refl _))
      unfold spVal at HC1 HC2
      simp only at HC1 HC2
      clear hxt hwt hbt HO HB
      go_upto_region 5 with fail
      rw [HWt.out]
      clear HWt c0 c1
      obtain ⟨z0, z1⟩ := HCl.out wt (Below.refl _ _)
      cases hq : rightS ⟨xl, xh⟩ with
      | false =>
        rw [hq] at HC1 HN
        rw [if_neg Bool.false_ne_true] at HN
        clear hq HC2
        go_wp2_with fail
        refine (HC1.out wt).mono ?_
        rintro r w2 ⟨rfl, hb2⟩
        have HB2 := Lib.hid hb2
        clear hb2 z0 z1
        go_wp2_with fail
        go_roundg (gk - 1)
        case measure => have := HK.out; omega
        case rel => exact ⟨j + 1, A8, c8, by have := HK.out; omega, by go_num, by rw [HN.out], by rw [HN.out]; exact HOt.out.below HB2.out (Nat.le_refl _) HB2.out.size, HBt.out.trans (HB2.out.mono HBt.out.size)⟩
      | true =>
        rw [hq] at HC1 HN
        rw [if_pos rfl] at HN
        clear hq
        go_wp2_with fail
        refine (HC1.out wt).mono ?_
        rintro r w2 ⟨rfl, hb2⟩
        have HB2 := Lib.hid hb2
        clear z0 z1
        obtain ⟨z0, z1⟩ := HCl.out w2 hb2
        clear hb2
        go_wp2_with fail
        refine (HC2.out w2 HB2.out).mono ?_
        rintro r w3 ⟨A7, c7, rfl, hc7, hb3⟩
        have HB3 := Lib.hid (HB2.out.trans (hb3.mono HB2.out.size))
        have HC7 := Lib.hid hc7
        clear z0 z1 hb3 hc7
        go_wp2_with fail
        go_roundg (gk - 1)
        case measure => have := HK.out; omega
        case rel => exact ⟨j + 1, A7, c7, by have := HK.out; omega, by go_num, by rw [HN.out], by rw [HN.out]; exact HC7.out, HBt.out.trans (HB3.out.mono HBt.out.size)⟩
    · have hj' : j = L.length := by have := HK.out; omega
      have hlt : decide ((j : Int) < (a.length : Int) + (b.length : Int)) = false := by have := HLe.out; rw [decide_eq_false_iff_not]; omega
      have hlt2 : decide (j < a.length + b.length) = false := by have := HLe.out; rw [decide_eq_false_iff_not]; omega
      have ho := HO.out
      rw [hj', List.take_length] at ho
      have HJ := Lib.hid (show joinSp (L.take j) = joinSp (a ++ b) by rw [hj', List.take_length, HE.out])
      have HO9 := Lib.hid ho
      clear hj ho hj' HO
      go_wp2_with fail
      go_ret
      exact ⟨A8, c8, by rw [← HJ.out]; rfl, by rw [HE.out]; exact HO9.out, HB6.out.trans (HB.out.mono HB6.out.size)⟩

end Go.Proofs.Ytjkmodfbbiojmaa

/-
  Stretches, the document's own answers: Fit.
-/
namespace Go.Proofs.Ytjkmodfbbiojmaa
open Go.RowKit

theorem OwnG.oneI {α : Type} {cs : α → List Value} {k : Nat} {w : World} {g : Nat} {e : TypeId} {x : α} (hF : Fixed k cs) (h : w.heap[g]? = some (.cells (cs x).toArray e (0, 0))) : OwnG e k cs w g (.slice (some ⟨g, 0, none⟩) 1 1) [x] := by
  refine ⟨by rw [flatG_one, hF.len]; simp, .inr ⟨g, 1, _, rfl, Nat.le_refl _, h, Nat.le_refl _, by simp [maxLen], by simp [hF.len], ?_⟩⟩
  rw [flatG_one]
  exact List.take_of_length_le (by simp [hF.len])
/-- What an int asks for: that many, or one. -/
def fitN (n : Int) : Nat := (max n 1).toNat
def fitI (n : Int) (l : List Sp) : List Sp := fitS (fitN n) l
theorem fitN_cast (n : Int) : max n 1 = (fitN n : Int) := by unfold fitN; omega
theorem fitN_pos (n : Int) : 1 ≤ fitN n := by unfold fitN; omega
theorem fitI_few {n : Int} {l : List Sp} (h : l.length ≤ fitN n) : fitI n l = l := fit_few (by have := fitN_pos n; omega)
theorem fitI_step {n : Int} {a b : Sp} {l : List Sp} (h : fitN n < l.length + 2) : fitI n (a :: b :: l) = fitI n (⟨a.lo, b.hi⟩ :: l) := by
  unfold fitI
  conv => lhs; unfold fitS
  rw [if_pos (by have := fitN_pos n; simp; omega)]
set_option maxRecDepth 100000 in
set_option maxHeartbeats 8000000 in
theorem refFitI_any (l : List Sp) (A : Option Addr) (c : Nat) (n : Int) (w : World) (hl : l.length ≤ 2097151) (hca : A = none → c = 0) (hra : RowG spCells w 0 w.heap.size A l) :
    Calls Try.prog 30 #[.slice A l.length c, .int .i64 n] w (RetI (fitI n (joinSp l)) w) := by
  have hj := refJoinI_any l [] A none c 0 w (by simp; omega) hca (fun _ => rfl) hra RowG.nil_
  rw [List.append_nil] at hj
  have HJ := Lib.hid hj
  have HN := Lib.hid (join_norm l)
  have HLn := Lib.hid (Nat.le_trans (join_len l) hl)
  have HMx := fitN_cast n
  have HP := Lib.hid (fitN_pos n)
  clear hj hra hca hl
  generalize joinSp l = J at *
  go_enter Try.func30, Try.ntmps30
  go_wp2_with fail
  refine HJ.out.mono ?_
  rintro r w1 ⟨A1, c1, rfl, h1, hb1⟩
  have HC1 := Lib.hid h1
  have HB1 := Lib.hid hb1
  clear h1 hb1 HJ
  go_wp2_with fail
  go_loopg [0, 5] J.length (fun q vl _ wr => ∃ (m : List Sp) (A2 : Option Addr) (c2 : Nat), m.length = q ∧ vl = .slice A2 m.length c2 ∧ normS m ∧ fitI n m = fitI n J ∧ m.length ≤ 2097151 ∧ ChI wr wr.heap.size A2 c2 m ∧ Below w.heap.size w wr)
  case atStart => exact ⟨J, A1, c1, rfl, rfl, HN.out, rfl, HLn.out, HC1.out, HB1.out⟩
  case round =>
    obtain ⟨m, A2, c2, hk, rfl, hn, hf, hml, hc, hb⟩ := hrel
    have HK := Lib.hid hk
    have HNm := Lib.hid hn
    have HF := Lib.hid hf
    have HC := Lib.hid hc
    have HB := Lib.hid hb
    clear hk hn hf hc hb
    by_cases hgt : fitN n < m.length
    · have d1 : decide ((fitN n : Int) < (m.length : Int)) = true := by rw [decide_eq_true_iff]; omega
      have d2 : decide (fitN n < m.length) = true := by rw [decide_eq_true_iff]; omega
      have h2 : 1 < m.length := by have := HP.out; omega
      have h0 : 0 < m.length := by omega
      obtain ⟨bb, o, rfl, hbh, p0, p1⟩ := HC.out.at_ h0
      obtain ⟨b9, o9, e9, _, q0, q1⟩ := HC.out.at_ h2
      obtain ⟨rfl, rfl⟩ : bb = b9 ∧ o = o9 := by simpa using e9
      have hlc := HC.out.1
      have hcm := HC.out.2.1
      obtain ⟨x, y, r, hm⟩ : ∃ x y r, m = x :: y :: r := by
        match m, h2 with
        | x :: y :: r, _ => exact ⟨x, y, r, rfl⟩
      have e0 : m[0] = x := by subst hm; rfl
      have e1 : m[1] = y := by subst hm; rfl
      rw [e0] at p0 p1
      rw [e1] at q0 q1
      simp only [Nat.zero_mul, Nat.add_zero, Nat.one_mul] at p0 p1 q0 q1
      have hrl : r.length + 2 = m.length := by subst hm; rfl
      have HRo := Lib.hid (show RowG spCells wr 0 wr.heap.size (if c2 = 2 then some ⟨bb, o, none⟩ else some ⟨bb, o + 4, none⟩) r from by
        have h := HC.out.2.2.2.drop spF 2 c2 h2 hlc
        rw [hm] at h
        by_cases e : c2 = 2
        · rw [if_pos e]; rw [if_pos e] at h; exact h
        · rw [if_neg e]; rw [if_neg e] at h; exact h)
      have HNp := Lib.hid (pair_norm (a := x) (b := y) (l := r) (by rw [← hm]; exact HNm.out))
      have HCv := Lib.hid (cover_pair (a := x) (b := y) (l := r) (by rw [← hm]; exact HNm.out))
      have HSt := Lib.hid (show fitI n m = fitI n (⟨x.lo, y.hi⟩ :: r) by rw [hm]; exact fitI_step (by omega))
      have HC2 := Lib.hid (refCoverI_any x y)
      rw [HCv.out] at HC2
      have HRl := Lib.hid hrl
      obtain ⟨xl, xh⟩ := x
      obtain ⟨yl, yh⟩ := y
      unfold spVal at HC2
      simp only at HC2 p0 p1 q0 q1 HNp HSt
      have HS0 := Lib.hid (fun (W : World) (h : Below wr.heap.size wr W) => And.intro ((h.cell (p := ⟨bb, o, none⟩) hbh).trans p0) (And.intro ((h.cell (p := ⟨bb, o + 1, none⟩) hbh).trans p1) (And.intro ((h.cell (p := ⟨bb, o + 2, none⟩) hbh).trans q0) (And.intro ((h.cell (p := ⟨bb, o + 2 + 1, none⟩) hbh).trans q1) h))))
      have HCall := Lib.hid (fun (W : World) (h : Below wr.heap.size wr W) => (HC2.out W).mono fun r w' q => (⟨q.1, h.trans (q.2.mono h.size)⟩ : r = .returned (.agg #[.string (bs xl), .string (bs yh)]) ∧ Below wr.heap.size wr w'))
      clear HC2 HNm HCv e9 HC hm e0 e1 hrl hgt
      have hh1 : decide ((1 : Int) < (m.length : Int)) = true := by rw [decide_eq_true_iff]; omega
      have hh2 : (1 : Int) < (m.length : Int) := by omega
      have hh0 : decide ((0 : Int) < (m.length : Int)) = true := by rw [decide_eq_true_iff]; omega
      go_wp2
      go_region_held3 (fun W => W.cell? ⟨bb, o, none⟩ = some (.string (bs xl)) ∧ W.cell? ⟨bb, o + 1, none⟩ = some (.string (bs xh)) ∧ W.cell? ⟨bb, o + 2, none⟩ = some (.string (bs yl)) ∧ W.cell? ⟨bb, o + 2 + 1, none⟩ = some (.string (bs yh)) ∧ Below wr.heap.size wr W)
        (first | with_reducible exact HS0.out _ hb6 | with_reducible exact HS0.out _ (Below.refl _ _).drew | with_reducible exact HS0.out _ (hb6.alloc hb6.size _))
        ((go_at_call 48; refine (HCall.out _ (by go_split_ands; assumption)).mono ?_; rintro r' w' ⟨rfl, hb6⟩))
      clear p0 p1 q0 q1
      have HB6 := Lib.hid (hb6.alloc hb6.size (.cells #[.string (bs xl), .string (bs yh)] 58))
      have HO6 := Lib.hid (OwnG.oneI (x := (⟨xl, yh⟩ : Sp)) spF (heap_alloc_new w' (.cells #[.string (bs xl), .string (bs yh)] 58)))
      have HZ6 := Lib.hid hb6.size
      obtain ⟨w9, hw9⟩ : ∃ y, w'.alloc (.cells #[.string (bs xl), .string (bs yh)] 58) = y := ⟨_, rfl⟩
      have hz9 : w9.heap.size = w'.heap.size + 1 := by rw [← hw9]; simp
      have hx := HB6
      rw [hw9] at HB6 HO6
      rw [hw9]
      have HZ9 := Lib.hid hz9
      have HR9 := Lib.hid (HRo.out.below HB6.out (Nat.le_refl _))
      clear hb6 hx hw9 hz9
      by_cases hc2 : c2 = 2
      · have HR8 := HR9.out
        rw [if_pos hc2] at HR8
        subst hc2
        have hm2 : m.length = 2 := by omega
        obtain rfl : r = [] := List.eq_nil_of_length_eq_zero (by have := HRl.out; omega)
        have hk2 : 2 = gk := by rw [← hm2]; exact HK.out
        have HK2 := Lib.hid hk2
        have HG2 := Lib.hid (show fitI n m = fitI n [⟨xl, yh⟩] from HSt.out)
        have HF2 := Lib.hid (HG2.out.symm.trans HF.out)
        clear HR8 HR9 hk2 HSt HRl HK HF HG2 d1 d2 h0 h2 hh0 hh1 hh2 hml hlc
        rw [hm2]
        clear hm2
        go_wp2_with (at_builtin; refine append_row _ rfl _ _ 27 58 32 spF spInfo Try.underlying27 rfl w'.heap.size _ [⟨xl, yh⟩] rfl HO6.out 0 0 (some ⟨bb, o, none⟩) 0 0 [] rfl rfl (fun e => by cases e) RowG.nil_ (by simp [maxLen]) (by simp) (by have := HZ9.out; omega) ?_; intro v2 w8 ho8 hg8; have HO8 := Lib.hid ho8.chI; have HB8 := Lib.hid (OwnG.grown_below HB6.out HO6.out hg8 HZ6.out HB6.out.size); clear ho8 hg8)
        obtain ⟨A9, c9, rfl, hc9⟩ := HO8.out
        have HC9 := Lib.hid hc9
        clear hc9
        go_roundg (gk - 1)
        case measure => have := HK2.out; omega
        case rel => exact ⟨[⟨xl, yh⟩], A9, c9, by have := HK2.out; simp; omega, rfl, HNp.out, HF2.out, by simp, HC9.out, HB.out.trans (HB8.out.mono HB.out.size)⟩
      · have HR8 := HR9.out
        rw [if_neg hc2] at HR8
        have HR7 := Lib.hid HR8
        clear HR8 HR9
        go_wp2_with (at_builtin; refine append_row _ rfl _ _ 27 58 32 spF spInfo Try.underlying27 rfl w'.heap.size _ [⟨xl, yh⟩] rfl HO6.out 0 _ (some ⟨bb, o + 4, none⟩) (m.length - 2) (c2 - 2) r rfl (by have := HRl.out; omega) (fun e => by cases e) HR7.out (by have := HRl.out; simp [maxLen]; omega) (by have := HRl.out; simp; omega) (by have := HZ9.out; omega) ?_; intro v2 w8 ho8 hg8; have HO8 := Lib.hid ho8.chI; have HB8 := Lib.hid (OwnG.grown_below HB6.out HO6.out hg8 HZ6.out HB6.out.size); clear ho8 hg8)
        obtain ⟨A9, c9, rfl, hc9⟩ := HO8.out
        have HC9 := Lib.hid hc9
        clear hc9
        go_roundg (gk - 1)
        case measure => have := HK.out; omega
        case rel => exact ⟨⟨xl, yh⟩ :: r, A9, c9, by have := HRl.out; have := HK.out; simp; omega, rfl, HNp.out, by rw [← HSt.out, HF.out], by have := HRl.out; simp; omega, HC9.out, HB.out.trans (HB8.out.mono HB.out.size)⟩
    · have d1 : decide ((fitN n : Int) < (m.length : Int)) = false := by rw [decide_eq_false_iff_not]; omega
      have d2 : decide (fitN n < m.length) = false := by rw [decide_eq_false_iff_not]; omega
      have HE := Lib.hid (show m = fitI n J by rw [← HF.out, fitI_few (by omega)])
      clear hgt
      go_wp2_with fail
      go_ret
      exact ⟨A2, c2, by rw [← HE.out]; rfl, by rw [← HE.out]; exact HC.out, HB.out⟩
end Go.Proofs.Ytjkmodfbbiojmaa
