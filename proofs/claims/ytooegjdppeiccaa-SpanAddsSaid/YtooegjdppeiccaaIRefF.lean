/-
  Stretches, the document's own answers: Fit.
-/
import Derived.Test.YtooegjdppeiccaaIRefE
import Derived.Lib.MinMax
namespace Go.Proofs.Ytooegjdppeiccaa
open Go.RowKit

theorem OwnG.oneI {α : Type} {cs : α → List Value} {k : Nat} {w : World} {g : Nat} {e : TypeId} {x : α} (hF : Fixed k cs) (h : w.heap[g]? = some (.cells (cs x).toArray e (0, 0))) : OwnG e k cs w g (.slice (some ⟨g, 0, none⟩) 1 1) [x] := by
  refine ⟨by rw [flatG_one, hF.len]; simp, .inr ⟨g, 1, _, rfl, Nat.le_refl _, h, Nat.le_refl _, by simp [maxLen], by simp [hF.len], ?_⟩⟩
  rw [flatG_one]
  exact List.take_of_length_le (by simp [hF.len])
/-- What an int asks for: that many, or one. -/
def fitN (n : Int) : Nat := (max n 1).toNat
def fitI (n : Int) (l : List Sp) : List Sp := fitS (fitN n) l
theorem fitN_cast (n : Int) : max n 1 = (fitN n : Int) := by unfold fitN; omega
theorem fitN_pos (n : Int) : 1 ≤ fitN n := by unfold fitN; omega
theorem fitI_few {n : Int} {l : List Sp} (h : l.length ≤ fitN n) : fitI n l = l := fit_few (by have := fitN_pos n; omega)
theorem fitI_step {n : Int} {a b : Sp} {l : List Sp} (h : fitN n < l.length + 2) : fitI n (a :: b :: l) = fitI n (⟨a.lo, b.hi⟩ :: l) := by
  unfold fitI
  conv => lhs; unfold fitS
  rw [if_pos (by have := fitN_pos n; simp; omega)]
set_option maxRecDepth 100000 in
set_option maxHeartbeats 8000000 in
theorem refFitI_any (l : List Sp) (A : Option Addr) (c : Nat) (n : Int) (w : World) (hl : l.length ≤ 2097151) (hca : A = none → c = 0) (hra : RowG spCells w 0 w.heap.size A l) :
    Calls Try.prog 52 #[.slice A l.length c, .int .i64 n] w (RetI (fitI n (joinSp l)) w) := by
  have hj := refJoinI_any l [] A none c 0 w (by simp; omega) hca (fun _ => rfl) hra RowG.nil_
  rw [List.append_nil] at hj
  have HJ := Lib.hid hj
  have HN := Lib.hid (join_norm l)
  have HLn := Lib.hid (Nat.le_trans (join_len l) hl)
  have HMx := fitN_cast n
  have HP := Lib.hid (fitN_pos n)
  clear hj hra hca hl
  generalize joinSp l = J at *
  go_enter Try.func52, Try.ntmps52
  go_wp2_with fail
  refine HJ.out.mono ?_
  rintro r w1 ⟨A1, c1, rfl, h1, hb1⟩
  have HC1 := Lib.hid h1
  have HB1 := Lib.hid hb1
  clear h1 hb1 HJ
  go_wp2_with fail
  go_loopg [0, 5] J.length (fun q vl _ wr => ∃ (m : List Sp) (A2 : Option Addr) (c2 : Nat), m.length = q ∧ vl = .slice A2 m.length c2 ∧ normS m ∧ fitI n m = fitI n J ∧ m.length ≤ 2097151 ∧ ChI wr wr.heap.size A2 c2 m ∧ Below w.heap.size w wr)
  case atStart => exact ⟨J, A1, c1, rfl, rfl, HN.out, rfl, HLn.out, HC1.out, HB1.out⟩
  case round =>
    obtain ⟨m, A2, c2, hk, rfl, hn, hf, hml, hc, hb⟩ := hrel
    have HK := Lib.hid hk
    have HNm := Lib.hid hn
    have HF := Lib.hid hf
    have HC := Lib.hid hc
    have HB := Lib.hid hb
    clear hk hn hf hc hb
    by_cases hgt : fitN n < m.length
    · have d1 : decide ((fitN n : Int) < (m.length : Int)) = true := by rw [decide_eq_true_iff]; omega
      have d2 : decide (fitN n < m.length) = true := by rw [decide_eq_true_iff]; omega
      have h2 : 1 < m.length := by have := HP.out; omega
      have h0 : 0 < m.length := by omega
      obtain ⟨bb, o, rfl, hbh, p0, p1⟩ := HC.out.at_ h0
      obtain ⟨b9, o9, e9, _, q0, q1⟩ := HC.out.at_ h2
      obtain ⟨rfl, rfl⟩ : bb = b9 ∧ o = o9 := by simpa using e9
      have hlc := HC.out.1
      have hcm := HC.out.2.1
      obtain ⟨x, y, r, hm⟩ : ∃ x y r, m = x :: y :: r := by
        match m, h2 with
        | x :: y :: r, _ => exact ⟨x, y, r, rfl⟩
      have e0 : m[0] = x := by subst hm; rfl
      have e1 : m[1] = y := by subst hm; rfl
      rw [e0] at p0 p1
      rw [e1] at q0 q1
      simp only [Nat.zero_mul, Nat.add_zero, Nat.one_mul] at p0 p1 q0 q1
      have hrl : r.length + 2 = m.length := by subst hm; rfl
      have HRo := Lib.hid (show RowG spCells wr 0 wr.heap.size (if c2 = 2 then some ⟨bb, o, none⟩ else some ⟨bb, o + 4, none⟩) r from by
        have h := HC.out.2.2.2.drop spF 2 c2 h2 hlc
        rw [hm] at h
        by_cases e : c2 = 2
        · rw [if_pos e]; rw [if_pos e] at h; exact h
        · rw [if_neg e]; rw [if_neg e] at h; exact h)
      have HNp := Lib.hid (pair_norm (a := x) (b := y) (l := r) (by rw [← hm]; exact HNm.out))
      have HCv := Lib.hid (cover_pair (a := x) (b := y) (l := r) (by rw [← hm]; exact HNm.out))
      have HSt := Lib.hid (show fitI n m = fitI n (⟨x.lo, y.hi⟩ :: r) by rw [hm]; exact fitI_step (by omega))
      have HC2 := Lib.hid (refCoverI_any x y)
      rw [HCv.out] at HC2
      have HRl := Lib.hid hrl
      obtain ⟨xl, xh⟩ := x
      obtain ⟨yl, yh⟩ := y
      unfold spVal at HC2
      simp only at HC2 p0 p1 q0 q1 HNp HSt
      have HS0 := Lib.hid (fun (W : World) (h : Below wr.heap.size wr W) => And.intro ((h.cell (p := ⟨bb, o, none⟩) hbh).trans p0) (And.intro ((h.cell (p := ⟨bb, o + 1, none⟩) hbh).trans p1) (And.intro ((h.cell (p := ⟨bb, o + 2, none⟩) hbh).trans q0) (And.intro ((h.cell (p := ⟨bb, o + 2 + 1, none⟩) hbh).trans q1) h))))
      have HCall := Lib.hid (fun (W : World) (h : Below wr.heap.size wr W) => (HC2.out W).mono fun r w' q => (⟨q.1, h.trans (q.2.mono h.size)⟩ : r = .returned (.agg #[.string (bs xl), .string (bs yh)]) ∧ Below wr.heap.size wr w'))
      clear HC2 HNm HCv e9 HC hm e0 e1 hrl hgt
      have hh1 : decide ((1 : Int) < (m.length : Int)) = true := by rw [decide_eq_true_iff]; omega
      have hh2 : (1 : Int) < (m.length : Int) := by omega
      have hh0 : decide ((0 : Int) < (m.length : Int)) = true := by rw [decide_eq_true_iff]; omega
      go_wp2
      go_region_held3 (fun W => W.cell? ⟨bb, o, none⟩ = some (.string (bs xl)) ∧ W.cell? ⟨bb, o + 1, none⟩ = some (.string (bs xh)) ∧ W.cell? ⟨bb, o + 2, none⟩ = some (.string (bs yl)) ∧ W.cell? ⟨bb, o + 2 + 1, none⟩ = some (.string (bs yh)) ∧ Below wr.heap.size wr W)
        (first | with_reducible exact HS0.out _ hb6 | with_reducible exact HS0.out _ (Below.refl _ _).drew | with_reducible exact HS0.out _ (hb6.alloc hb6.size _))
        ((go_at_call 84; refine (HCall.out _ (by go_split_ands; assumption)).mono ?_; rintro r' w' ⟨rfl, hb6⟩))
      clear p0 p1 q0 q1
      have HB6 := Lib.hid (hb6.alloc hb6.size (.cells #[.string (bs xl), .string (bs yh)] 60))
      have HO6 := Lib.hid (OwnG.oneI (x := (⟨xl, yh⟩ : Sp)) spF (heap_alloc_new w' (.cells #[.string (bs xl), .string (bs yh)] 60)))
      have HZ6 := Lib.hid hb6.size
      obtain ⟨w9, hw9⟩ : ∃ y, w'.alloc (.cells #[.string (bs xl), .string (bs yh)] 60) = y := ⟨_, rfl⟩
      have hz9 : w9.heap.size = w'.heap.size + 1 := by rw [← hw9]; simp
      have hx := HB6
      rw [hw9] at HB6 HO6
      rw [hw9]
      have HZ9 := Lib.hid hz9
      have HR9 := Lib.hid (HRo.out.below HB6.out (Nat.le_refl _))
      clear hb6 hx hw9 hz9
      by_cases hc2 : c2 = 2
      · have HR8 := HR9.out
        rw [if_pos hc2] at HR8
        subst hc2
        have hm2 : m.length = 2 := by omega
        obtain rfl : r = [] := List.eq_nil_of_length_eq_zero (by have := HRl.out; omega)
        have hk2 : 2 = gk := by rw [← hm2]; exact HK.out
        have HK2 := Lib.hid hk2
        have HG2 := Lib.hid (show fitI n m = fitI n [⟨xl, yh⟩] from HSt.out)
        have HF2 := Lib.hid (HG2.out.symm.trans HF.out)
        clear HR8 HR9 hk2 HSt HRl HK HF HG2 d1 d2 h0 h2 hh0 hh1 hh2 hml hlc
        rw [hm2]
        clear hm2
        go_wp2_with (at_builtin; refine append_row _ rfl _ _ 62 60 32 spF spInfo Try.underlying62 rfl w'.heap.size _ [⟨xl, yh⟩] rfl HO6.out 0 0 (some ⟨bb, o, none⟩) 0 0 [] rfl rfl (fun e => by cases e) RowG.nil_ (by simp [maxLen]) (by simp) (by have := HZ9.out; omega) ?_; intro v2 w8 ho8 hg8; have HO8 := Lib.hid ho8.chI; have HB8 := Lib.hid (OwnG.grown_below HB6.out HO6.out hg8 HZ6.out HB6.out.size); clear ho8 hg8)
        obtain ⟨A9, c9, rfl, hc9⟩ := HO8.out
        have HC9 := Lib.hid hc9
        clear hc9
        go_roundg (gk - 1)
        case measure => have := HK2.out; omega
        case rel => exact ⟨[⟨xl, yh⟩], A9, c9, by have := HK2.out; simp; omega, rfl, HNp.out, HF2.out, by simp, HC9.out, HB.out.trans (HB8.out.mono HB.out.size)⟩
      · have HR8 := HR9.out
        rw [if_neg hc2] at HR8
        have HR7 := Lib.hid HR8
        clear HR8 HR9
        go_wp2_with (at_builtin; refine append_row _ rfl _ _ 62 60 32 spF spInfo Try.underlying62 rfl w'.heap.size _ [⟨xl, yh⟩] rfl HO6.out 0 _ (some ⟨bb, o + 4, none⟩) (m.length - 2) (c2 - 2) r rfl (by have := HRl.out; omega) (fun e => by cases e) HR7.out (by have := HRl.out; simp [maxLen]; omega) (by have := HRl.out; simp; omega) (by have := HZ9.out; omega) ?_; intro v2 w8 ho8 hg8; have HO8 := Lib.hid ho8.chI; have HB8 := Lib.hid (OwnG.grown_below HB6.out HO6.out hg8 HZ6.out HB6.out.size); clear ho8 hg8)
        obtain ⟨A9, c9, rfl, hc9⟩ := HO8.out
        have HC9 := Lib.hid hc9
        clear hc9
        go_roundg (gk - 1)
        case measure => have := HK.out; omega
        case rel => exact ⟨⟨xl, yh⟩ :: r, A9, c9, by have := HRl.out; have := HK.out; simp; omega, rfl, HNp.out, by rw [← HSt.out, HF.out], by have := HRl.out; simp; omega, HC9.out, HB.out.trans (HB8.out.mono HB.out.size)⟩
    · have d1 : decide ((fitN n : Int) < (m.length : Int)) = false := by rw [decide_eq_false_iff_not]; omega
      have d2 : decide (fitN n < m.length) = false := by rw [decide_eq_false_iff_not]; omega
      have HE := Lib.hid (show m = fitI n J by rw [← HF.out, fitI_few (by omega)])
      clear hgt
      go_wp2_with fail
      go_ret
      exact ⟨A2, c2, by rw [← HE.out]; rfl, by rw [← HE.out]; exact HC.out, HB.out⟩
end Go.Proofs.Ytooegjdppeiccaa
