/-
  What package key answers: split, Parse; and all that its statements want of it.
-/
import Derived.Test.YtaldjfijcoppiaaKDName
namespace Go.Proofs.Ytaldjfijcoppiaa
open Go.RowKit

/-! ### in plain words -/
def partsOf (s : List UInt8) : Option (List (List UInt8)) := partsL s.length s
theorem partsOf_app (ps : List (List UInt8)) (r : List UInt8) : partsOf (encAll ps ++ r) = (partsOf r).map fun l => ps ++ l := by
  induction ps with
  | nil => rw [encAll_nil, List.nil_append]; cases partsOf r <;> rfl
  | cons p ps ih =>
    rw [encAll_cons, List.append_assoc, partsOf, parts_step (first_enc p _)]
    rw [partsOf] at ih
    rw [ih]
    cases partsOf r <;> rfl
theorem first_app (x r : List UInt8) : firstL (encL x ++ r) = (firstL r).map fun y => (x ++ y.1, y.2) := by
  induction x with
  | nil => rw [show encL [] = [] from rfl, List.nil_append]; cases firstL r <;> rfl
  | cons c x ih =>
    rw [encL_cons, List.append_assoc]
    by_cases hc : c = 0
    · subst hc
      show firstL (0 :: 255 :: (encL x ++ r)) = _
      rw [first_ff, ih]
      cases firstL r <;> rfl
    · rw [show encB c = [c] from if_neg hc]
      show firstL (c :: (encL x ++ r)) = _
      rw [first_ne hc, ih]
      cases firstL r <;> rfl

/-- How far a text has been taken apart. -/
def SplitI (t : List UInt8) (ps : List (List UInt8)) (x : List UInt8) (z : Bool) (k : Nat) : Prop :=
  t = encAll ps ++ (encL x ++ ((if z = true then [0] else []) ++ t.drop k)) ∧ k ≤ t.length ∧ ps.length ≤ k ∧ x.length ≤ k
theorem SplitI.start (t : List UInt8) : SplitI t [] [] false 0 := ⟨rfl, Nat.zero_le _, Nat.le_refl _, Nat.le_refl _⟩
section
variable {s : ByteArray} {ps : List (List UInt8)} {x : List UInt8} {k : Nat}
theorem SplitI.zero (h : SplitI s.data.toList ps x false k) (hk : k < s.size) (hc : s[k] = 0) : SplitI s.data.toList ps x true (k + 1) := by
  obtain ⟨h1, h2, h3, h4⟩ := h
  refine ⟨?_, hk, by omega, by omega⟩
  rw [drop_at s k hk, hc] at h1
  exact h1
theorem SplitI.byte (h : SplitI s.data.toList ps x false k) (hk : k < s.size) (hc : s[k] ≠ 0) : SplitI s.data.toList ps (x ++ [s[k]]) false (k + 1) := by
  obtain ⟨h1, h2, h3, h4⟩ := h
  refine ⟨?_, hk, by omega, by simp; omega⟩
  rw [drop_at s k hk] at h1
  rw [encL_snoc, show encB s[k] = [s[k]] from if_neg hc, List.append_assoc]
  exact h1
theorem SplitI.itself (h : SplitI s.data.toList ps x true k) (hk : k < s.size) (hc : s[k] = 255) : SplitI s.data.toList ps (x ++ [0]) false (k + 1) := by
  obtain ⟨h1, h2, h3, h4⟩ := h
  refine ⟨?_, hk, by omega, by simp; omega⟩
  rw [drop_at s k hk, hc] at h1
  rw [encL_snoc, List.append_assoc]
  exact h1
theorem SplitI.ends (h : SplitI s.data.toList ps x true k) (hk : k < s.size) (hc : s[k] = 1) : SplitI s.data.toList (ps ++ [x]) [] false (k + 1) ∧ k + 1 = (encAll (ps ++ [x])).length := by
  obtain ⟨h1, h2, h3, h4⟩ := h
  have hl : s.data.toList.length = s.size := rfl
  have e := congrArg List.length h1
  rw [drop_at s k hk, hc] at h1
  refine ⟨⟨?_, hk, by simp; omega, by simp⟩, ?_⟩
  · rw [encAll_snoc, encP, List.append_assoc, List.append_assoc]
    exact h1
  · rw [encAll_snoc, encP]
    simp at e ⊢
    omega
theorem SplitI.less (h : SplitI s.data.toList ps x true k) : (encAll ps).length < s.size := by
  have e := congrArg List.length h.1
  have hl : s.data.toList.length = s.size := rfl
  simp at e
  omega
theorem SplitI.bad (h : SplitI s.data.toList ps x true k) (hk : k < s.size) (h1 : s[k] ≠ 1) (h2 : s[k] ≠ 255) : partsOf s.data.toList = none := by
  have e := h.1
  rw [drop_at s k hk] at e
  rw [e, partsOf_app, partsOf, parts_stop _ (by simp)]
  · rfl
  · rw [first_app]
    show (firstL (0 :: s[k] :: _)).map _ = none
    rw [first_bad h1 h2]
    rfl
theorem SplitI.done {z : Bool} (h : SplitI s.data.toList ps x z s.size) : (((encAll ps).length < s.size → partsOf s.data.toList = none) ∧ (¬ (encAll ps).length < s.size → partsOf s.data.toList = some ps)) := by
  have hl : s.data.toList.length = s.size := rfl
  have e := h.1
  rw [← hl, List.drop_length, List.append_nil] at e
  have el := congrArg List.length e
  have hp : partsOf s.data.toList = (partsOf (encL x ++ (if z = true then [0] else []))).map fun l => ps ++ l := by rw [← partsOf_app, ← e]
  constructor
  · intro hlt
    rw [hp, partsOf, parts_stop]
    · rfl
    · rw [first_app]
      cases z <;> rfl
    · intro h0
      rw [h0] at el
      simp at el
      omega
  · intro hge
    have h0 : encL x ++ (if z = true then [0] else []) = [] := by
      apply List.eq_nil_of_length_eq_zero
      rw [List.length_append] at el
      omega
    rw [hp, h0]
    show (some ([] : List (List UInt8))).map _ = _
    simp
end

/-- Rows of unlike kinds are apart. -/
theorem own_apart {w : World} {b1 b2 e1 e2 n1 n2 : Nat} {z1 z2 : Nat} {v1 v2 : Value} {x1 x2 : List Value} (h1 : w.ownsRow b1 e1 z1 v1 n1 x1) (h2 : w.ownsRow b2 e2 z2 v2 n2 x2) (hne : e1 ≠ e2) : v1.ownBlock = none ∨ v1.ownBlock ≠ v2.ownBlock := by
  rcases h1.2 with ⟨rfl, _⟩ | ⟨g1, c1, cur1, rfl, _, hg1, _⟩
  · exact .inl rfl
  · refine .inr fun he => ?_
    rcases h2.2 with ⟨rfl, _⟩ | ⟨g2, c2, cur2, rfl, _, hg2, _⟩
    · cases he
    · injection he with he
      simp only at he
      rw [he, hg2] at hg1
      injection hg1 with hg1
      injection hg1 with _ he2
      exact hne he2.symm

def RetSplit (s : ByteArray) (w : World) (r : Ending) (w' : World) : Prop :=
  ∃ A c ps sz, r = .returned (.tuple #[.slice A ps.length c, .int .i64 (sz : Nat)]) ∧ (sz < s.size → partsOf s.data.toList = none) ∧ (¬ sz < s.size → partsOf s.data.toList = some ps) ∧ sz ≤ 5001 ∧ ps.length ≤ c ∧ (A = none → c = 0) ∧ RowS w' w.heap.size w'.heap.size A (ps.map toBA) ∧ Below w.heap.size w w'

set_option maxRecDepth 100000 in
set_option maxHeartbeats 4000000 in
theorem split_s (s : ByteArray) (w : World) (hs : s.size ≤ 5000) :
    Calls Try.prog 27 #[.string s] w (RetSplit s w) := by
  obtain ⟨i0, hi0, hz0, hz1, hz2⟩ := infoByte
  have I0 := Lib.hid hi0
  have I1 := Lib.hid hz0
  have I2 := Lib.hid hz1
  have I3 := Lib.hid hz2
  clear hi0 hz0 hz1 hz2
  obtain ⟨i9, hi0, hz0, hz1, hz2⟩ := infoStr
  have J0 := Lib.hid hi0
  have J1 := Lib.hid hz0
  have J2 := Lib.hid hz1
  have J3 := Lib.hid hz2
  clear hi0 hz0 hz1 hz2
  go_enter Try.func27, Try.ntmps27
  go_wp2
  go_step3
  go_wp2
  go_step3
  go_wp2
  go_loopg [4, 5, 6, 7, 11] s.size (fun q vp vx sz z i wr => ∃ (k n m : Nat) (ps : List (List UInt8)) (x : List UInt8) (b : Bool) (g : Nat), k + q = s.size ∧ i = .int .i64 k ∧ z = .bool b ∧ sz = .int .i64 (g : Nat) ∧ g ≤ 5000 ∧ g = (encAll ps).length ∧ SplitI s.data.toList ps x b k ∧ wr.ownsRow w.heap.size 9 1 vp n ((ps.map toBA).map Value.string) ∧ wr.ownsRow w.heap.size 5 1 vx m (bvs x) ∧ Below w.heap.size w wr)
  case atStart => exact ⟨0, 0, 0, [], [], false, 0, by omega, rfl, rfl, rfl, by omega, rfl, SplitI.start _, World.ownsRow_nil _ _ _ _, World.ownsRow_nil _ _ _ _, Below.refl _ _⟩
  case round =>
    obtain ⟨k, n, m, ps, x, b, g, hk, rfl, rfl, rfl, hg, hgl, hI, hownp, hownx, hb⟩ := hrel
    have HK := Lib.hid hk
    have HB := Lib.hid hb
    have HG := Lib.hid hgl
    have HI := Lib.hid hI
    have hxl : x.length ≤ 5000 := by have := hI.2.2.2; omega
    have hpl : ps.length ≤ 5000 := by have := hI.2.2.1; omega
    have HXL := Lib.hid hxl
    have HPL := Lib.hid hpl
    have hm : m = x.length := by have := hownx.1; rw [bvs_length] at this; omega
    have hm5 : m ≤ 5000 := by omega
    have hn : n = ps.length := by have := hownp.1; simp at this; omega
    have hn5 : n ≤ 5000 := by omega
    have HN := Lib.hid hn
    clear hk hb hgl hI hm hxl hpl hn
    by_cases hj : k < s.size
    · have hlt : decide ((k : Int) < (s.size : Int)) = true := by simpa using hj
      cases b with
      | false =>
        by_cases hc : s[k] = 0
        · have hz : ((s[k].toNat : Int) == 0) = true := u8_eq (n := 0) (by omega) hc
          have HS := Lib.hid (HI.out.zero hj hc)
          clear hc
          go_wp2_with fail
          go_roundg (gk - 1)
          case measure => have := HK.out; omega
          case rel => exact ⟨k + 1, n, m, ps, x, true, g, by have := HK.out; omega, by go_num, rfl, rfl, hg, HG.out, HS.out, hownp, hownx, HB.out⟩
        · have hz : ((s[k].toNat : Int) == 0) = false := u8_ne (n := 0) (by omega) hc
          have HS := Lib.hid (HI.out.byte hj hc)
          clear hc
          have ap := own_apart hownp hownx (by decide)
          go_wp2_with ((at_builtin; refine append_rd _ rfl _ _ 49 rfl w.heap.size 5 i0 (.int .u8 0) Try.underlying49 I0.out I1.out I2.out I3.out rfl _ _ _ rfl (hownx.alloc _) _ _ _ 1 _ [s[k]] rfl rfl (by intro h; cases h) (Rd.one _ _ _ _ rfl) (by have := HXL.out; simp; omega) (by have := HB.out.size; simp; omega) ?_; intro v1 w1 hown1 hgrow1; have hb1 : Below w.heap.size w w1 := (HB.out.alloc HB.out.size _).grown hgrow1 (by simp; have := HB.out.size; omega) (fun g hg => (hownx.lt g hg).1); have hp1 := (hownp.alloc _).kept hgrow1 ap; clear hgrow1))
          go_roundg (gk - 1)
          case measure => have := HK.out; omega
          case rel => exact ⟨k + 1, n, m + 1, ps, _, false, g, by have := HK.out; omega, by go_num, rfl, rfl, hg, HG.out, HS.out, hp1, hown1, hb1⟩
      | true =>
        by_cases h255 : s[k] = 255
        · have hz : ((s[k].toNat : Int) == 255) = true := u8_eq (n := 255) (by omega) h255
          have HS := Lib.hid (HI.out.itself hj h255)
          clear h255
          have ap := own_apart hownp hownx (by decide)
          go_wp2_with ((at_builtin; refine append_rd _ rfl _ _ 49 rfl w.heap.size 5 i0 (.int .u8 0) Try.underlying49 I0.out I1.out I2.out I3.out rfl _ _ _ rfl (hownx.alloc _) _ _ _ 1 _ [0] rfl rfl (by intro h; cases h) (Rd.one _ _ _ _ rfl) (by have := HXL.out; simp; omega) (by have := HB.out.size; simp; omega) ?_; intro v1 w1 hown1 hgrow1; have hb1 : Below w.heap.size w w1 := (HB.out.alloc HB.out.size _).grown hgrow1 (by simp; have := HB.out.size; omega) (fun g hg => (hownx.lt g hg).1); have hp1 := (hownp.alloc _).kept hgrow1 ap; clear hgrow1))
          go_roundg (gk - 1)
          case measure => have := HK.out; omega
          case rel => exact ⟨k + 1, n, m + 1, ps, _, false, g, by have := HK.out; omega, by go_num, rfl, rfl, hg, HG.out, HS.out, hp1, hown1, hb1⟩
        · have hz : ((s[k].toNat : Int) == 255) = false := u8_ne (n := 255) (by omega) h255
          by_cases h1 : s[k] = 1
          · have hz1 : ((s[k].toNat : Int) == 1) = true := u8_eq (n := 1) (by omega) h1
            have HS := Lib.hid (HI.out.ends hj h1)
            obtain ⟨A9, c9, rfl⟩ := own_slice hownx
            have hcv := conv_rd 49 9 5 Try.underlying49 Try.underlying5 Try.underlying9 (c := c9) (Rd.own hownx).1 (Rd.own hownx).2.2.2.2
            clear h1 h255 hownx
            go_wp2_with ((at_builtin; refine append_strs _ rfl _ _ 22 rfl w.heap.size 9 i9 _ Try.underlying22 J0.out J1.out J2.out J3.out rfl _ _ (ps.map toBA) rfl (hownp.alloc _) _ _ _ 1 _ [toBA x] rfl rfl (by intro h; cases h) (RowS.one _ _ _) (by have := HPL.out; simp; omega) (by have := HB.out.size; simp; omega) ?_; intro v1 w1 hown1 hgrow1; have hb1 : Below w.heap.size w w1 := (HB.out.alloc HB.out.size _).grown hgrow1 (by simp; have := HB.out.size; omega) (fun g hg => (hownp.lt g hg).1); clear hgrow1))
            go_roundg (gk - 1)
            case measure => have := HK.out; omega
            case rel =>
              refine ⟨k + 1, n + 1, 0, ps ++ [x], [], false, k + 1, by have := HK.out; omega, by go_num, rfl, by go_num, by omega, HS.out.2, HS.out.1, ?_, World.ownsRow_nil _ _ _ _, hb1⟩
              rw [List.map_append]
              exact hown1
          · have hz1 : ((s[k].toNat : Int) == 1) = false := u8_ne (n := 1) (by omega) h1
            have HE := Lib.hid (HI.out.bad hj h1 h255)
            have HLess := Lib.hid HI.out.less
            obtain ⟨A9, c9, rfl, hn9, hc9, hz9, hr9⟩ := RowS.own hownp
            have HX := Lib.hid (And.intro hn9 (And.intro hz9 hr9))
            have HC9 := Lib.hid hc9
            clear h1 h255 hownp hownx hn9 hc9 hz9 hr9
            go_wp2_with fail
            rw [Exit.noGoto_ret]
            go_ret2
            refine ⟨A9, c9, ps, g, by rw [← HN.out]; rfl, fun _ => HE.out, fun h => ?_, by omega, by rw [← HN.out]; exact HC9.out, HX.out.2.1, HX.out.2.2, HB.out⟩
            rw [HG.out] at h
            exact absurd HLess.out h
    · have hlt : decide ((k : Int) < (s.size : Int)) = false := by simpa using hj
      have hks : k = s.size := by have := HK.out; omega
      have HD := Lib.hid (SplitI.done (by rw [← hks]; exact HI.out))
      obtain ⟨A9, c9, rfl, hn9, hc9, hz9, hr9⟩ := RowS.own hownp
      have HX := Lib.hid (And.intro hn9 (And.intro hz9 hr9))
      have HC9 := Lib.hid hc9
      clear hks hownp hownx hn9 hc9 hz9 hr9
      go_wp2_with fail
      go_ret2
      refine ⟨A9, c9, ps, g, by rw [← HN.out]; rfl, fun h => HD.out.1 (by rw [← HG.out]; exact h), fun h => HD.out.2 (by rw [← HG.out]; exact h), by omega, by rw [← HN.out]; exact HC9.out, HX.out.2.1, HX.out.2.2, HB.out⟩

set_option maxHeartbeats 1000000 in
theorem parse_any : ParseC := by
  intro L w hL
  cases L with
  | nil =>
    go_enter Try.func11, Try.ntmps11
    go_wp2
    go_ret3
    exact ⟨none, 0, rfl, Nat.le_refl _, fun _ => rfl, fun h => absurd h (by simp [parseL]), Below.refl _ _⟩
  | cons c t =>
    have hx : (⟨(c :: t).toArray⟩ : ByteArray).extract 1 (t.length + 1) = ⟨t.toArray⟩ := by
      have h := extract_drop ⟨(c :: t).toArray⟩ 1
      have hz : (⟨(c :: t).toArray⟩ : ByteArray).size = t.length + 1 := by simp [ByteArray.size]
      rw [hz] at h
      rw [h]
      simp
    have HX := Lib.hid hx
    have htl : t.length ≤ 5000 := by simp at hL; omega
    have HS := Lib.hid (split_s ⟨t.toArray⟩ w (by simpa [ByteArray.size] using htl))
    have hts : (⟨t.toArray⟩ : ByteArray).size = t.length := by simp [ByteArray.size]
    have HTS := Lib.hid hts
    clear hx hL hts
    go_enter Try.func11, Try.ntmps11
    go_wp2_with fail
    rw [HX.out]
    refine (HS.out).mono ?_
    rintro r w2 ⟨A, cc, ps, sz, rfl, p1, p2, hsz, hc, hz, hr, hb⟩
    rw [HTS.out] at p1 p2
    have P1 := Lib.hid p1
    have P2 := Lib.hid p2
    have HR := Lib.hid (And.intro hc (And.intro hz (And.intro hr hb)))
    clear p1 p2 hc hz hr hb HS
    by_cases hlt : sz < t.length
    · have d1 : decide ((sz : Int) < (t.length : Int)) = true := by rw [decide_eq_true_iff]; omega
      have HE := Lib.hid (parseL_none (c := c) (P1.out hlt))
      go_wp2_with fail
      go_ret3
      refine ⟨none, 0, ?_, ?_, fun _ => rfl, fun h => ?_, HR.out.2.2.2⟩
      · rw [HE.out]; rfl
      · rw [HE.out]; exact Nat.le_refl _
      · rw [HE.out] at h; exact absurd h (by simp)
    · have d1 : decide ((sz : Int) < (t.length : Int)) = false := by rw [decide_eq_false_iff_not]; omega
      have HE := Lib.hid (parseL_some (c := c) (P2.out hlt))
      go_wp2_with fail
      go_ret3
      refine ⟨A, cc, ?_, ?_, HR.out.2.1, ?_, HR.out.2.2.2⟩
      · rw [HE.out]; rfl
      · rw [HE.out]; exact HR.out.1
      · rw [HE.out]; exact HR.out.2.2.1

theorem keyC : KeyC := ⟨make_any, under_any, parse_any, number_any, digits_any, after_any, name_any⟩
end Go.Proofs.Ytaldjfijcoppiaa
