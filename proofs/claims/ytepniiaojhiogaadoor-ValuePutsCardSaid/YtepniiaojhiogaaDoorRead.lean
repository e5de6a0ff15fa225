/-
  What package pack reads: a Reader in memory, and each call on it, by contracts over lists of bytes.
-/
import Derived.Test.YtepniiaojhiogaaDoorNumber
namespace Go.Proofs.YtepniiaojhiogaaDoor
open Go.RowKit

/-- A Reader that a call made: what is left of its bytes, and its error. Its bytes lie ahead of it. -/
def Rdr (w : World) (lo g : Nat) (l : List UInt8) (e : Nat) : Prop :=
  ∃ A c, w.heap[g]? = some (.cells #[.bool true, .slice A l.length c, .int .i64 e] 84 (0, 0)) ∧ l.length ≤ c ∧ c ≤ maxLen ∧ (A = none → c = 0) ∧ Rd w lo g A l

theorem Rdr.lt {w : World} {lo g e : Nat} {l : List UInt8} (h : Rdr w lo g l e) : g < w.heap.size := by
  obtain ⟨A, c, hg, _⟩ := h
  exact (Array.getElem?_eq_some_iff.1 hg).1

theorem Rdr.below {w w' : World} {lo g e B : Nat} {l : List UInt8} (h : Rdr w lo g l e) (hb : Below B w w') (hB : g < B) : Rdr w' lo g l e := by
  obtain ⟨A, c, hg, h1, h2, h3, h4⟩ := h
  exact ⟨A, c, (hb.block g hB).trans hg, h1, h2, h3, h4.below hb (by omega)⟩

/-- Err of a Reader that a call made; of none; of one that no call made. -/
theorem err_any (g lo e : Nat) (l : List UInt8) (w : World) (h : Rdr w lo g l e) :
    Calls Tryd.prog 32 #[.pointer (some ⟨g, 0, none⟩)] w fun x w' => x = .returned (.int .i64 e) ∧ w = w' := by
  obtain ⟨A, c, hg, h1, h2, h3, h4⟩ := h
  have c0 : w.cell? ⟨g, 0, none⟩ = some (.bool true) := cell_of_row w g 0 _ _ _ hg
  have c2 : w.cell? ⟨g, 2, none⟩ = some (.int .i64 e) := cell_of_row w g 2 _ _ _ hg
  clear hg h1 h2 h3 h4
  go_enter Tryd.func32, Tryd.ntmps32
  go_wp2
  go_ret
  exact ⟨rfl, rfl⟩

theorem err_nil (w : World) : Calls Tryd.prog 32 #[.pointer none] w fun x w' => x = .returned (.int .i64 2) ∧ w = w' := by
  go_enter Tryd.func32, Tryd.ntmps32
  go_wp2
  go_ret
  exact ⟨rfl, rfl⟩

theorem err_zero (a : Addr) (w : World) (c0 : w.cell? a = some (.bool false)) : Calls Tryd.prog 32 #[.pointer (some a)] w fun x w' => x = .returned (.int .i64 2) ∧ w = w' := by
  go_enter Tryd.func32, Tryd.ntmps32
  go_wp2
  go_ret
  exact ⟨rfl, rfl⟩

theorem left_any (g lo e : Nat) (l : List UInt8) (w : World) (h : Rdr w lo g l e) :
    Calls Tryd.prog 35 #[.pointer (some ⟨g, 0, none⟩)] w fun x w' => x = .returned (.int .i64 l.length) ∧ w = w' := by
  obtain ⟨A, c, hg, h1, h2, h3, h4⟩ := h
  have c1 : w.cell? ⟨g, 1, none⟩ = some (.slice A l.length c) := cell_of_row w g 1 _ _ _ hg
  clear hg h1 h2 h3 h4
  go_enter Tryd.func35, Tryd.ntmps35
  go_wp2
  go_ret
  exact ⟨rfl, rfl⟩

theorem left_nil (w : World) : Calls Tryd.prog 35 #[.pointer none] w fun x w' => x = .returned (.int .i64 0) ∧ w = w' := by
  go_enter Tryd.func35, Tryd.ntmps35
  go_wp2
  go_ret
  exact ⟨rfl, rfl⟩

theorem left_zero (g : Nat) (w : World) (c1 : w.cell? ⟨g, 1, none⟩ = some (.slice none 0 0)) : Calls Tryd.prog 35 #[.pointer (some ⟨g, 0, none⟩)] w fun x w' => x = .returned (.int .i64 0) ∧ w = w' := by
  go_enter Tryd.func35, Tryd.ntmps35
  go_wp2
  go_ret
  exact ⟨rfl, rfl⟩

/-- What End tells. -/
def endOf (l : List UInt8) (e : Nat) : Nat := if e = 0 ∧ 0 < l.length then 10 else e

theorem Rdr.taken {w : World} {lo g e k e' c c' : Nat} {A A' : Option Addr} {l : List UInt8} (hg : w.heap[g]? = some (.cells #[.bool true, .slice A l.length c, .int .i64 e] 84 (0, 0)))
    (h1 : l.length ≤ c) (h2 : c ≤ maxLen) (h3 : A = none → c = 0) (h4 : Rd w lo g A l) (hk : k ≤ l.length) (hA : A' = if c = k then A else A.map (·.add k)) (hc : c' = c - k) :
    Rdr ((w.setCell ⟨g, 1, none⟩ (.slice A' (l.length - k) c')).setCell ⟨g, 2, none⟩ (.int .i64 e')) lo g (l.drop k) e' ∧
      w.grownBy ((w.setCell ⟨g, 1, none⟩ (.slice A' (l.length - k) c')).setCell ⟨g, 2, none⟩ (.int .i64 e')) (some g) := by
  have hgr : w.grownBy ((w.setCell ⟨g, 1, none⟩ (.slice A' (l.length - k) c')).setCell ⟨g, 2, none⟩ (.int .i64 e')) (some g) :=
    ⟨rfl, rfl, rfl, by simp [World.setCell], fun i _ hne => by
      have hi : i ≠ g := fun h => hne (by rw [h])
      rw [Below.heap_setCell _ _ _ _ hi, Below.heap_setCell _ _ _ _ hi]⟩
  refine ⟨⟨A', c', ?_, by rw [List.length_drop]; omega, by omega, ?_, ?_⟩, hgr⟩
  · simp [World.setCell, Array.getElem?_modify, hg]
  · intro h
    have : A = none := by
      rw [hA] at h
      split at h
      · exact h
      · simpa using h
    have := h3 this
    omega
  · subst hA
    have hlt : g < w.heap.size := (Array.getElem?_eq_some_iff.1 hg).1
    exact (h4.drop k c h1 hk).grown hgr (by omega) (fun i hi => by injection hi with hi; omega)

theorem take_any (g lo e k e' : Nat) (l : List UInt8) (w : World) (h : Rdr w lo g l e) (hk : k ≤ l.length) :
    Calls Tryd.prog 61 #[.pointer (some ⟨g, 0, none⟩), .int .i64 k, .int .i64 e'] w fun x w' => x = .returned (.tuple #[]) ∧ Rdr w' lo g (l.drop k) e' ∧ w.grownBy w' (some g) := by
  obtain ⟨A, c, hg, h1, h2, h3, h4⟩ := h
  have c1 : w.cell? ⟨g, 1, none⟩ = some (.slice A l.length c) := cell_of_row w g 1 _ _ _ hg
  have c2 : w.cell? ⟨g, 2, none⟩ = some (.int .i64 e) := cell_of_row w g 2 _ _ _ hg
  have f1 : w.frozen? ⟨g, 1, none⟩ = false := by simp [World.frozen?, hg]
  have f2 : w.frozen? ⟨g, 2, none⟩ = false := by simp [World.frozen?, hg]
  have hc : c ≤ 9223372036854775807 := by unfold maxLen at h2; omega
  have HG := Lib.hid hg
  have H4 := Lib.hid h4
  have H3 := Lib.hid h3
  have H2 := Lib.hid h2
  clear hg h4 h2 h3
  go_enter Tryd.func61, Tryd.ntmps61
  go_wp2
  · go_end0
    exact ⟨rfl, Rdr.taken HG.out h1 H2.out H3.out H4.out hk (by rw [if_pos (by omega)]) (by omega)⟩
  · go_end0
    exact ⟨rfl, Rdr.taken HG.out h1 H2.out H3.out H4.out hk (by rw [if_neg (by omega)]) rfl⟩

theorem numOf_nat (l : List UInt8) (most : Nat) : ∃ n s e, numOf l most = (n, s, e) ∧ (e ≠ 0 → n = 0 ∧ s = 0) ∧ (e = 0 → 0 < s ∧ s ≤ l.length ∧ n ≤ most) := by
  obtain ⟨n, s, e, h⟩ : ∃ n s e, numOf l most = (n, s, e) := ⟨_, _, _, rfl⟩
  refine ⟨n, s, e, h, nums_bad most l 0 0 n s e h, fun he => ?_⟩
  subst he
  have := nums_ok most l 0 0 n s h
  omega

theorem number_int (A : Option Addr) (l : List UInt8) (c lo hi : Nat) (x : Int) (w : World) (hl : l.length ≤ 9223372036854775807) (h0 : 0 ≤ x) (h1 : x ≤ 18446744073709551615) (hr : Rd w lo hi A l) :
    Calls Tryd.prog 80 #[.slice A l.length c, .int .u64 x] w fun e w' =>
      e = .returned (.tuple #[.int .u64 (numOf l x.toNat).1, .int .i64 (numOf l x.toNat).2.1, .int .i64 (numOf l x.toNat).2.2]) ∧ w = w' := by
  obtain ⟨n, rfl⟩ := Int.eq_ofNat_of_zero_le h0
  exact number_any A l c n lo hi w hl h1 hr

/-- What text tells. -/
def TextRet (r : List UInt8 × Nat × Nat) (w : World) (e : Ending) (w' : World) : Prop :=
  e = .returned (.tuple #[.string ⟨r.1.toArray⟩, .int .i64 r.2.1, .int .i64 r.2.2]) ∧ w = w'

set_option maxRecDepth 100000 in
/-- pack's inner function text. -/
theorem text_in (A : Option Addr) (l : List UInt8) (c lo hi : Nat) (most : Int) (w : World) (hl : l.length ≤ c) (hc : c ≤ 9223372036854775807) (h0 : -9223372036854775808 ≤ most) (h1 : most ≤ 9223372036854775807) (hr : Rd w lo hi A l) :
    Calls Tryd.prog 63 #[.slice A l.length c, .int .i64 most] w (TextRet (textOf l most) w) := by
  obtain ⟨n, s, e, hq, hbad, hok⟩ := numOf_nat l most.toNat
  by_cases hm : most < 0
  · have HN := Lib.hid (number_int A l c lo hi 0 w (by omega) (by omega) (by omega) hr)
    rw [show (0 : Int).toNat = most.toNat from by omega, hq] at HN
    by_cases he : e = 0
    · subst he
      have HT := Lib.hid (show textOf l most = ([], 0, 3) by simp [textOf, hq, hm])
      clear hq hbad hok hr
      go_enter Tryd.func63, Tryd.ntmps63
      go_wp2_with (go_at_call 80; refine HN.out.mono ?_; rintro x w' ⟨rfl, rfl⟩)
      go_ret3
      rw [HT.out]
      exact ⟨rfl, rfl⟩
    · have HT := Lib.hid (show textOf l most = ([], 0, e) by simp [textOf, hq, he])
      have hne : ((e : Int) != 0) = true := by rw [bne_iff_ne]; omega
      clear hq hbad hok hr he
      go_enter Tryd.func63, Tryd.ntmps63
      go_wp2_with (go_at_call 80; refine HN.out.mono ?_; rintro x w' ⟨rfl, rfl⟩)
      go_ret3
      rw [HT.out]
      exact ⟨rfl, rfl⟩
  · have HN := Lib.hid (number_int A l c lo hi most w (by omega) (by omega) (by omega) hr)
    rw [hq] at HN
    by_cases he : e = 0
    · subst he
      obtain ⟨b1, b2, b3⟩ := hok rfl
      have hn63 : (n : Int) ≤ 9223372036854775807 := by omega
      by_cases hs : l.length - s < n
      · have hs' : (l.length : Int) - s < n := by omega
        have HT := Lib.hid (show textOf l most = ([], 0, 6) by simp [textOf, hq, hm, hs])
        clear hq hbad hok hr
        go_enter Tryd.func63, Tryd.ntmps63
        go_wp2_with (go_at_call 80; refine HN.out.mono ?_; rintro x w' ⟨rfl, rfl⟩)
        go_ret3
        rw [HT.out]
        exact ⟨rfl, rfl⟩
      · have hs' : (n : Int) ≤ (l.length : Int) - s := by omega
        have HT := Lib.hid (show textOf l most = ((l.drop s).take n, s + n, 0) by simp [textOf, hq, hm, hs])
        have hrd := (hr.drop s c hl b2).take n
        have hln : n = ((l.drop s).take n).length := by rw [List.length_take, List.length_drop]; omega
        clear hq hbad hok hs hr
        generalize (l.drop s).take n = M at *
        by_cases hcs : c = s
        · rw [if_pos hcs] at hrd
          have hcv : ∀ c', (convert 24 9 (.slice A n c')).run Tryd.prog w = .ok (.string ⟨M.toArray⟩) w := fun c' => conv_rd 24 9 5 Tryd.underlying24 Tryd.underlying5 Tryd.underlying9 hln hrd
          have HC : Hid (c = s) := hcs
          clear hrd hln hcs
          go_enter Tryd.func63, Tryd.ntmps63
          go_wp2_with (go_at_call 80; refine HN.out.mono ?_; rintro x w' ⟨rfl, rfl⟩)
          go_ret3
          rw [HT.out]
          exact ⟨rfl, rfl⟩
        · rw [if_neg hcs] at hrd
          have hcv : ∀ c', (convert 24 9 (.slice (A.map fun x => x.add s) n c')).run Tryd.prog w = .ok (.string ⟨M.toArray⟩) w := fun c' => conv_rd 24 9 5 Tryd.underlying24 Tryd.underlying5 Tryd.underlying9 hln hrd
          clear hrd hln
          go_enter Tryd.func63, Tryd.ntmps63
          go_wp2_with (go_at_call 80; refine HN.out.mono ?_; rintro x w' ⟨rfl, rfl⟩)
          go_ret3
          rw [HT.out]
          exact ⟨rfl, rfl⟩
    · have HT := Lib.hid (show textOf l most = ([], 0, e) by simp [textOf, hq, he])
      have hne : ((e : Int) != 0) = true := by rw [bne_iff_ne]; omega
      clear hq hbad hok hr he
      go_enter Tryd.func63, Tryd.ntmps63
      go_wp2_with (go_at_call 80; refine HN.out.mono ?_; rintro x w' ⟨rfl, rfl⟩)
      go_ret3
      rw [HT.out]
      exact ⟨rfl, rfl⟩

/-- A call on a Reader has told x, and left it with l and e; nothing but it, and what is new, has changed. -/
def Told (v : Value) (lo g : Nat) (l : List UInt8) (e : Nat) (w : World) (x : Ending) (w' : World) : Prop :=
  x = .returned v ∧ Rdr w' lo g l e ∧ w.grownBy w' (some g)

theorem grown_refl (w : World) (row : Option Nat) : w.grownBy w row := ⟨rfl, rfl, rfl, Nat.le_refl _, fun _ _ _ => rfl⟩

/-- What Uint of a Reader tells, what is left, and its error. -/
def uintOf (l : List UInt8) (e most : Nat) : Nat × List UInt8 × Nat :=
  if e ≠ 0 then (0, l, e) else ((numOf l most).1, l.drop (numOf l most).2.1, (numOf l most).2.2)

theorem rUint_any (g lo e : Nat) (l : List UInt8) (x : Int) (w : World) (h : Rdr w lo g l e) (h0 : 0 ≤ x) (h1 : x ≤ 18446744073709551615) :
    Calls Tryd.prog 62 #[.pointer (some ⟨g, 0, none⟩), .int .u64 x] w (Told (.int .u64 (uintOf l e x.toNat).1) lo g (uintOf l e x.toNat).2.1 (uintOf l e x.toNat).2.2 w) := by
  have HE := Lib.hid (err_any g lo e l w h)
  by_cases he : e = 0
  · subst he
    have h' := h
    obtain ⟨A, c, hg, g1, g2, g3, g4⟩ := h'
    have c1 : w.cell? ⟨g, 1, none⟩ = some (.slice A l.length c) := cell_of_row w g 1 _ _ _ hg
    have HN := Lib.hid (number_int A l c lo g x w (by unfold maxLen at g2; omega) h0 h1 g4)
    obtain ⟨n, s, e, hq, hbad, hok⟩ := numOf_nat l x.toNat
    have hs : s ≤ l.length := by
      by_cases he : e = 0
      · exact (hok he).2.1
      · have := (hbad he).2; omega
    rw [hq] at HN
    have HU := Lib.hid (show uintOf l 0 x.toNat = (n, l.drop s, e) by simp [uintOf, hq])
    have HK := Lib.hid (take_any g lo 0 s e l w h hs)
    clear hq hbad hok hg g1 g2 g3 g4 h
    go_enter Tryd.func62, Tryd.ntmps62
    go_wp2_with (first | (go_at_call 32; refine HE.out.mono ?_; rintro x w' ⟨rfl, rfl⟩) | (go_at_call 80; refine HN.out.mono ?_; rintro x w' ⟨rfl, rfl⟩) | (go_at_call 61; refine HK.out.mono ?_; rintro x w1 ⟨rfl, hrd, hgr⟩))
    go_ret
    rw [HU.out]
    exact ⟨rfl, hrd, hgr⟩
  · have HU := Lib.hid (show uintOf l e x.toNat = (0, l, e) by simp [uintOf, he])
    have hne : ((e : Int) != 0) = true := by rw [bne_iff_ne]; omega
    clear he
    go_enter Tryd.func62, Tryd.ntmps62
    go_wp2_with (go_at_call 32; refine HE.out.mono ?_; rintro x w' ⟨rfl, rfl⟩)
    go_ret
    rw [HU.out]
    exact ⟨rfl, h, grown_refl _ _⟩

theorem rUint_bad (p : Option Addr) (x : Int) (w : World) (h : Calls Tryd.prog 32 #[.pointer p] w fun x w' => x = .returned (.int .i64 2) ∧ w = w') :
    Calls Tryd.prog 62 #[.pointer p, .int .u64 x] w fun x w' => x = .returned (.int .u64 0) ∧ w = w' := by
  have HE := Lib.hid h
  clear h
  go_enter Tryd.func62, Tryd.ntmps62
  go_wp2_with (go_at_call 32; refine HE.out.mono ?_; rintro x w' ⟨rfl, rfl⟩)
  go_ret
  exact ⟨rfl, rfl⟩

/-- The greatest number without a sign. -/
def maxU : Nat := 18446744073709551615
theorem maxU_eq : maxU = 18446744073709551615 := rfl

theorem uintOf_le (l : List UInt8) (e most : Nat) : (uintOf l e most).1 ≤ most := by
  unfold uintOf
  split
  · exact Nat.zero_le _
  · obtain ⟨n, s, e', hq, hbad, hok⟩ := numOf_nat l most
    rw [hq]
    by_cases he : e' = 0
    · exact (hok he).2.2
    · show n ≤ most
      have := (hbad he).1; omega

theorem rUint_max (g lo e : Nat) (l : List UInt8) (w : World) (h : Rdr w lo g l e) :
    Calls Tryd.prog 62 #[.pointer (some ⟨g, 0, none⟩), .int .u64 18446744073709551615] w (Told (.int .u64 (uintOf l e maxU).1) lo g (uintOf l e maxU).2.1 (uintOf l e maxU).2.2 w) := by
  have := rUint_any g lo e l 18446744073709551615 w h (by omega) (by omega)
  rwa [show (18446744073709551615 : Int).toNat = maxU from by unfold maxU; omega] at this

/-- The number with a sign of one without. -/
def zag (n : Nat) : Int := if n % 2 = 1 then -1 - ((n / 2 : Nat) : Int) else ((n / 2 : Nat) : Int)

theorem rInt_any (g lo e : Nat) (l : List UInt8) (w : World) (h : Rdr w lo g l e) :
    Calls Tryd.prog 33 #[.pointer (some ⟨g, 0, none⟩)] w (Told (.int .i64 (zag (uintOf l e maxU).1)) lo g (uintOf l e maxU).2.1 (uintOf l e maxU).2.2 w) := by
  have HN := Lib.hid (rUint_max g lo e l w h)
  have hle := uintOf_le l e maxU
  obtain ⟨n, l', e', hq⟩ : ∃ n l' e', uintOf l e maxU = (n, l', e') := ⟨_, _, _, rfl⟩
  rw [hq] at HN hle ⊢
  have hn : (n : Int) ≤ 18446744073709551615 := by unfold maxU at hle; omega
  clear hle hq h
  by_cases ho : n % 2 = 1
  · have ho' : (n : Int) % 2 = 1 := by omega
    have hob : ((n : Int) % 2 == 1) = true := by rw [beq_iff_eq]; omega
    have HZ := Lib.hid (show zag n = -1 - (n : Int) / 2 by simp [zag, ho])
    clear ho ho'
    go_enter Tryd.func33, Tryd.ntmps33
    go_wp2_with (go_at_call 62; refine HN.out.mono ?_; rintro x w' ⟨rfl, hrd, hgr⟩)
    go_ret
    rw [HZ.out]
    exact ⟨rfl, hrd, hgr⟩
  · have hob : ((n : Int) % 2 == 1) = false := by rw [beq_eq_false_iff_ne]; omega
    have HZ := Lib.hid (show zag n = (n : Int) / 2 by simp [zag, ho])
    clear ho
    go_enter Tryd.func33, Tryd.ntmps33
    go_wp2_with (go_at_call 62; refine HN.out.mono ?_; rintro x w' ⟨rfl, hrd, hgr⟩)
    go_ret
    rw [HZ.out]
    exact ⟨rfl, hrd, hgr⟩

theorem rInt_bad (p : Option Addr) (w : World) (h : Calls Tryd.prog 32 #[.pointer p] w fun x w' => x = .returned (.int .i64 2) ∧ w = w') :
    Calls Tryd.prog 33 #[.pointer p] w fun x w' => x = .returned (.int .i64 0) ∧ w = w' := by
  have HN := Lib.hid (rUint_bad p 18446744073709551615 w h)
  clear h
  go_enter Tryd.func33, Tryd.ntmps33
  go_wp2_with (go_at_call 62; refine HN.out.mono ?_; rintro x w' ⟨rfl, rfl⟩)
  go_ret
  exact ⟨rfl, rfl⟩

/-- What Byte tells, what is left, and its error. -/
def byteOf (l : List UInt8) (e : Nat) : Nat × List UInt8 × Nat :=
  if e ≠ 0 then (0, l, e) else match l with
    | [] => (0, [], 6)
    | b :: r => (b.toNat, r, 0)

theorem rByte_any (g lo e : Nat) (l : List UInt8) (w : World) (h : Rdr w lo g l e) :
    Calls Tryd.prog 31 #[.pointer (some ⟨g, 0, none⟩)] w (Told (.int .u8 (byteOf l e).1) lo g (byteOf l e).2.1 (byteOf l e).2.2 w) := by
  have HE := Lib.hid (err_any g lo e l w h)
  by_cases he : e = 0
  · subst he
    have h' := h
    obtain ⟨A, c, hg, g1, g2, g3, g4⟩ := h'
    have c1 : w.cell? ⟨g, 1, none⟩ = some (.slice A l.length c) := cell_of_row w g 1 _ _ _ hg
    have hl : l.length ≤ 9223372036854775807 := by unfold maxLen at g2; omega
    rcases l with _ | ⟨b, r⟩
    · have HK := Lib.hid (take_any g lo 0 0 6 [] w h (Nat.zero_le _))
      clear h hg g1 g2 g3 g4
      go_enter Tryd.func31, Tryd.ntmps31
      go_wp2_with (first | (go_at_call 32; refine HE.out.mono ?_; rintro x w' ⟨rfl, rfl⟩) | (go_at_call 61; refine HK.out.mono ?_; rintro x w1 ⟨rfl, hrd, hgr⟩))
      go_ret
      exact ⟨rfl, hrd, hgr⟩
    · have HK := Lib.hid (take_any g lo 0 1 0 (b :: r) w h (by simp))
      obtain ⟨bb, o, rfl, _, _, hc⟩ := g4 (by simp)
      have c3 := hc 0 (by simp)
      simp only [List.getElem_cons_zero, Nat.add_zero] at c3
      clear h hg g1 g2 g3 hc
      go_enter Tryd.func31, Tryd.ntmps31
      go_wp2_with (first | (go_at_call 32; refine HE.out.mono ?_; rintro x w' ⟨rfl, rfl⟩) | (go_at_call 61; refine HK.out.mono ?_; rintro x w1 ⟨rfl, hrd, hgr⟩))
      go_ret
      exact ⟨rfl, hrd, hgr⟩
  · have HU := Lib.hid (show byteOf l e = (0, l, e) by simp [byteOf, he])
    have hne : ((e : Int) != 0) = true := by rw [bne_iff_ne]; omega
    clear he
    go_enter Tryd.func31, Tryd.ntmps31
    go_wp2_with (go_at_call 32; refine HE.out.mono ?_; rintro x w' ⟨rfl, rfl⟩)
    go_ret
    rw [HU.out]
    exact ⟨rfl, h, grown_refl _ _⟩

theorem rByte_bad (p : Option Addr) (w : World) (h : Calls Tryd.prog 32 #[.pointer p] w fun x w' => x = .returned (.int .i64 2) ∧ w = w') :
    Calls Tryd.prog 31 #[.pointer p] w fun x w' => x = .returned (.int .u8 0) ∧ w = w' := by
  have HE := Lib.hid h
  clear h
  go_enter Tryd.func31, Tryd.ntmps31
  go_wp2_with (go_at_call 32; refine HE.out.mono ?_; rintro x w' ⟨rfl, rfl⟩)
  go_ret
  exact ⟨rfl, rfl⟩

/-- What Text of a Reader tells, what is left, and its error. -/
def textOfR (l : List UInt8) (e : Nat) (most : Int) : List UInt8 × List UInt8 × Nat :=
  if e ≠ 0 then ([], l, e) else ((textOf l most).1, l.drop (textOf l most).2.1, (textOf l most).2.2)

theorem textOf_nat (l : List UInt8) (most : Int) : (textOf l most).2.1 ≤ l.length := by
  unfold textOf
  obtain ⟨n, s, e, hq, hbad, hok⟩ := numOf_nat l most.toNat
  simp only [hq]
  split
  · simp
  · split
    · simp
    · split
      · simp
      · next h1 _ h2 => have := (hok (by omega)).2.1; simp only []; omega

theorem rText_any (g lo e : Nat) (l : List UInt8) (x : Int) (w : World) (h : Rdr w lo g l e) (h0 : -9223372036854775808 ≤ x) (h1 : x ≤ 9223372036854775807) :
    Calls Tryd.prog 34 #[.pointer (some ⟨g, 0, none⟩), .int .i64 x] w (Told (.string ⟨(textOfR l e x).1.toArray⟩) lo g (textOfR l e x).2.1 (textOfR l e x).2.2 w) := by
  have HE := Lib.hid (err_any g lo e l w h)
  by_cases he : e = 0
  · subst he
    have h' := h
    obtain ⟨A, c, hg, g1, g2, g3, g4⟩ := h'
    have c1 : w.cell? ⟨g, 1, none⟩ = some (.slice A l.length c) := cell_of_row w g 1 _ _ _ hg
    have HN := Lib.hid (text_in A l c lo g x w g1 (by unfold maxLen at g2; omega) h0 h1 g4)
    have hs := textOf_nat l x
    obtain ⟨m, s, e, hq⟩ : ∃ m s e, textOf l x = (m, s, e) := ⟨_, _, _, rfl⟩
    rw [hq] at HN hs
    have HU := Lib.hid (show textOfR l 0 x = (m, l.drop s, e) by simp [textOfR, hq])
    have HK := Lib.hid (take_any g lo 0 s e l w h hs)
    clear hq hg g1 g2 g3 g4 h
    go_enter Tryd.func34, Tryd.ntmps34
    go_wp2_with (first | (go_at_call 32; refine HE.out.mono ?_; rintro x w' ⟨rfl, rfl⟩) | (go_at_call 63; refine HN.out.mono ?_; rintro x w' ⟨rfl, rfl⟩) | (go_at_call 61; refine HK.out.mono ?_; rintro x w1 ⟨rfl, hrd, hgr⟩))
    go_ret
    rw [HU.out]
    exact ⟨rfl, hrd, hgr⟩
  · have HU := Lib.hid (show textOfR l e x = ([], l, e) by simp [textOfR, he])
    have hne : ((e : Int) != 0) = true := by rw [bne_iff_ne]; omega
    clear he
    go_enter Tryd.func34, Tryd.ntmps34
    go_wp2_with (go_at_call 32; refine HE.out.mono ?_; rintro x w' ⟨rfl, rfl⟩)
    go_ret
    rw [HU.out]
    exact ⟨rfl, h, grown_refl _ _⟩

theorem rText_bad (p : Option Addr) (x : Int) (w : World) (h : Calls Tryd.prog 32 #[.pointer p] w fun x w' => x = .returned (.int .i64 2) ∧ w = w') :
    Calls Tryd.prog 34 #[.pointer p, .int .i64 x] w fun x w' => x = .returned (.string ⟨#[]⟩) ∧ w = w' := by
  have HE := Lib.hid h
  clear h
  go_enter Tryd.func34, Tryd.ntmps34
  go_wp2_with (go_at_call 32; refine HE.out.mono ?_; rintro x w' ⟨rfl, rfl⟩)
  go_ret
  exact ⟨rfl, rfl⟩

/-- Read: a Reader of a copy. -/
def ReadRet (l : List UInt8) (w : World) (x : Ending) (w' : World) : Prop :=
  ∃ g, x = .returned (.pointer (some ⟨g, 0, none⟩)) ∧ w.heap.size ≤ g ∧ Rdr w' w.heap.size g l 0 ∧ Below w.heap.size w w'

theorem read_any (A : Option Addr) (l : List UInt8) (c : Nat) (w : World) (hl : l.length ≤ 140737488355328) (hz : A = none → c = 0) (hr : Rd w 0 w.heap.size A l) :
    Calls Tryd.prog 30 #[.slice A l.length c] w (ReadRet l w) := by
  have hp := Parts.new w 24 [(A, c, l)] (fun p hp => by
    simp only [List.mem_cons, List.not_mem_nil, or_false] at hp
    subst hp
    exact ⟨hz, hr⟩)
  have HP := Lib.hid hp
  clear hp hr hz
  go_enter Tryd.func30, Tryd.ntmps30
  go_wp2_with (go_at_call 39; refine (join_any _ _ [l] _ HP.out (by simp) (by simpa using hl)).mono ?_; rintro x w1 ⟨A1, c1, rfl, h1, hm1, h2, h3, h4⟩)
  have hsz : w.heap.size ≤ (w.alloc (.cells (List.map (fun p => Value.slice p.1 p.2.2.length p.2.1) [(A, c, l)]).toArray 24)).heap.size := by simp
  have hb1 : Below w.heap.size w w1 := ((Below.refl _ w).alloc (Nat.le_refl _) _).trans (h4.mono hsz)
  have hl1 : [l].flatten = l := by simp
  rw [hl1] at h1 h3
  have hb2 : Below w1.heap.size w1 (w1.alloc (.cells #[.bool true, .slice A1 l.length c1, .int .i64 0] 84)) := (Below.refl _ w1).alloc (Nat.le_refl _) _
  go_ret
  refine ⟨w1.heap.size, rfl, hb1.size, ⟨A1, c1, heap_alloc_new w1 _, h1, hm1, h2, ?_⟩, hb1.trans (hb2.mono hb1.size)⟩
  exact (h3.wide hsz (Nat.le_refl _)).below hb2 (Nat.le_refl _)

end Go.Proofs.YtepniiaojhiogaaDoor
