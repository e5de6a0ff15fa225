/-
  The document's own Reader: each call on it, by contracts over lists of bytes, in the same words as package pack's.
-/
import Derived.Test.YtepniiaojhiogaaDoorRead
import Derived.Test.YtepniiaojhiogaaDoorRefW
import Derived.Test.YtepniiaojhiogaaDoorRefPlain
namespace Go.Proofs.YtepniiaojhiogaaDoor
open Go.RowKit

theorem cuts_step (l : List UInt8) (k : Nat) (h : k < l.length) :
    cuts (l.drop k) k = if k = 9 ∧ 1 < l[k].toNat then (0, 9) else if 128 ≤ l[k].toNat then cuts (l.drop (k + 1)) (k + 1) else if l[k].toNat = 0 ∧ 0 < k then (0, 8) else (k + 1, 0) := by
  rw [number_at l k h, cuts]

theorem ret2 {a a' b b' : Int} (h1 : a = a') (h2 : b = b') : Ending.returned (.tuple #[.int .i64 a, .int .i64 b]) = .returned (.tuple #[.int .i64 a', .int .i64 b']) := by rw [h1, h2]

set_option maxHeartbeats 400000 in
set_option maxRecDepth 100000 in
theorem fCut_any (A : Option Addr) (l : List UInt8) (c lo hi : Nat) (w : World) (hl : l.length ≤ 9223372036854775807) (hr : Rd w lo hi A l) :
    Calls Tryd.prog 81 #[.slice A l.length c] w fun e w' => e = .returned (.tuple #[.int .i64 (cuts l 0).1, .int .i64 (cuts l 0).2]) ∧ w = w' := by
  have HR := Lib.hid hr
  clear hr
  go_enter Tryd.func81, Tryd.ntmps81
  go_wp2
  go_loop [7] (fun i => ∃ k : Nat, k ≤ l.length ∧ k ≤ 9 ∧ i = .int .i64 k ∧ cuts l 0 = cuts (l.drop k) k) (fun i => l.length - (intOf i).toNat)
  case atStart => exact ⟨0, Nat.zero_le _, by omega, rfl, rfl⟩
  case round =>
    obtain ⟨k, hk, h9, rfl, hd⟩ := hrel
    by_cases hlt : k < l.length
    · obtain ⟨b, o, rfl, _, _, hc⟩ := HR.out (by omega)
      have hcell := hc k hlt
      clear hc
      have hb := l[k].toNat_lt
      rw [cuts_step l k hlt] at hd
      generalize l[k].toNat = x at *
      rcases Nat.lt_or_ge k 9 with k9 | k9
      all_goals
        first
          | (have t9 : ((k : Int) == 9) = true := by rw [beq_iff_eq]; omega)
          | (have t9 : ((k : Int) == 9) = false := by rw [beq_eq_false_iff_ne]; omega)
        by_cases c1 : k = 9 ∧ 1 < x
        · rw [if_pos c1] at hd
          obtain ⟨c2, c3⟩ := c1
          first
            | omega
            | (have HD := Lib.hid hd
               clear hd c2
               go_wp2
               go_ret2
               rw [HD.out]
               exact ⟨rfl, rfl⟩)
        · rw [if_neg c1] at hd
          by_cases c2 : 128 ≤ x
          · rw [if_pos c2] at hd
            first
              | omega
              | (have h8 : k ≤ 8 := by omega
                 have HD := Lib.hid hd
                 clear hd c1
                 go_wp2
                 go_round
                 case rel => exact ⟨k + 1, by omega, by omega, by go_num, HD.out⟩
                 case measure => simp [intOf]; omega)
          · rw [if_neg c2] at hd
            by_cases x0 : x = 0
            · have tx : ((x : Int) == 0) = true := by rw [beq_iff_eq]; omega
              have xz : x ≤ 0 := by omega
              by_cases c4 : 0 < k
              · rw [if_pos ⟨x0, c4⟩] at hd
                have HD := Lib.hid hd
                clear hd c1 x0
                go_wp2
                go_ret2
                rw [HD.out]
                exact ⟨rfl, rfl⟩
              · rw [if_neg (by omega)] at hd
                first
                  | omega
                  | (have HD := Lib.hid hd
                     clear hd x0
                     go_wp2
                     go_ret2
                     rw [HD.out]
                     exact ⟨ret2 (by first | rfl | (simp only []; omega)) rfl, rfl⟩)
            · have tx : ((x : Int) == 0) = false := by rw [beq_eq_false_iff_ne]; omega
              have x1 : k < 9 ∨ x ≤ 1 := by omega
              rw [if_neg (by omega)] at hd
              have HD := Lib.hid hd
              clear hd x0
              go_wp2
              go_ret2
              rw [HD.out]
              exact ⟨ret2 (by first | rfl | (simp only []; omega)) rfl, rfl⟩
    · have HD := Lib.hid hd
      clear hd
      go_wp2
      go_ret2
      rw [HD.out, List.drop_eq_nil_of_le (by omega)]
      exact ⟨rfl, rfl⟩

theorem val_drop (l : List UInt8) (k : Nat) (h : k < l.length) : val (l.drop k) = l[k].toNat % 128 + 128 * val (l.drop (k + 1)) := by
  rw [number_at l k h, val]
theorem val_drop_le (l : List UInt8) : ∀ k, val (l.drop k) ≤ val l := by
  intro k
  induction k with
  | zero => simp
  | succ k ih =>
    rcases Nat.lt_or_ge k l.length with h | h
    · have := val_drop l k h
      omega
    · rw [List.drop_eq_nil_of_le (by omega)]; simp [val]

set_option maxHeartbeats 400000 in
set_option maxRecDepth 100000 in
theorem fNumber_any (A : Option Addr) (l : List UInt8) (n c lo hi : Nat) (w : World) (hn : n = l.length) (hl : l.length ≤ 9223372036854775807) (hv : val l < 18446744073709551616) (hr : Rd w lo hi A l) :
    Calls Tryd.prog 82 #[.slice A n c] w fun e w' => e = .returned (.int .u64 (val l)) ∧ w = w' := by
  subst hn
  have HR := Lib.hid hr
  have HV := Lib.hid hv
  clear hr hv
  go_enter Tryd.func82, Tryd.ntmps82
  go_wp2
  go_loop [3, 4] (fun x i => ∃ (k v : Nat), k ≤ l.length ∧ i = .int .i64 ((k : Int) - 1) ∧ x = .int .u64 v ∧ v = val (l.drop k)) (fun _ i => (intOf i + 1).toNat)
  case atStart => exact ⟨l.length, 0, Nat.le_refl _, by go_num, rfl, by simp [val]⟩
  case round =>
    obtain ⟨k, v, hk, rfl, rfl, hval⟩ := hrel
    by_cases h0 : 0 < k
    · obtain ⟨j, rfl⟩ : ∃ j, k = j + 1 := ⟨k - 1, by omega⟩
      have ej : ((j + 1 : Nat) : Int) - 1 = (j : Int) := by omega
      rw [ej]
      obtain ⟨b, o, rfl, _, _, hc⟩ := HR.out (by omega)
      have hcell := hc j (by omega)
      have hd := val_drop l j (by omega)
      have hle := val_drop_le l j
      rw [← hval] at hd
      have hb := l[j].toNat_lt
      generalize l[j].toNat = x at *
      have hbd : x % 128 + 128 * v < 18446744073709551616 := by have := HV.out; omega
      have hbi : 128 * (v : Int) + (x : Int) % 128 ≤ 18446744073709551615 := by omega
      have HD := Lib.hid hd
      clear hc hd hle hval ej hbd
      go_wp2
      go_round
      case rel => exact ⟨j, x % 128 + 128 * v, by omega, by go_num, by go_num, HD.out.symm⟩
      case measure => simp [intOf]
    · have hk0 : k = 0 := by omega
      subst hk0
      have e2 : v = val l := by rw [hval]; simp
      have HE := Lib.hid e2
      clear hval e2 hk
      go_wp2
      go_ret
      rw [← HE.out]
      exact ⟨rfl, rfl⟩

/-- The document's Reader in memory. -/
def FRdr (w : World) (lo g : Nat) (l : List UInt8) (e : Nat) : Prop :=
  ∃ A c, w.heap[g]? = some (.cells #[.slice A l.length c, .int .i64 e] 64 (0, 0)) ∧ l.length ≤ c ∧ c ≤ maxLen ∧ (A = none → c = 0) ∧ Rd w lo g A l

theorem FRdr.lt {w : World} {lo g e : Nat} {l : List UInt8} (h : FRdr w lo g l e) : g < w.heap.size := by
  obtain ⟨A, c, hg, _⟩ := h
  exact (Array.getElem?_eq_some_iff.1 hg).1

theorem FRdr.below {w w' : World} {lo g e B : Nat} {l : List UInt8} (h : FRdr w lo g l e) (hb : Below B w w') (hB : g < B) : FRdr w' lo g l e := by
  obtain ⟨A, c, hg, h1, h2, h3, h4⟩ := h
  exact ⟨A, c, (hb.block g hB).trans hg, h1, h2, h3, h4.below hb (by omega)⟩

def FTold (v : Value) (lo g : Nat) (l : List UInt8) (e : Nat) (w : World) (x : Ending) (w' : World) : Prop :=
  x = .returned v ∧ FRdr w' lo g l e ∧ w.grownBy w' (some g)

theorem grown_set {w : World} (g i : Nat) (u : Value) : w.grownBy (w.setCell ⟨g, i, none⟩ u) (some g) :=
  ⟨rfl, rfl, rfl, by simp [World.setCell], fun j _ hne => Below.heap_setCell _ _ _ _ (fun h => hne (by rw [h]))⟩

theorem grown_step {a b c : World} {row : Option Nat} (h : a.grownBy b row) (k : b.grownBy c row) : a.grownBy c row :=
  ⟨k.os.trans h.os, k.tape.trans h.tape, k.output.trans h.output, Nat.le_trans h.size k.size, fun i hi hne => (k.block i (Nat.lt_of_lt_of_le hi h.size) hne).trans (h.block i hi hne)⟩

/-- The error is stored. -/
theorem FRdr.err {w : World} {lo g e : Nat} (e' : Nat) {l : List UInt8} (h : FRdr w lo g l e) : FRdr (w.setCell ⟨g, 1, none⟩ (.int .i64 e')) lo g l e' := by
  have hlt := h.lt
  obtain ⟨A, c, hg, h1, h2, h3, h4⟩ := h
  refine ⟨A, c, ?_, h1, h2, h3, h4.grown (grown_set g 1 _) (by omega) (fun i hi => by injection hi with hi; omega)⟩
  simp [World.setCell, Array.getElem?_modify, hg]

/-- Another slice is stored that reads as m. -/
theorem FRdr.put {w : World} {lo g e n c' : Nat} {A' : Option Addr} {l m : List UInt8} (h : FRdr w lo g l e) (hn : n = m.length) (hc : m.length ≤ c') (hcm : c' ≤ maxLen) (hz : A' = none → c' = 0) (hr : Rd w lo g A' m) :
    FRdr (w.setCell ⟨g, 0, none⟩ (.slice A' n c')) lo g m e := by
  have hlt := h.lt
  subst hn
  obtain ⟨A, c, hg, h1, h2, h3, h4⟩ := h
  refine ⟨A', c', ?_, hc, hcm, hz, hr.grown (grown_set g 0 _) (by omega) (fun i hi => by injection hi with hi; omega)⟩
  simp [World.setCell, Array.getElem?_modify, hg]

theorem FRdr.cut {w : World} {lo g e k c c' n : Nat} {A A' : Option Addr} {l : List UInt8} (h : FRdr w lo g l e) (h1 : l.length ≤ c) (h2 : c ≤ maxLen) (h3 : A = none → c = 0) (h4 : Rd w lo g A l) (hk : k ≤ l.length)
    (hA : A' = if c = k then A else A.map (·.add k)) (hc : c' = c - k) (hn : n = l.length - k) : FRdr (w.setCell ⟨g, 0, none⟩ (.slice A' n c')) lo g (l.drop k) e := by
  subst hA
  refine h.put (by rw [List.length_drop]; omega) (by rw [List.length_drop]; omega) (by omega) ?_ (h4.drop k c h1 hk)
  intro hh
  have : A = none := by
    split at hh
    · exact hh
    · simpa using hh
  have := h3 this
  omega

set_option maxHeartbeats 400000 in
set_option maxRecDepth 100000 in
theorem fUint_any (g lo e : Nat) (l : List UInt8) (x : Int) (w : World) (h : FRdr w lo g l e) (h0 : 0 ≤ x) (h1 : x ≤ 18446744073709551615) :
    Calls Tryd.prog 64 #[.pointer (some ⟨g, 0, none⟩), .int .u64 x] w (FTold (.int .u64 (uintOf l e x.toNat).1) lo g (uintOf l e x.toNat).2.1 (uintOf l e x.toNat).2.2 w) := by
  have HF := Lib.hid h
  obtain ⟨A, c, hg, g1, g2, g3, g4⟩ := h
  have c0 : w.cell? ⟨g, 0, none⟩ = some (.slice A l.length c) := cell_of_row w g 0 _ _ _ hg
  have c1 : w.cell? ⟨g, 1, none⟩ = some (.int .i64 e) := cell_of_row w g 1 _ _ _ hg
  have f0 : w.frozen? ⟨g, 0, none⟩ = false := by simp [World.frozen?, hg]
  have f1 : w.frozen? ⟨g, 1, none⟩ = false := by simp [World.frozen?, hg]
  have hcm : c ≤ 9223372036854775807 := by unfold maxLen at g2; omega
  by_cases he : e = 0
  · subst he
    have HC := Lib.hid (fCut_any A l c lo g w (by omega) g4)
    obtain ⟨s, e', hq⟩ : ∃ s e', cuts l 0 = (s, e') := ⟨_, _, rfl⟩
    have hnum := numOf_cuts l x.toNat s e' hq
    rw [hq] at HC
    by_cases he' : e' = 0
    · subst he'
      have hs := cuts_ok l 0 s hq
      have hsl : s ≤ l.length := by omega
      have HNum := Lib.hid (fNumber_any A (l.take s) s c lo g w (by rw [List.length_take]; omega) (by rw [List.length_take]; omega) (val_take l s hq) (g4.take s))
      rw [if_neg (by omega)] at hnum
      have hvb := val_take l s hq
      have hvi : ((val (l.take s) : Nat) : Int) ≤ 18446744073709551615 := by omega
      generalize val (l.take s) = V at *
      by_cases hbig : x.toNat < V
      · rw [if_pos hbig] at hnum
        have HU := Lib.hid (show uintOf l 0 x.toNat = (0, l, 3) by simp [uintOf, hnum])
        have hb' : x < (V : Int) := by omega
        clear hq hnum hg g2 g3 g4 hbig hvb
        go_enter Tryd.func64, Tryd.ntmps64
        go_wp2_with (first | (go_at_call 81; refine HC.out.mono ?_; rintro x w' ⟨rfl, rfl⟩) | (go_at_call 82; refine HNum.out.mono ?_; rintro x w' ⟨rfl, rfl⟩))
        go_ret
        rw [HU.out]
        exact ⟨rfl, HF.out.err 3, grown_set g 1 _⟩
      · rw [if_neg hbig] at hnum
        have HU := Lib.hid (show uintOf l 0 x.toNat = (V, l.drop s, 0) by simp [uintOf, hnum])
        have hb' : (V : Int) ≤ x := by omega
        have G4 := Lib.hid g4
        have G3 := Lib.hid g3
        have G2 := Lib.hid g2
        clear hq hnum hg g2 g3 g4 hbig hvb
        go_enter Tryd.func64, Tryd.ntmps64
        go_wp2_with (first | (go_at_call 81; refine HC.out.mono ?_; rintro x w' ⟨rfl, rfl⟩) | (go_at_call 82; refine HNum.out.mono ?_; rintro x w' ⟨rfl, rfl⟩))
        all_goals
          go_ret
          rw [HU.out]
          refine ⟨rfl, ?_, grown_set g 0 _⟩
          first
            | exact HF.out.cut g1 G2.out G3.out G4.out hsl (by rw [if_pos (by omega)]) (by omega) rfl
            | exact HF.out.cut g1 G2.out G3.out G4.out hsl (by rw [if_neg (by omega)]) rfl rfl
    · have hs0 := cuts_bad l 0 s e' hq he'
      rw [if_pos he'] at hnum
      have HU := Lib.hid (show uintOf l 0 x.toNat = (0, l, e') by simp [uintOf, hnum])
      have t1 : ((e' : Int) == 0) = false := by rw [beq_eq_false_iff_ne]; omega
      have t2 : ((e' : Int) != 0) = true := by rw [bne_iff_ne]; omega
      clear hq hnum hg g1 g2 g3 g4 he' hs0
      go_enter Tryd.func64, Tryd.ntmps64
      go_wp2_with (first | (go_at_call 81; refine HC.out.mono ?_; rintro x w' ⟨rfl, rfl⟩))
      go_ret
      rw [HU.out]
      exact ⟨rfl, HF.out.err e', grown_set g 1 _⟩
  · have HU := Lib.hid (show uintOf l e x.toNat = (0, l, e) by simp [uintOf, he])
    have t2 : ((e : Int) != 0) = true := by rw [bne_iff_ne]; omega
    clear he hg g1 g2 g3 g4
    go_enter Tryd.func64, Tryd.ntmps64
    go_wp2
    go_ret
    rw [HU.out]
    exact ⟨rfl, HF.out, grown_refl _ _⟩

end Go.Proofs.YtepniiaojhiogaaDoor
