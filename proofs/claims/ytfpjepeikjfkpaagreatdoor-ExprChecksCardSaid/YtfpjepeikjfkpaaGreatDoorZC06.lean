import Derived.Test.YtfpjepeikjfkpaaGreatDoorZC04
import Derived.Test.YtfpjepeikjfkpaaGreatDoorZC05
import Derived.Test.YtfpjepeikjfkpaaGreatDoorZC02
/-
  Terms: slices of them that read as a list; few of the statements on expressions.
-/
namespace Go.Proofs.YtfpjepeikjfkpaaGreatDoor
open Go.RowKit

def termVal (x : TM) : Value := .agg #[.int .i64 x.op, .int .i64 x.v.k, .int .i64 x.v.n, .string x.v.s, .string x.nm]
/-- The cells of a term stand at a place. -/
def TermAt (w : World) (b o : Nat) (x : TM) : Prop :=
  w.cell? ⟨b, o, none⟩ = some (.int .i64 x.op) ∧ w.cell? ⟨b, o + 1, none⟩ = some (.int .i64 x.v.k) ∧ w.cell? ⟨b, o + 2, none⟩ = some (.int .i64 x.v.n) ∧ w.cell? ⟨b, o + 3, none⟩ = some (.string x.v.s) ∧ w.cell? ⟨b, o + 4, none⟩ = some (.string x.nm)
/-- A slice at A reads as the terms l, in a block from lo on and below hi; of an empty one nothing is asked. -/
def RowT (w : World) (lo hi : Nat) (A : Option Addr) (l : List TM) : Prop :=
  0 < l.length → ∃ b o, A = some ⟨b, o, none⟩ ∧ lo ≤ b ∧ b < hi ∧ ∀ j (h : j < l.length), TermAt w b (o + j * 5) (l[j]'h)
theorem TermAt.below {w w' : World} {B b o : Nat} {x : TM} (h : TermAt w b o x) (hb : Below B w w') (hB : b < B) : TermAt w' b o x :=
  ⟨(hb.cell (p := ⟨b, o, none⟩) hB).trans h.1, (hb.cell (p := ⟨b, o + 1, none⟩) hB).trans h.2.1, (hb.cell (p := ⟨b, o + 2, none⟩) hB).trans h.2.2.1, (hb.cell (p := ⟨b, o + 3, none⟩) hB).trans h.2.2.2.1, (hb.cell (p := ⟨b, o + 4, none⟩) hB).trans h.2.2.2.2⟩
theorem RowT.below {w w' : World} {lo hi B : Nat} {A : Option Addr} {l : List TM} (h : RowT w lo hi A l) (hb : Below B w w') (hB : hi ≤ B) : RowT w' lo hi A l := fun hn => by
  obtain ⟨b, o, e, h1, h2, hc⟩ := h hn
  exact ⟨b, o, e, h1, h2, fun j hj => (hc j hj).below hb (Nat.lt_of_lt_of_le h2 hB)⟩
theorem RowT.wide {w : World} {lo hi lo' hi' : Nat} {A : Option Addr} {l : List TM} (h : RowT w lo hi A l) (h1 : lo' ≤ lo) (h2 : hi ≤ hi') : RowT w lo' hi' A l := fun hn => by
  obtain ⟨b, o, e, h3, h4, hc⟩ := h hn
  exact ⟨b, o, e, by omega, by omega, hc⟩
theorem RowT.at_ {w : World} {lo hi k : Nat} {A : Option Addr} {l : List TM} (h : RowT w lo hi A l) (hk : k < l.length) : ∃ b o, A = some ⟨b, o, none⟩ ∧ TermAt w b (o + k * 5) (l[k]'hk) := by
  obtain ⟨b, o, e, _, _, hc⟩ := h (by omega)
  exact ⟨b, o, e, hc k hk⟩

/-- Are these few terms, with little in each? -/
def fewTerm (x : TM) : Bool := decide (x.nm.size ≤ 100) && decide (x.v.s.size ≤ 200)
def fewT (l : List TM) : Bool := l.all fewTerm && decide (l.length ≤ 100)
theorem fewT_yes {l : List TM} (h : fewT l = true) : (∀ x ∈ l, x.nm.size ≤ 100 ∧ x.v.s.size ≤ 200) ∧ l.length ≤ 100 := by
  unfold fewT at h
  rw [Bool.and_eq_true, List.all_eq_true] at h
  exact ⟨fun x hx => by simpa [fewTerm] using h.1 x hx, by simpa using h.2⟩

set_option maxRecDepth 100000 in
set_option maxHeartbeats 2000000 in
theorem fewT_any (l : List TM) (A : Option Addr) (c : Nat) (lo hi : Nat) (w : World) (hl : l.length ≤ 9223372036854775807) (hn : ∀ x ∈ l, x.nm.size ≤ 9223372036854775807 ∧ x.v.s.size ≤ 9223372036854775807) (hr : RowT w lo hi A l) (hhi : hi ≤ w.heap.size) :
    Calls Tryz.prog 9 #[.slice A l.length c] w fun r w' => r = .returned (.bool (fewT l)) ∧ Below w.heap.size w w' := by
  have HR := Lib.hid hr
  have HN := Lib.hid hn
  clear hr hn
  go_enter Tryz.func9, Tryz.ntmps9
  go_wp2
  go_loopg [7] l.length (fun q i wr => ∃ j : Nat, j + q = l.length ∧ i = .int .i64 j ∧ (l.take j).all fewTerm = true ∧ Below w.heap.size w wr)
  case atStart => exact ⟨0, by omega, rfl, rfl, Below.refl _ _⟩
  case round =>
    obtain ⟨j, hk, rfl, hall, hb⟩ := hrel
    have HK := Lib.hid hk
    have HA := Lib.hid hall
    have HB := Lib.hid hb
    clear hall hb hk
    by_cases hj : j < l.length
    · have hlt : decide ((j : Int) < (l.length : Int)) = true := by simpa using hj
      have hlt2 : decide (j < l.length) = true := by simpa using hj
      obtain ⟨b, o, rfl, hv⟩ := (HR.out.below HB.out hhi).at_ hj
      obtain ⟨c0, c1, c2, c3, c4⟩ := hv
      have hsz := HN.out _ (List.getElem_mem hj)
      have HTS := Lib.hid (show l.take (j + 1) = l.take j ++ [l[j]] from by rw [List.take_succ_eq_append_getElem hj])
      have HM := Lib.hid (List.getElem_mem hj)
      generalize l[j] = x at *
      obtain ⟨op, ⟨k, n, s⟩, nm⟩ := x
      simp only at c0 c1 c2 c3 c4 hsz
      have HM2 := Lib.hid (fun (h : fewTerm ⟨op, ⟨k, n, s⟩, nm⟩ = false) => (show fewT l = false by
        unfold fewT
        rw [Bool.and_eq_false_iff]
        left
        rw [List.all_eq_false]
        exact ⟨_, HM.out, by simpa using h⟩))
      have hbn := HB.out.alloc HB.out.size (.cells #[.int .i64 op, .int .i64 k, .int .i64 n, .string s, .string nm] 44)
      have HBN := Lib.hid hbn
      clear hbn hsz
      by_cases h1 : 100 < nm.size
      · have d1 : decide (100 < (nm.size : Int)) = true := by rw [decide_eq_true_iff]; omega
        have HF := Lib.hid (HM2.out (by simp [fewTerm, show ¬ nm.size ≤ 100 by omega]))
        clear h1
        go_wp2
        go_ret
        rw [HF.out]
        exact ⟨rfl, HBN.out⟩
      · have d1 : decide (100 < (nm.size : Int)) = false := by rw [decide_eq_false_iff_not]; omega
        by_cases h2 : 200 < s.size
        · have d2 : decide (200 < (s.size : Int)) = true := by rw [decide_eq_true_iff]; omega
          have HF := Lib.hid (HM2.out (by simp [fewTerm, show ¬ s.size ≤ 200 by omega]))
          clear h1 h2
          go_wp2
          go_ret
          rw [HF.out]
          exact ⟨rfl, HBN.out⟩
        · have d2 : decide (200 < (s.size : Int)) = false := by rw [decide_eq_false_iff_not]; omega
          have HF := Lib.hid (show fewTerm ⟨op, ⟨k, n, s⟩, nm⟩ = true by simp [fewTerm, show nm.size ≤ 100 by omega, show s.size ≤ 200 by omega])
          clear h1 h2
          go_wp2
          go_roundg (gk - 1)
          case measure => have := HK.out; omega
          case rel => exact ⟨j + 1, by have := HK.out; omega, by go_num, by rw [HTS.out, List.all_append, HA.out]; simp [HF.out], HBN.out⟩
    · have hj' : j = l.length := by have := HK.out; omega
      have hlt : decide ((j : Int) < (l.length : Int)) = false := by simpa using hj
      have HF := Lib.hid (show fewT l = decide ((l.length : Int) ≤ 100) by
        have h := HA.out
        rw [hj', List.take_length] at h
        unfold fewT
        rw [h, Bool.true_and, decide_eq_decide]
        omega)
      clear hj'
      go_wp2
      go_ret
      rw [HF.out]
      exact ⟨rfl, HB.out⟩
end Go.Proofs.YtfpjepeikjfkpaaGreatDoor

/-
  Expressions, the document's own answers: whether terms are the same; what an operation takes, how strong it is, its sign.
-/
namespace Go.Proofs.YtfpjepeikjfkpaaGreatDoor
open Go.RowKit

/-- Are two terms the same? -/
def eqT (a b : TM) : Bool := decide (a.op = b.op) && (eqV a.v b.v && decide (a.nm = b.nm))
theorem eqT_iff {a b : TM} : eqT a b = true ↔ a = b := by
  obtain ⟨o, v, m⟩ := a
  obtain ⟨o', v', m'⟩ := b
  simp [eqT, eqV_iff]
instance : DecidableEq TM := fun a b => decidable_of_iff (eqT a b = true) eqT_iff
def sameT (a b : List TM) : Bool := decide (a = b)
theorem eqT_parts (op k n op' k' n' : Int) (s nm s' nm' : ByteArray) : eqT ⟨op, ⟨k, n, s⟩, nm⟩ ⟨op', ⟨k', n', s'⟩, nm'⟩ = decide (op = op' ∧ k = k' ∧ n = n' ∧ s.toList = s'.toList ∧ nm.toList = nm'.toList) := by
  have q : ∀ x y : ByteArray, x.toList = y.toList ↔ x = y := fun x y => ⟨fun h => by rw [ByteArray.toList_eq, ByteArray.toList_eq] at h; exact ba_list h, fun h => by rw [h]⟩
  rw [Bool.eq_iff_iff, eqT_iff, decide_eq_true_iff, q, q]
  simp [and_assoc]

theorem eq_inT (op k n op' k' n' : Int) (s nm s' nm' : ByteArray) (w : World) : (Op.equalIn 10000 44 (.agg #[.int .i64 op, .int .i64 k, .int .i64 n, .string s, .string nm]) (.agg #[.int .i64 op', .int .i64 k', .int .i64 n', .string s', .string nm'])).run Tryz.prog w = .ok (eqT ⟨op, ⟨k, n, s⟩, nm⟩ ⟨op', ⟨k', n', s'⟩, nm'⟩) w := by
  simp [go_sem, Tryz.underlying44, Tryz.underlying42, Tryz.underlying3, Tryz.underlying2, Tryz.underlying9]
  rw [eqT_parts]
  by_cases h1 : op = op' <;> by_cases h2 : k = k' <;> by_cases h3 : n = n' <;> by_cases h4 : s.toList = s'.toList <;> by_cases h5 : nm.toList = nm'.toList <;> simp [h1, h2, h3, h4, h5]

set_option maxHeartbeats 1000000 in
theorem takes_any (op : Int) (w : World) : Calls Tryz.prog 26 #[.int .i64 op] w fun e w' => e = .returned (.int .i64 (takesT op : Int)) ∧ w' = w := by
  have key : (decide (op < 3) = true ∧ takesT op = 0) ∨ (decide (op < 3) = false ∧ decide (op < 6) = true ∧ takesT op = 1) ∨ (decide (op < 3) = false ∧ decide (op < 6) = false ∧ takesT op = 2) := by
    unfold takesT
    by_cases h : op < 3
    · exact .inl ⟨by simpa using h, if_pos h⟩
    · by_cases h2 : op < 6
      · exact .inr (.inl ⟨by simpa using h, by simpa using h2, by rw [if_neg h, if_pos h2]⟩)
      · exact .inr (.inr ⟨by simpa using h, by simpa using h2, by rw [if_neg h, if_neg h2]⟩)
  rcases key with ⟨h1, e⟩ | ⟨h1, h2, e⟩ | ⟨h1, h2, e⟩
  all_goals
    rw [e]
    clear e
    go_enter Tryz.func26, Tryz.ntmps26
    go_wp2
    go_ret
    exact ⟨rfl, rfl⟩

set_option maxHeartbeats 2000000 in
theorem strength_any (op : Int) (w : World) : Calls Tryz.prog 117 #[.int .i64 op] w fun e w' => e = .returned (.int .i64 (strOf op : Int)) ∧ w' = w := by
  have eqb : ∀ n : Int, (op == n) = decide (op = n) := fun n => by by_cases h : op = n <;> simp [h]
  by_cases h18 : op = 18
  · subst h18
    go_enter Tryz.func117, Tryz.ntmps117
    go_wp2
    go_ret
    exact ⟨rfl, rfl⟩
  have b18 : (op == 18) = false := by rw [beq_eq_false_iff_ne]; exact h18
  by_cases h17 : op = 17
  · subst h17
    go_enter Tryz.func117, Tryz.ntmps117
    go_wp2
    go_ret
    exact ⟨rfl, rfl⟩
  have b17 : (op == 17) = false := by rw [beq_eq_false_iff_ne]; exact h17
  by_cases hlo : op < 6
  · have e : strOf op = 9 := by unfold strOf; rw [if_neg h18, if_neg h17, if_neg (by omega), if_neg (by omega), if_neg (by omega)]
    have d1 : decide (11 ≤ op) = false := by rw [decide_eq_false_iff_not]; omega
    have d2 : decide (6 ≤ op) = false := by rw [decide_eq_false_iff_not]; omega
    have d3 : (op == 9) = false := by rw [beq_eq_false_iff_ne]; omega
    have d4 : (op == 10) = false := by rw [beq_eq_false_iff_ne]; omega
    rw [e]
    clear e h18 h17 hlo eqb
    go_enter Tryz.func117, Tryz.ntmps117
    go_wp2
    go_ret
    exact ⟨rfl, rfl⟩
  · by_cases hhi : 18 < op
    · have e : strOf op = 9 := by unfold strOf; rw [if_neg h18, if_neg h17, if_neg (by omega), if_neg (by omega), if_neg (by omega)]
      have d1 : decide (11 ≤ op) = true := by rw [decide_eq_true_iff]; omega
      have d1' : decide (op ≤ 16) = false := by rw [decide_eq_false_iff_not]; omega
      have d2 : decide (6 ≤ op) = true := by rw [decide_eq_true_iff]; omega
      have d2' : decide (op ≤ 8) = false := by rw [decide_eq_false_iff_not]; omega
      have d3 : (op == 9) = false := by rw [beq_eq_false_iff_ne]; omega
      have d4 : (op == 10) = false := by rw [beq_eq_false_iff_ne]; omega
      rw [e]
      clear e h18 h17 hlo hhi eqb
      go_enter Tryz.func117, Tryz.ntmps117
      go_wp2
      go_ret
      exact ⟨rfl, rfl⟩
    · have hs : op = 6 ∨ op = 7 ∨ op = 8 ∨ op = 9 ∨ op = 10 ∨ op = 11 ∨ op = 12 ∨ op = 13 ∨ op = 14 ∨ op = 15 ∨ op = 16 := by omega
      clear h18 h17 b18 b17 hlo hhi eqb
      rcases hs with rfl | rfl | rfl | rfl | rfl | rfl | rfl | rfl | rfl | rfl | rfl
      all_goals
        go_enter Tryz.func117, Tryz.ntmps117
        go_wp2
        go_ret
        exact ⟨rfl, rfl⟩
def signS (op : Int) : ByteArray := ⟨(signL op).toArray⟩
set_option maxHeartbeats 4000000 in
theorem sign_any (op : Int) (w : World) : Calls Tryz.prog 52 #[.int .i64 op] w fun e w' => e = .returned (.string (signS op)) ∧ Below w.heap.size w w' := by
  have hb := box_below w #[.string ⟨#[]⟩, .string ⟨#[]⟩, .string ⟨#[]⟩, .string ⟨#[45]⟩, .string ⟨#[33]⟩, .string ⟨#[]⟩, .string ⟨#[42]⟩, .string ⟨#[47]⟩, .string ⟨#[37]⟩, .string ⟨#[43]⟩, .string ⟨#[45]⟩, .string ⟨#[60]⟩, .string ⟨#[60, 61]⟩, .string ⟨#[62]⟩, .string ⟨#[62, 61]⟩, .string ⟨#[61, 61]⟩, .string ⟨#[33, 61]⟩, .string ⟨#[38, 38]⟩, .string ⟨#[124, 124]⟩] 9
  by_cases hlo : op < 0
  · have e : signS op = ⟨#[]⟩ := by
      unfold signS signL
      rw [if_neg (by omega), if_neg (by omega), if_neg (by omega), if_neg (by omega), if_neg (by omega), if_neg (by omega), if_neg (by omega), if_neg (by omega), if_neg (by omega), if_neg (by omega), if_neg (by omega), if_neg (by omega), if_neg (by omega), if_neg (by omega), if_neg (by omega)]
    have d : decide (op < 0) = true := by rw [decide_eq_true_iff]; omega
    rw [e]
    clear e hlo
    go_enter Tryz.func52, Tryz.ntmps52
    go_wp2
    go_ret
    exact ⟨rfl, hb⟩
  · by_cases hhi : 19 ≤ op
    · have e : signS op = ⟨#[]⟩ := by
        unfold signS signL
        rw [if_neg (by omega), if_neg (by omega), if_neg (by omega), if_neg (by omega), if_neg (by omega), if_neg (by omega), if_neg (by omega), if_neg (by omega), if_neg (by omega), if_neg (by omega), if_neg (by omega), if_neg (by omega), if_neg (by omega), if_neg (by omega), if_neg (by omega)]
      have d : decide (op < 0) = false := by rw [decide_eq_false_iff_not]; omega
      have d2 : decide (19 ≤ op) = true := by rw [decide_eq_true_iff]; omega
      rw [e]
      clear e hlo hhi
      go_enter Tryz.func52, Tryz.ntmps52
      go_wp2
      go_ret
      exact ⟨rfl, hb⟩
    · have hs : op = 0 ∨ op = 1 ∨ op = 2 ∨ op = 3 ∨ op = 4 ∨ op = 5 ∨ op = 6 ∨ op = 7 ∨ op = 8 ∨ op = 9 ∨ op = 10 ∨ op = 11 ∨ op = 12 ∨ op = 13 ∨ op = 14 ∨ op = 15 ∨ op = 16 ∨ op = 17 ∨ op = 18 := by omega
      clear hlo hhi
      rcases hs with rfl | rfl | rfl | rfl | rfl | rfl | rfl | rfl | rfl | rfl | rfl | rfl | rfl | rfl | rfl | rfl | rfl | rfl | rfl
      all_goals
        go_enter Tryz.func52, Tryz.ntmps52
        go_wp2
        go_ret
        exact ⟨rfl, hb⟩
end Go.Proofs.YtfpjepeikjfkpaaGreatDoor
