import Derived.Test.YtidomoibhjgkjaaGreatDoorZC00
import Derived.Test.YtidomoibhjgkjaaGreatDoorRows
import Derived.WalkKit
import Derived.Lib.Hide
import Derived.Laws.IdiomStrings
import Derived.Laws.AppendOwnNone
import Derived.Deep.Draws
/-
  Values in plain words: which are right, which of two is ahead, and variables: got, set, and in order.
-/
namespace Go.Proofs.YtidomoibhjgkjaaGreatDoor

theorem blt_trans : ∀ {a b c : List UInt8}, blt a b = true → blt b c = true → blt a c = true
  | _, [], _, h, _ => by rw [blt_nil] at h; cases h
  | _, _ :: _, [], _, h => by rw [blt_nil] at h; cases h
  | [], _ :: _, _ :: _, _, _ => rfl
  | a :: x, b :: y, c :: z, h, g => by
    rcases u8_tri a b with e | rfl | e
    · rcases u8_tri b c with f | rfl | f
      · exact blt_lt (UInt8.lt_trans e f)
      · exact blt_lt e
      · rw [blt_gt f] at g; cases g
    · rcases u8_tri a c with f | rfl | f
      · exact blt_lt f
      · rw [blt_eq] at h g ⊢
        exact blt_trans h g
      · rw [blt_gt f] at g; cases g
    · rw [blt_gt e] at h; cases h

/-! ### values -/
/-- A value: its kind, its number, its text. -/
structure V where
  k : Int
  n : Int
  s : ByteArray
def V0 : V := ⟨0, 0, ⟨#[]⟩⟩
def V.val (v : V) : Value := .agg #[.int .i64 v.k, .int .i64 v.n, .string v.s]

def rightV (v : V) : Int :=
  if v.k < 1 ∨ 3 < v.k then 40
  else if v.k = 3 ∧ 64 < v.s.size then 3
  else if (v.k = 3 ∧ v.n ≠ 0) ∨ (v.k ≠ 3 ∧ v.s.size ≠ 0) ∨ (v.k = 2 ∧ v.n ≠ 0 ∧ v.n ≠ 1) then 1
  else 0
theorem right_int (n : Int) : rightV ⟨1, n, ⟨#[]⟩⟩ = 0 := by
  unfold rightV
  rw [if_neg (by simp), if_neg (by simp), if_neg (by simp [ByteArray.size])]

/-- An order in three: -1, 0, 1. -/
structure Ord3 {α : Type} (c : α → α → Int) : Prop where
  neg : ∀ a b, c b a = - c a b
  rng : ∀ a b, c a b = -1 ∨ c a b = 0 ∨ c a b = 1
  trans : ∀ a b d, c a b ≤ 0 → c b d ≤ 0 → c a d ≤ 0 ∧ (c a b + c b d ≠ 0 → c a d < 0)
def then3 (c d : Int) : Int := if c = 0 then d else c
theorem then3_zero (d : Int) : then3 0 d = d := if_pos rfl
theorem then3_ne {c : Int} (h : c ≠ 0) (d : Int) : then3 c d = c := if_neg h
theorem Ord3.lex {α : Type} {c d : α → α → Int} (h : Ord3 c) (g : Ord3 d) : Ord3 fun a b => then3 (c a b) (d a b) := by
  refine ⟨fun a b => ?_, fun a b => ?_, fun a b e h1 h2 => ?_⟩
  · have hn := h.neg a b
    by_cases h0 : c a b = 0
    · rw [hn, h0, show (-0 : Int) = 0 from rfl, then3_zero, then3_zero, g.neg a b]
    · rw [then3_ne h0, then3_ne (by omega), hn]
  · by_cases h0 : c a b = 0
    · rw [h0, then3_zero]; exact g.rng a b
    · rw [then3_ne h0]; exact h.rng a b
  · by_cases p : c a b = 0
    · by_cases q : c b e = 0
      · have t1 := h.trans a b e (by omega) (by omega)
        have t2 := h.trans e b a (by rw [h.neg b e]; omega) (by rw [h.neg a b]; omega)
        have t3 := h.neg a e
        have r : c a e = 0 := by omega
        rw [p, then3_zero] at h1 ⊢
        rw [q, then3_zero] at h2 ⊢
        rw [r, then3_zero]
        exact g.trans a b e h1 h2
      · rw [then3_ne q] at h2
        have t1 := h.trans a b e (by omega) h2
        have r : c a e < 0 := t1.2 (by omega)
        rw [then3_ne (by omega : c a e ≠ 0)]
        exact ⟨by omega, fun _ => r⟩
    · rw [then3_ne p] at h1
      have hq : c b e ≤ 0 := by
        by_cases q : c b e = 0
        · omega
        · rw [then3_ne q] at h2; exact h2
      have t1 := h.trans a b e h1 hq
      have r : c a e < 0 := t1.2 (by omega)
      rw [then3_ne (by omega : c a e ≠ 0)]
      exact ⟨by omega, fun _ => r⟩

def cmpI (a b : Int) : Int := if a < b then -1 else if b < a then 1 else 0
theorem cmpI_ord {α : Type} (f : α → Int) : Ord3 fun a b => cmpI (f a) (f b) := by
  refine ⟨fun a b => ?_, fun a b => ?_, fun a b e h1 h2 => ?_⟩
  · unfold cmpI; split <;> split <;> omega
  · unfold cmpI; split
    · exact .inl rfl
    · split
      · exact .inr (.inr rfl)
      · exact .inr (.inl rfl)
  · unfold cmpI at *
    split at h1 <;> split at h2 <;> (try split at h1) <;> (try split at h2) <;> (split <;> (try split) <;> omega)
theorem cmpI_zero (a b : Int) : cmpI a b = 0 ↔ a = b := by
  unfold cmpI; split
  · omega
  · split <;> omega
def cmpS (a b : List UInt8) : Int := if blt a b = true then -1 else if blt b a = true then 1 else 0
theorem cmpS_lt {a b : List UInt8} (h : blt a b = true) : cmpS a b = -1 := if_pos h
theorem cmpS_gt {a b : List UInt8} (h : blt b a = true) : cmpS a b = 1 := by
  unfold cmpS
  rw [if_neg (by rw [blt_asymm h]; simp), if_pos h]
theorem cmpS_self (a : List UInt8) : cmpS a a = 0 := by
  unfold cmpS
  rw [blt_self]; rfl
theorem cmpS_zero (a b : List UInt8) : cmpS a b = 0 ↔ a = b := by
  rcases blt_tri a b with h | rfl | h
  · rw [cmpS_lt h]
    constructor
    · intro h; cases h
    · rintro rfl; rw [blt_self] at h; cases h
  · simp [cmpS_self]
  · rw [cmpS_gt h]
    constructor
    · intro h; cases h
    · rintro rfl; rw [blt_self] at h; cases h
theorem cmpS_le {a b : List UInt8} (h : cmpS a b ≤ 0) : blt a b = true ∨ a = b := by
  rcases blt_tri a b with g | g | g
  · exact .inl g
  · exact .inr g
  · rw [cmpS_gt g] at h; omega
theorem cmpS_ord {α : Type} (f : α → List UInt8) : Ord3 fun a b => cmpS (f a) (f b) := by
  refine ⟨fun a b => ?_, fun a b => ?_, fun a b e h1 h2 => ?_⟩
  · rcases blt_tri (f a) (f b) with h | h | h
    · rw [cmpS_lt h, cmpS_gt h]; rfl
    · rw [h, cmpS_self]; rfl
    · rw [cmpS_lt h, cmpS_gt h]
  · rcases blt_tri (f a) (f b) with h | h | h
    · exact .inl (cmpS_lt h)
    · rw [h, cmpS_self]; exact .inr (.inl rfl)
    · exact .inr (.inr (cmpS_gt h))
  · rcases cmpS_le h1 with g1 | g1
    · rcases cmpS_le h2 with g2 | g2
      · rw [cmpS_lt (blt_trans g1 g2)]; exact ⟨by omega, fun _ => by omega⟩
      · rw [← g2, cmpS_lt g1]; exact ⟨by omega, fun _ => by omega⟩
    · rw [g1, cmpS_self]
      exact ⟨h2, fun h => by omega⟩

/-- Which of two values is ahead. -/
def cmpV (a b : V) : Int := then3 (cmpI a.k b.k) (then3 (cmpI a.n b.n) (cmpS a.s.data.toList b.s.data.toList))
theorem cmpV_ord : Ord3 cmpV := (cmpI_ord V.k).lex ((cmpI_ord V.n).lex (cmpS_ord fun v : V => v.s.data.toList))
theorem ba_list {a b : ByteArray} (h : a.data.toList = b.data.toList) : a = b := ByteArray.ext (Array.toList_inj.1 h)
theorem cmpV_zero (a b : V) : cmpV a b = 0 ↔ a = b := by
  obtain ⟨k, n, s⟩ := a
  obtain ⟨k', n', s'⟩ := b
  unfold cmpV
  constructor
  · intro h
    by_cases h1 : cmpI k k' = 0
    · simp only [h1, then3_zero] at h
      by_cases h2 : cmpI n n' = 0
      · simp only [h2, then3_zero] at h
        rw [(cmpI_zero _ _).1 h1, (cmpI_zero _ _).1 h2, ba_list ((cmpS_zero _ _).1 h)]
      · simp only [then3_ne h2] at h
        exact absurd h h2
    · simp only [then3_ne h1] at h
      exact absurd h h1
  · intro h
    injection h with h1 h2 h3
    subst h1 h2 h3
    simp [(cmpI_zero _ _).2 rfl, cmpS_self, then3_zero]

section
variable {k k' n n' : Int} {s s' : ByteArray}
theorem cmp_k_lt (h : k < k') : cmpV ⟨k, n, s⟩ ⟨k', n', s'⟩ = -1 := by simp [cmpV, cmpI, then3, h]
theorem cmp_k_gt (h : k' < k) : cmpV ⟨k, n, s⟩ ⟨k', n', s'⟩ = 1 := by simp [cmpV, cmpI, then3, h, show ¬ k < k' by omega]
theorem cmp_n_lt (h : n < n') : cmpV ⟨k, n, s⟩ ⟨k, n', s'⟩ = -1 := by simp [cmpV, cmpI, then3, h]
theorem cmp_n_gt (h : n' < n) : cmpV ⟨k, n, s⟩ ⟨k, n', s'⟩ = 1 := by simp [cmpV, cmpI, then3, h, show ¬ n < n' by omega]
theorem cmp_s (k n : Int) (s s' : ByteArray) : cmpV ⟨k, n, s⟩ ⟨k, n, s'⟩ = cmpS s.data.toList s'.data.toList := by simp [cmpV, cmpI, then3]
end

/-! ### variables -/
abbrev VN := ByteArray × V
def hasL (l : List VN) (name : ByteArray) : Bool := l.any fun y => decide (y.1 = name)
def getL : List VN → ByteArray → Option V
  | [], _ => none
  | y :: l, name => if y.1 = name then some y.2 else getL l name
def putL : List VN → VN → List VN
  | [], _ => []
  | y :: l, x => if y.1 = x.1 then x :: l else y :: putL l x
def insL : List VN → VN → List VN
  | [], x => [x]
  | y :: l, x => if blt x.1.data.toList y.1.data.toList = true then x :: y :: l else y :: insL l x
def setL (l : List VN) (x : VN) : List VN := if hasL l x.1 = true then putL l x else insL l x

theorem get_put_same : ∀ (l : List VN) (x : VN), hasL l x.1 = true → getL (putL l x) x.1 = some x.2
  | [], x, h => by cases h
  | y :: l, x, h => by
    unfold putL
    split
    · simp [getL]
    · next hne =>
      have : hasL l x.1 = true := by simpa [hasL, hne] using h
      simp [getL, hne, get_put_same l x this]
theorem get_put_other : ∀ (l : List VN) (x : VN) {name : ByteArray}, name ≠ x.1 → getL (putL l x) name = getL l name
  | [], _, _, _ => rfl
  | y :: l, x, name, h => by
    unfold putL
    split
    · next he =>
      have h1 : ¬ y.1 = name := fun e => h (by rw [← e, he])
      simp [getL, Ne.symm h, h1]
    · simp [getL, get_put_other l x h]
theorem get_ins_same : ∀ (l : List VN) (x : VN), hasL l x.1 = false → getL (insL l x) x.1 = some x.2
  | [], x, _ => by simp [insL, getL]
  | y :: l, x, h => by
    have hne : ¬ y.1 = x.1 := by
      intro e
      simp [hasL, e] at h
    have hl : hasL l x.1 = false := by simpa [hasL, hne] using h
    unfold insL
    split
    · simp [getL]
    · simp [getL, hne, get_ins_same l x hl]
theorem get_ins_other : ∀ (l : List VN) (x : VN) {name : ByteArray}, name ≠ x.1 → getL (insL l x) name = getL l name
  | [], x, _, h => by simp [insL, getL, Ne.symm h]
  | y :: l, x, name, h => by
    unfold insL
    split
    · simp [getL, Ne.symm h]
    · simp [getL, get_ins_other l x h]
theorem get_set_same (l : List VN) (x : VN) : getL (setL l x) x.1 = some x.2 := by
  unfold setL
  split
  · next h => exact get_put_same l x h
  · next h => exact get_ins_same l x (by simpa using h)
theorem get_set_other (l : List VN) (x : VN) {name : ByteArray} (h : name ≠ x.1) : getL (setL l x) name = getL l name := by
  unfold setL
  split
  · exact get_put_other l x h
  · exact get_ins_other l x h
theorem set_len (l : List VN) (x : VN) : (setL l x).length ≤ l.length + 1 := by
  have h1 : ∀ l : List VN, (putL l x).length = l.length := by
    intro l
    induction l with
    | nil => rfl
    | cons y l ih =>
      unfold putL
      split
      · simp
      · simp [ih]
  have h2 : ∀ l : List VN, (insL l x).length = l.length + 1 := by
    intro l
    induction l with
    | nil => rfl
    | cons y l ih =>
      unfold insL
      split
      · simp
      · simp [ih]
  unfold setL
  split
  · rw [h1]; omega
  · rw [h2]; exact Nat.le_refl _
theorem mem_set {l : List VN} {x y : VN} (h : y ∈ setL l x) : y = x ∨ y ∈ l := by
  have h1 : ∀ l : List VN, y ∈ putL l x → y = x ∨ y ∈ l := by
    intro l
    induction l with
    | nil => intro h; cases h
    | cons z l ih =>
      unfold putL
      split
      · intro h
        rcases List.mem_cons.1 h with h | h
        · exact .inl h
        · exact .inr (List.mem_cons_of_mem _ h)
      · intro h
        rcases List.mem_cons.1 h with h | h
        · exact .inr (by rw [h]; exact List.mem_cons_self ..)
        · rcases ih h with h | h
          · exact .inl h
          · exact .inr (List.mem_cons_of_mem _ h)
  have h2 : ∀ l : List VN, y ∈ insL l x → y = x ∨ y ∈ l := by
    intro l
    induction l with
    | nil => intro h; exact .inl (by simpa [insL] using h)
    | cons z l ih =>
      unfold insL
      split
      · intro h
        rcases List.mem_cons.1 h with h | h
        · exact .inl h
        · exact .inr h
      · intro h
        rcases List.mem_cons.1 h with h | h
        · exact .inr (by rw [h]; exact List.mem_cons_self ..)
        · rcases ih h with h | h
          · exact .inl h
          · exact .inr (List.mem_cons_of_mem _ h)
  unfold setL at h
  split at h
  · exact h1 l h
  · exact h2 l h

/-- What is wrong with variables, one by one; ok: which names may be. -/
def varsGo (ok : ByteArray → Bool) : Option ByteArray → List VN → Int
  | _, [] => 0
  | p, x :: l =>
    if ok x.1 = false then 30
    else if (match p with | none => false | some y => !blt y.data.toList x.1.data.toList) = true then 8
    else if rightV x.2 ≠ 0 then rightV x.2
    else varsGo ok (some x.1) l
def varsL (ok : ByteArray → Bool) (l : List VN) : Int := if 8 < l.length then 3 else varsGo ok none l
def Rising (ok : ByteArray → Bool) : Option ByteArray → List VN → Prop
  | _, [] => True
  | p, x :: l => ok x.1 = true ∧ (∀ y, p = some y → blt y.data.toList x.1.data.toList = true) ∧ rightV x.2 = 0 ∧ Rising ok (some x.1) l
theorem vars_rising (ok : ByteArray → Bool) : ∀ (p : Option ByteArray) (l : List VN), varsGo ok p l = 0 ↔ Rising ok p l
  | _, [] => by simp [varsGo, Rising]
  | p, x :: l => by
    unfold varsGo Rising
    rw [← vars_rising ok (some x.1) l]
    cases hok : ok x.1
    · simp
    · cases p with
      | none =>
        by_cases hr : rightV x.2 = 0
        · simp [hr]
        · simp [hr]
      | some y =>
        cases hb : blt y.data.toList x.1.data.toList
        · simp [hb]
        · by_cases hr : rightV x.2 = 0
          · simp [hb, hr]
          · simp [hb, hr]
theorem rising_put {ok : ByteArray → Bool} {x : VN} (h1 : ok x.1 = true) (h2 : rightV x.2 = 0) : ∀ {p : Option ByteArray} {l : List VN}, Rising ok p l → Rising ok p (putL l x)
  | _, [], _ => trivial
  | p, y :: l, ⟨a, b, c, d⟩ => by
    unfold putL
    split
    · next he => exact ⟨h1, fun z hz => by rw [← he]; exact b z hz, h2, by rw [← he]; exact d⟩
    · exact ⟨a, b, c, rising_put h1 h2 d⟩
theorem rising_ins {ok : ByteArray → Bool} {x : VN} (h1 : ok x.1 = true) (h2 : rightV x.2 = 0) : ∀ {p : Option ByteArray} {l : List VN}, hasL l x.1 = false → (∀ y, p = some y → blt y.data.toList x.1.data.toList = true) → Rising ok p l → Rising ok p (insL l x)
  | _, [], _, hp, _ => ⟨h1, hp, h2, trivial⟩
  | p, y :: l, hn, hp, ⟨a, b, c, d⟩ => by
    have hne : ¬ y.1 = x.1 := by
      intro e
      simp [hasL, e] at hn
    have hl : hasL l x.1 = false := by simpa [hasL, hne] using hn
    unfold insL
    split
    · next hb => exact ⟨h1, hp, h2, a, fun z hz => by injection hz with hz; rw [← hz]; exact hb, c, d⟩
    · next hb =>
      refine ⟨a, b, c, rising_ins h1 h2 hl (fun z hz => ?_) d⟩
      injection hz with hz
      rw [← hz]
      rcases blt_tri y.1.data.toList x.1.data.toList with g | g | g
      · exact g
      · exact absurd (ba_list g) hne
      · exact absurd g hb
theorem vars_set {ok : ByteArray → Bool} {l : List VN} {x : VN} (h : varsL ok l = 0) (hx : varsL ok [x] = 0) : varsL ok (setL l x) = 0 ∨ varsL ok (setL l x) = 3 ∧ 8 < (setL l x).length := by
  have hl : ¬ 8 < l.length := by
    intro h8
    rw [varsL, if_pos h8] at h
    cases h
  rw [varsL, if_neg hl, vars_rising] at h
  rw [varsL, if_neg (by simp), vars_rising] at hx
  obtain ⟨h1, _, h2, _⟩ := hx
  by_cases h8 : 8 < (setL l x).length
  · exact .inr ⟨by rw [varsL, if_pos h8], h8⟩
  · left
    rw [varsL, if_neg h8, vars_rising]
    unfold setL
    split
    · exact rising_put h1 h2 h
    · next hh => exact rising_ins h1 h2 (by simpa using hh) (fun _ hy => by cases hy) h
end Go.Proofs.YtidomoibhjgkjaaGreatDoor

/-
  Bytes as lists, and where a slice of bytes lies in memory: plain words for all walks over package pack. No Go function is named here.
-/
namespace Go.Proofs.YtidomoibhjgkjaaGreatDoor
open Go.RowKit

/-- The cells of a list of bytes. -/
def bvs (l : List UInt8) : List Value := l.map fun b => Value.int .u8 (b.toNat : Int)

theorem bvs_length (l : List UInt8) : (bvs l).length = l.length := by simp [bvs]
theorem bvs_append (a b : List UInt8) : bvs (a ++ b) = bvs a ++ bvs b := by simp [bvs]
theorem bvs_one (l : List UInt8) : ∀ u ∈ bvs l, u.oneCell' = true := by
  intro u hu
  simp only [bvs, List.mem_map] at hu
  obtain ⟨b, _, rfl⟩ := hu
  rfl
theorem bvs_at (l : List UInt8) (j : Nat) (u : Value) (h : (bvs l)[j]? = some u) : ∃ hj : j < l.length, u = Value.int .u8 ((l[j]'hj).toNat : Int) := by
  simp only [bvs, List.getElem?_map, Option.map_eq_some_iff] at h
  obtain ⟨b, hb, rfl⟩ := h
  obtain ⟨hj, rfl⟩ := List.getElem?_eq_some_iff.1 hb
  exact ⟨hj, rfl⟩

theorem addr_add (b o j : Nat) : (⟨b, o, none⟩ : Addr).add j = ⟨b, o + j, none⟩ := by
  unfold Addr.add
  split
  · next h => subst h; rfl
  · rfl

/-- A slice at A reads as the bytes l, in a block from lo on and below hi; of an empty one nothing is asked. -/
def Rd (w : World) (lo hi : Nat) (A : Option Addr) (l : List UInt8) : Prop :=
  0 < l.length → ∃ b o, A = some ⟨b, o, none⟩ ∧ lo ≤ b ∧ b < hi ∧ ∀ j (h : j < l.length), w.cell? ⟨b, o + j, none⟩ = some (.int .u8 ((l[j]'h).toNat : Int))

section
variable {w w' : World} {lo hi lo' hi' : Nat} {A : Option Addr} {l : List UInt8}
theorem Rd.nil_ : Rd w lo hi A [] := fun h => absurd h (by simp)
theorem Rd.keep (h : Rd w lo hi A l) (hk : ∀ p : Addr, lo ≤ p.block → p.block < hi → w'.cell? p = w.cell? p) : Rd w' lo hi A l := fun hn => by
  obtain ⟨b, o, e, h1, h2, hc⟩ := h hn
  exact ⟨b, o, e, h1, h2, fun j hj => (hk _ h1 h2).trans (hc j hj)⟩
theorem Rd.wide (h : Rd w lo hi A l) (h1 : lo' ≤ lo) (h2 : hi ≤ hi') : Rd w lo' hi' A l := fun hn => by
  obtain ⟨b, o, e, h3, h4, hc⟩ := h hn
  exact ⟨b, o, e, by omega, by omega, hc⟩
theorem Rd.below {B : Nat} (h : Rd w lo hi A l) (hb : Below B w w') (hB : hi ≤ B) : Rd w' lo hi A l := h.keep fun _ _ h2 => hb.cell (by omega)
theorem Rd.grown {row : Option Nat} (h : Rd w lo hi A l) (hg : w.grownBy w' row) (hB : hi ≤ w.heap.size) (hr : ∀ g, row = some g → g < lo ∨ hi ≤ g) : Rd w' lo hi A l :=
  h.keep fun p h1 h2 => World.cell?_of_block (hg.block p.block (by omega) (fun e => by rcases hr _ e.symm with h | h <;> omega))
theorem Rd.drop (h : Rd w lo hi A l) (k cap : Nat) (hc : l.length ≤ cap) (hk : k ≤ l.length) :
    Rd w lo hi (if cap = k then A else A.map (·.add k)) (l.drop k) := fun hn => by
  rw [List.length_drop] at hn
  obtain ⟨b, o, rfl, h1, h2, hcell⟩ := h (by omega)
  rw [if_neg (by omega)]
  refine ⟨b, o + k, by simp [addr_add], h1, h2, fun j hj => ?_⟩
  rw [List.length_drop] at hj
  rw [List.getElem_drop, Nat.add_assoc]
  exact hcell (k + j) (by omega)
theorem Rd.take (h : Rd w lo hi A l) (k : Nat) : Rd w lo hi A (l.take k) := fun hn => by
  rw [List.length_take] at hn
  obtain ⟨b, o, rfl, h1, h2, hcell⟩ := h (by omega)
  refine ⟨b, o, rfl, h1, h2, fun j hj => ?_⟩
  rw [List.length_take] at hj
  rw [List.getElem_take]
  exact hcell j (by omega)
end

/-- A new block of one byte. -/
theorem Rd.one (w : World) (e : TypeId) (x : Int) (b : UInt8) (hx : x = (b.toNat : Int)) : Rd (w.alloc (.cells #[.int .u8 x] e)) w.heap.size (w.heap.size + 1) (some ⟨w.heap.size, 0, none⟩) [b] := fun _ => by
  refine ⟨w.heap.size, 0, rfl, Nat.le_refl _, by omega, fun j hj => ?_⟩
  have h0 : j = 0 := by simpa using hj
  subst h0 hx
  rw [cell_of_row (w.alloc (.cells #[.int .u8 (b.toNat : Int)] e)) w.heap.size _ _ e (0, 0) (heap_alloc_new w _)]
  rfl

/-- A call has made a new slice that reads as l, and has changed nothing that was there. -/
def Ret (l : List UInt8) (w : World) (e : Ending) (w' : World) : Prop :=
  ∃ A c, e = .returned (.slice A l.length c) ∧ l.length ≤ c ∧ c ≤ maxLen ∧ (A = none → c = 0) ∧ Rd w' w.heap.size w'.heap.size A l ∧ Below w.heap.size w w'

theorem Ret.of {l : List UInt8} {w w' : World} {A : Option Addr} {n c : Nat} (hn : n = l.length) (h1 : l.length ≤ c) (h0 : c ≤ maxLen) (h2 : A = none → c = 0) (h3 : Rd w' w.heap.size w'.heap.size A l) (h4 : Below w.heap.size w w') :
    Ret l w (.returned (.slice A n c)) w' := ⟨A, c, by rw [hn], h1, h0, h2, h3, h4⟩

/-- A slice of slices of bytes. -/
def Parts (w : World) (P : Option Addr) (parts : List (List UInt8)) : Prop :=
  ∀ j (h : j < parts.length), ∃ b o A cc, P = some ⟨b, o, none⟩ ∧ b < w.heap.size ∧ w.cell? ⟨b, o + j, none⟩ = some (.slice A (parts[j]'h).length cc) ∧ (A = none → cc = 0) ∧ Rd w 0 w.heap.size A (parts[j]'h)

theorem Parts.new (w : World) (e : TypeId) (ps : List (Option Addr × Nat × List UInt8)) (h : ∀ p ∈ ps, (p.1 = none → p.2.1 = 0) ∧ Rd w 0 w.heap.size p.1 p.2.2) :
    Parts (w.alloc (.cells (ps.map fun p => Value.slice p.1 p.2.2.length p.2.1).toArray e)) (some ⟨w.heap.size, 0, none⟩) (ps.map (·.2.2)) := fun j hj => by
  rw [List.length_map] at hj
  obtain ⟨h1, h2⟩ := h _ (List.getElem_mem hj)
  refine ⟨w.heap.size, 0, ps[j].1, ps[j].2.1, rfl, by simp, ?_, h1, ?_⟩
  · rw [cell_of_row _ w.heap.size _ _ e (0, 0) (heap_alloc_new w _)]
    simp [hj]
  · have h3 := (h2.below ((Below.refl _ w).alloc (Nat.le_refl _) (.cells (ps.map fun p => Value.slice p.1 p.2.2.length p.2.1).toArray e)) (Nat.le_refl _)).wide (Nat.le_refl 0) (hi' := (w.alloc (.cells (ps.map fun p => Value.slice p.1 p.2.2.length p.2.1).toArray e)).heap.size) (by simp)
    simpa using h3

theorem Parts.below {w w' : World} {P : Option Addr} {parts : List (List UInt8)} (h : Parts w P parts) (hb : Below w.heap.size w w') : Parts w' P parts := fun j hj => by
  obtain ⟨b, o, A, cc, hP, hlt, hc, hn, hr⟩ := h j hj
  exact ⟨b, o, A, cc, hP, Nat.lt_of_lt_of_le hlt hb.size, (hb.cell hlt).trans hc, hn, (hr.below hb (Nat.le_refl _)).wide (Nat.le_refl _) hb.size⟩

theorem flatten_take_succ (parts : List (List UInt8)) (k : Nat) (h : k < parts.length) : (parts.take (k + 1)).flatten = (parts.take k).flatten ++ parts[k] := by
  rw [List.take_succ_eq_append_getElem h]; simp only [List.flatten_append, List.flatten_cons, List.flatten_nil, List.append_nil]

theorem flatten_take_le (parts : List (List UInt8)) (k : Nat) : (parts.take k).flatten.length ≤ parts.flatten.length := by
  have h : parts.flatten = (parts.take k).flatten ++ (parts.drop k).flatten := by rw [← List.flatten_append, List.take_append_drop]
  rw [h, List.length_append]; omega

/-- How many bytes the first k parts have; and all of them. -/
def flen (parts : List (List UInt8)) (k : Nat) : Nat := (parts.take k).flatten.length
theorem flen_succ (parts : List (List UInt8)) (k : Nat) (h : k < parts.length) : flen parts (k + 1) = flen parts k + parts[k].length := by
  unfold flen; rw [flatten_take_succ parts k h, List.length_append]
theorem flen_le (parts : List (List UInt8)) (k : Nat) : flen parts k ≤ parts.flatten.length := flatten_take_le parts k

/-- The bytes of a string, as '[]byte(s)' lays them. -/
theorem Rd.string (w : World) (e : TypeId) (s : ByteArray) (cap : Nat) (fz : Nat × Nat) : Rd (w.alloc (.cells (bytesRow s cap) e fz)) w.heap.size (w.heap.size + 1) (some ⟨w.heap.size, 0, none⟩) s.data.toList := fun _ => by
  refine ⟨w.heap.size, 0, rfl, Nat.le_refl _, by omega, fun j hj => ?_⟩
  rw [cell_of_row _ w.heap.size _ _ e fz (heap_alloc_new w _)]
  have hj' : j < s.data.size := by simpa using hj
  have hj2 : j < s.size := hj'
  simp [bytesRow, Array.getElem?_append, hj2]

/-- Two slices that were built into one. -/
theorem Parts.pair (w : World) (e : TypeId) (A1 A2 : Option Addr) (c1 c2 : Nat) (l1 l2 : List UInt8) (z1 : A1 = none → c1 = 0) (z2 : A2 = none → c2 = 0) (h1 : Rd w 0 w.heap.size A1 l1) (h2 : Rd w 0 w.heap.size A2 l2) :
    Parts (w.alloc (.cells #[.slice A1 l1.length c1, .slice A2 l2.length c2] e)) (some ⟨w.heap.size, 0, none⟩) [l1, l2] :=
  Parts.new w e [(A1, c1, l1), (A2, c2, l2)] (by
    intro p hp
    simp only [List.mem_cons, List.not_mem_nil, or_false] at hp
    rcases hp with rfl | rfl
    · exact ⟨z1, h1⟩
    · exact ⟨z2, h2⟩)

theorem Parts.drew {w : World} {P : Option Addr} {parts : List (List UInt8)} (h : Parts w P parts) : Parts w.drew P parts := h

/-- What was written, and a text's bytes behind it, as two parts. -/
theorem Parts.text (w : World) (e e' : TypeId) (s : ByteArray) (cap : Nat) (fz : Nat × Nat) (lo : Nat) (A : Option Addr) (c : Nat) (l : List UInt8) (hz : A = none → c = 0) (hr : Rd w lo w.heap.size A l) :
    Parts ((w.alloc (.cells (bytesRow s cap) e fz)).alloc (.cells #[.slice A l.length c, .slice (some ⟨w.heap.size, 0, none⟩) s.size cap] e')).drew (some ⟨w.heap.size + 1, 0, none⟩) [l, s.data.toList] := by
  have hb : Below w.heap.size w (w.alloc (.cells (bytesRow s cap) e fz)) := (Below.refl _ w).alloc (Nat.le_refl _) _
  have h := Parts.new (w.alloc (.cells (bytesRow s cap) e fz)) e' [(A, c, l), (some ⟨w.heap.size, 0, none⟩, cap, s.data.toList)] (by
    intro p hp
    simp only [List.mem_cons, List.not_mem_nil, or_false] at hp
    rcases hp with rfl | rfl
    · exact ⟨hz, (hr.below hb (Nat.le_refl _)).wide (Nat.zero_le _) hb.size⟩
    · exact ⟨fun h => (by cases h), (Rd.string w e s cap fz).wide (Nat.zero_le _) (by simp)⟩)
  have e1 : (w.alloc (.cells (bytesRow s cap) e fz)).heap.size = w.heap.size + 1 := by simp
  rw [e1] at h
  have e2 : s.data.toList.length = s.size := rfl
  simp only [List.map_cons, List.map_nil, e2] at h
  exact h.drew

/-- What the call's own row is worth: it reads as its bytes. -/
theorem Rd.own {w : World} {base n c : Nat} {e : TypeId} {A : Option Addr} {l : List UInt8} (h : w.ownsRow base e 1 (.slice A n c) n (bvs l)) : n = l.length ∧ l.length ≤ c ∧ c ≤ maxLen ∧ (A = none → c = 0) ∧ Rd w base w.heap.size A l := by
  have hl := h.1
  rw [bvs_length, Nat.mul_one] at hl
  rcases h.2 with ⟨hv, hn⟩ | ⟨g, cap, cur, hv, hb, hg, hc, hcm, _⟩
  · have : l.length = 0 := by omega
    have hc0 : c = 0 := by injection hv
    exact ⟨by omega, by omega, by rw [hc0]; exact Nat.zero_le _, fun _ => hc0, fun hp => by omega⟩
  · injection hv with h1 h2 h3
    subst h1 h3
    refine ⟨by omega, by omega, hcm, fun h => (by cases h), fun _ => ⟨g, 0, rfl, hb, (Array.getElem?_eq_some_iff.1 hg).1, fun j hj => ?_⟩⟩
    have := h.cells (g := g) rfl j (.int .u8 ((l[j]'hj).toNat : Int)) (by simp [bvs, hj])
    rwa [addr_add] at this

theorem own_slice {w : World} {base n : Nat} {e : TypeId} {v : Value} {xs : List Value} (h : w.ownsRow base e 1 v n xs) : ∃ A c, v = .slice A n c := by
  rcases h.2 with ⟨hv, hn⟩ | ⟨g, cap, cur, hv, _⟩
  · exact ⟨none, 0, by rw [hv, hn]⟩
  · exact ⟨_, _, hv⟩

theorem Ret.own {w w' : World} {e : TypeId} {v : Value} {n : Nat} {l : List UInt8} (h : w'.ownsRow w.heap.size e 1 v n (bvs l)) (hb : Below w.heap.size w w') : Ret l w (.returned v) w' := by
  obtain ⟨A, c, rfl⟩ := own_slice h
  obtain ⟨rfl, hc, hm, hz, hr⟩ := Rd.own h
  exact ⟨A, c, rfl, hc, hm, hz, hr, hb⟩

/-- 'string(b)' of bytes that are read. -/
theorem conv_rd {P : Program} {w : World} {lo hi c n : Nat} {A : Option Addr} {m : List UInt8} (src dst e : TypeId) (hs : P.underlying src = some (.slice e)) (he : P.underlying e = some (.int .u8)) (hd : P.underlying dst = some .string)
    (hn : n = m.length) (hr : Rd w lo hi A m) : (convert src dst (.slice A n c)).run P w = .ok (.string ⟨m.toArray⟩) w := by
  subst hn
  rcases A with _ | a
  · have h0 : m = [] := by
      rcases Nat.eq_zero_or_pos m.length with h0 | h0
      · exact List.eq_nil_of_length_eq_zero h0
      · obtain ⟨b, o, hA, _⟩ := hr h0
        cases hA
    subst h0
    rw [run_convert_bytes_string w src dst e none _ c hs he hd]
    simp [Conv.bytesToString]
    rfl
  · refine run_convert_bytes_back w src dst e a c m hs he hd fun j hj => ?_
    obtain ⟨b, o, hA, _, _, hc⟩ := hr (by omega)
    injection hA with hA
    subst hA
    rw [addr_add]
    exact hc j hj

/-- An append of bytes that are read, onto a row of the call's own: the source is nil, empty, or not. -/
theorem append_rd {P : Program} (w : World) {ops : Array Oper} {rest : List Oper} {o : Oper} {a : Act} {Q : Exit → Act → World → Prop} (hgd : o.guard = none) (s x : Operand) (t : TypeId)
    (ho : o.op = .call { callee := .builtin .append, args := #[s, x], argTypes := #[t, t] })
    (base : Nat) (e : TypeId) (i : TypeInfo) (z : Value) (ht : P.underlying t = some (.slice e)) (hi : P.info? e = some i) (hz : i.zero = some z)
    (hsize : i.size = 1) (hby : i.bytes = 1) (hzs : z.cells.size = 1)
    (v : Value) (n : Nat) (l : List UInt8) (hs : a.eval s = v) (hown : w.ownsRow base e 1 v n (bvs l))
    (lo up : Nat) (A : Option Addr) (m c : Nat) (m' : List UInt8) (hx : a.eval x = .slice A m c) (hm : m = m'.length) (hnil : A = none → c = 0) (hr : Rd w lo up A m')
    (hbytes : l.length + m'.length ≤ 140737488355328) (hbase : base ≤ w.heap.size)
    (h : ∀ v' w', w'.ownsRow base e 1 v' (n + m) (bvs (l ++ m')) → w.grownBy w' v.ownBlock → wpList P ops Q rest (a.put o.dst v') w') : wpList P ops Q (o :: rest) a w := by
  subst hm
  have hn : n = l.length := by have := hown.1; rw [bvs_length] at this; omega
  rcases A with _ | ad
  · have h0 : m' = [] := by
      rcases Nat.eq_zero_or_pos m'.length with h0 | h0
      · exact List.eq_nil_of_length_eq_zero h0
      · obtain ⟨b, o, hA, _⟩ := hr h0
        cases hA
    subst h0
    obtain rfl := hnil rfl
    refine wpList_append_own_none hgd s x t ho base e i 1 ht hi v n (bvs l) hs hown hx ?_
    exact h v w (by simpa using hown) ⟨rfl, rfl, rfl, Nat.le_refl _, fun _ _ _ => rfl⟩
  · refine wpList_append_own w hgd s x t ho base e i z 1 1 ht hi hz hsize hby hzs (by omega) v n (bvs l) hs hown ad m'.length c (bvs m') hx (by rw [bvs_length]; omega) ?_ (bvs_one m') (by unfold maxLen; omega) (by omega) hbase ?_
    · intro j u hu
      obtain ⟨hj, rfl⟩ := bvs_at m' j u hu
      obtain ⟨b, o, hA, _, _, hc⟩ := hr (by omega)
      injection hA with hA
      subst hA
      rw [addr_add]
      exact hc j hj
    · intro v' w' h1 h2 _
      exact h v' w' (by rw [bvs_append]; exact h1) h2

end Go.Proofs.YtidomoibhjgkjaaGreatDoor
