import Derived.Test.YtidomoibhjgkjaaGreatDoorZC04
import Derived.Lib.SlicesCompact
import Derived.Test.YtidomoibhjgkjaaGreatDoorZC05
/-
  Names of terms in plain words: sorted and each once, they are what is got by putting each in its place.
-/
namespace Go.Proofs.YtidomoibhjgkjaaGreatDoor
open Go.RowKit

theorem blt_iff : ∀ (a b : List UInt8), blt a b = true ↔ a < b
  | [], [] => by simp [blt_nil]
  | [], _ :: _ => by simp only [List.nil_lt_cons, iff_true]; rfl
  | _ :: _, [] => by simp [blt_nil]
  | p :: x, q :: y => by
    rw [List.cons_lt_cons_iff, ← blt_iff x y, blt_cons]
    simp
theorem le_blt (a b : List UInt8) : decide (a ≤ b) = !blt b a := by
  cases h : blt b a
  · have h2 : ¬ b < a := fun h3 => by
      have := (blt_iff b a).2 h3
      rw [h] at this
      cases this
    simpa using h2
  · have h2 := (blt_iff b a).1 h
    simpa using h2
theorem nlt_trans {a b c : List UInt8} (h1 : blt b a = false) (h2 : blt c b = false) : blt c a = false := by
  cases h : blt c a
  · rfl
  · rcases blt_tri a b with g | rfl | g
    · rw [blt_trans h g] at h2; cases h2
    · rw [h] at h2; cases h2
    · rw [g] at h1; cases h1

theorem strict_eq : ∀ {a b : List (List UInt8)}, a.Pairwise (fun x y => blt x y = true) → b.Pairwise (fun x y => blt x y = true) → (∀ x, x ∈ a ↔ x ∈ b) → a = b
  | [], [], _, _, _ => rfl
  | [], y :: b, _, _, h => absurd ((h y).2 (List.mem_cons_self ..)) (by simp)
  | x :: a, [], _, _, h => absurd ((h x).1 (List.mem_cons_self ..)) (by simp)
  | x :: a, y :: b, ha, hb, h => by
    rw [List.pairwise_cons] at ha hb
    have e : x = y := by
      rcases List.mem_cons.1 ((h x).1 (List.mem_cons_self ..)) with e | hx
      · exact e
      · rcases List.mem_cons.1 ((h y).2 (List.mem_cons_self ..)) with e | hy
        · exact e.symm
        · have h1 := blt_asymm (hb.1 x hx)
          rw [ha.1 y hy] at h1
          cases h1
    subst e
    have ht := strict_eq ha.2 hb.2 (fun z => by
      constructor
      · intro hz
        rcases List.mem_cons.1 ((h z).1 (List.mem_cons_of_mem _ hz)) with e | hz'
        · subst e
          have := ha.1 z hz
          rw [blt_self] at this
          cases this
        · exact hz'
      · intro hz
        rcases List.mem_cons.1 ((h z).2 (List.mem_cons_of_mem _ hz)) with e | hz'
        · subst e
          have := hb.1 z hz
          rw [blt_self] at this
          cases this
        · exact hz')
    rw [ht]

/-! ### each in its place -/
theorem ins_mem (x z : List UInt8) : ∀ l : List (List UInt8), z ∈ insName x l ↔ z = x ∨ z ∈ l
  | [] => by simp [insName]
  | y :: l => by
    unfold insName
    split
    · simp
    · split
      · next h => subst h; simp
      · rw [List.mem_cons, ins_mem x z l, List.mem_cons]
        constructor
        · rintro (h | h | h)
          · exact .inr (.inl h)
          · exact .inl h
          · exact .inr (.inr h)
        · rintro (h | h | h)
          · exact .inr (.inl h)
          · exact .inl h
          · exact .inr (.inr h)
theorem ins_strict (x : List UInt8) : ∀ {l : List (List UInt8)}, l.Pairwise (fun x y => blt x y = true) → (insName x l).Pairwise (fun x y => blt x y = true)
  | [], _ => by simp [insName]
  | y :: l, h => by
    have h' := List.pairwise_cons.1 h
    unfold insName
    split
    · next g =>
      rw [List.pairwise_cons]
      refine ⟨fun z hz => ?_, h⟩
      rcases List.mem_cons.1 hz with rfl | hz
      · exact g
      · exact blt_trans g (h'.1 z hz)
    · next g =>
      split
      · exact h
      · next e =>
        rw [List.pairwise_cons]
        refine ⟨fun z hz => ?_, ins_strict x h'.2⟩
        rcases (ins_mem x z l).1 hz with rfl | hz
        · rcases blt_tri z y with k | k | k
          · exact absurd k g
          · exact absurd k e
          · exact k
        · exact h'.1 z hz
theorem fold_ins : ∀ (l acc : List (List UInt8)), acc.Pairwise (fun x y => blt x y = true) → (l.foldl (fun out x => insName x out) acc).Pairwise (fun x y => blt x y = true) ∧ ∀ z, z ∈ l.foldl (fun out x => insName x out) acc ↔ z ∈ l ∨ z ∈ acc
  | [], acc, h => ⟨h, fun z => by simp⟩
  | x :: l, acc, h => by
    obtain ⟨h1, h2⟩ := fold_ins l (insName x acc) (ins_strict x h)
    refine ⟨h1, fun z => ?_⟩
    rw [List.foldl_cons, h2, ins_mem, List.mem_cons]
    constructor
    · rintro (h | h | h)
      · exact .inl (.inr h)
      · exact .inl (.inl h)
      · exact .inr h
    · rintro ((h | h) | h)
      · exact .inr (.inl h)
      · exact .inl h
      · exact .inr (.inr h)

/-- The names of variables, in the terms' order. -/
def isNm (t : TM) : Bool := decide (t.op = 1 ∨ t.op = 2)
def nmsE (l : List TM) : List (List UInt8) := (l.filter isNm).map fun t => t.nm.data.toList
theorem nmsE_append (a b : List TM) : nmsE (a ++ b) = nmsE a ++ nmsE b := by simp [nmsE]
theorem names_fold : ∀ (l : List TM) (acc : List (List UInt8)), l.foldl (fun out t => if t.op = 1 ∨ t.op = 2 then insName t.nm.data.toList out else out) acc = (nmsE l).foldl (fun out x => insName x out) acc
  | [], _ => rfl
  | t :: l, acc => by
    rw [List.foldl_cons, names_fold l]
    by_cases h : t.op = 1 ∨ t.op = 2
    · rw [if_pos h]
      have e : nmsE (t :: l) = t.nm.data.toList :: nmsE l := by
        have : isNm t = true := by simp [isNm, h]
        simp [nmsE, this]
      rw [e, List.foldl_cons]
    · rw [if_neg h]
      have e : nmsE (t :: l) = nmsE l := by
        have : isNm t = false := by simp [isNm]; omega
        simp [nmsE, this]
      rw [e]

/-! ### sorted, each once -/
theorem compact_sorted (zs : List (List UInt8)) (hs : zs.Pairwise (fun x y => blt y x = false)) : ∀ m, m ≤ zs.length →
    (∀ x, x ∈ Lib.compactUpTo zs.toArray m ↔ x ∈ zs.take m) ∧ (Lib.compactUpTo zs.toArray m).Pairwise (fun x y => blt x y = true) := by
  intro m
  induction m with
  | zero => intro _; simp [Lib.compactUpTo]
  | succ m ih =>
    intro hm
    obtain ⟨h1, h2⟩ := ih (by omega)
    have hd : ∀ j (h : j < zs.length), zs.toArray[j]! = zs[j] := fun j h => by simp [h]
    have hle := List.pairwise_iff_getElem.1 hs
    rw [Lib.compactUpTo_succ, List.take_succ_eq_append_getElem (by omega : m < zs.length), hd m (by omega)]
    cases hk : Lib.keeps zs.toArray m
    · unfold Lib.keeps at hk
      rw [decide_eq_false_iff_not, not_or] at hk
      obtain ⟨k1, k2⟩ := hk
      have k3 : zs[m] = zs[m - 1] := by
        rw [hd m (by omega), hd (m - 1) (by omega)] at k2
        exact Classical.not_not.1 k2
      rw [if_neg (by simp), List.append_nil]
      refine ⟨fun x => ?_, h2⟩
      rw [h1, List.mem_append, List.mem_singleton]
      constructor
      · exact .inl
      · rintro (h | h)
        · exact h
        · subst h
          rw [k3, List.mem_take_iff_getElem]
          exact ⟨m - 1, by omega, rfl⟩
    · rw [if_pos rfl]
      refine ⟨fun x => ?_, ?_⟩
      · rw [List.mem_append, List.mem_append, h1]
      · rw [List.pairwise_append]
        refine ⟨h2, List.pairwise_singleton .., fun x hx y hy => ?_⟩
        rw [List.mem_singleton] at hy
        subst hy
        rw [h1, List.mem_take_iff_getElem] at hx
        obtain ⟨i, hi, rfl⟩ := hx
        unfold Lib.keeps at hk
        rw [decide_eq_true_iff] at hk
        have hmp : 0 < m := by omega
        have hne : zs[m] ≠ zs[m - 1] := by
          rcases hk with hk | hk
          · omega
          · rwa [hd m (by omega), hd (m - 1) (by omega)] at hk
        have h3 : blt zs[m - 1] zs[m] = true := by
          rcases blt_tri zs[m - 1] zs[m] with g | g | g
          · exact g
          · exact absurd g.symm hne
          · rw [hle (m - 1) m (by omega) (by omega) (by omega)] at g; cases g
        by_cases him : i = m - 1
        · subst him
          exact h3
        · have h4 := hle i (m - 1) (by omega) (by omega) (by omega)
          rcases blt_tri zs[i] zs[m - 1] with g | g | g
          · exact blt_trans g h3
          · rw [g]; exact h3
          · rw [h4] at g; cases g
theorem names_sorted (l : List TM) : Lib.compact ((nmsE l).mergeSort fun x y => decide (x ≤ y)) = namesE l := by
  have hsrt : ((nmsE l).mergeSort fun x y => decide (x ≤ y)).Pairwise (fun x y => blt y x = false) := by
    have h := List.pairwise_mergeSort (le := fun x y : List UInt8 => decide (x ≤ y)) (fun a b c h1 h2 => by
      rw [le_blt] at h1 h2 ⊢
      have h1' : blt b a = false := by simpa using h1
      have h2' : blt c b = false := by simpa using h2
      simpa using nlt_trans h1' h2') (fun a b => by
      rw [le_blt, le_blt]
      rcases blt_tri a b with g | rfl | g
      · simp [blt_asymm g]
      · simp [blt_self]
      · simp [blt_asymm g]) (nmsE l)
    exact h.imp fun {x y} h => by
      rw [le_blt] at h
      simpa using h
  obtain ⟨h1, h2⟩ := compact_sorted _ hsrt _ (Nat.le_refl _)
  have hn : namesE l = (nmsE l).foldl (fun out x => insName x out) [] := names_fold l []
  obtain ⟨h3, h4⟩ := fold_ins (nmsE l) [] List.Pairwise.nil
  rw [hn]
  refine strict_eq h2 h3 fun x => ?_
  show x ∈ Lib.compactUpTo _ _ ↔ _
  rw [h4, h1, List.take_length]
  simp
theorem names_len (l : List TM) : (namesE l).length ≤ l.length := by
  have h : ∀ (a acc : List (List UInt8)), (a.foldl (fun out x => insName x out) acc).length ≤ a.length + acc.length := by
    intro a
    induction a with
    | nil => intro acc; simp
    | cons x a ih =>
      intro acc
      have h1 := ih (insName x acc)
      have h2 : ∀ b : List (List UInt8), (insName x b).length ≤ b.length + 1 := by
        intro b
        induction b with
        | nil => simp [insName]
        | cons y b ihb =>
          unfold insName
          split
          · simp
          · split
            · simp
            · simp only [List.length_cons]; omega
      have h3 := h2 acc
      rw [List.foldl_cons, List.length_cons]
      omega
  have hn : namesE l = (nmsE l).foldl (fun out x => insName x out) [] := names_fold l []
  rw [hn]
  have h1 := h (nmsE l) []
  have h2 : (nmsE l).length ≤ l.length := by
    unfold nmsE
    rw [List.length_map]
    exact List.length_filter_le ..
  simp only [List.length_nil] at h1
  omega
end Go.Proofs.YtidomoibhjgkjaaGreatDoor

/-
  What expressions come to, in plain words: fuel, parts, names, numbers.
-/
namespace Go.Proofs.YtidomoibhjgkjaaGreatDoor
open Go.RowKit

theorem ofG_right (get : ByteArray → Option V) {e : List TM} (h : checkL e = 0) (f : Nat) : ofG get e f = match runG get e [] f with
    | (.inl st, m) => (st.headD V0, m, 0, [])
    | (.inr (x, p), m) => (V0, m, x, p) := by
  unfold ofG
  rw [if_neg (by simp [h])]
  rfl
theorem fuel_more (get : ByteArray → Option V) {e : List TM} (h : checkL e = 0) (k : Nat) : ofG get e (e.length + k) = ((ofG get e e.length).1, (ofG get e e.length).2.1 + k, (ofG get e e.length).2.2) := by
  rw [ofG_right get h, ofG_right get h, run_more get k e [] e.length (Nat.le_refl _)]
  cases hr : runG get e [] e.length with
  | mk x m =>
    cases x with
    | inl st => rfl
    | inr ep => rfl
theorem fuel_exact (get : ByteArray → Option V) {e : List TM} (h : checkL e = 0) : (ofG get e e.length).2.2.1 ≠ 60 ∧ ((ofG get e e.length).2.2.1 = 0 → (ofG get e e.length).2.1 = 0) := by
  rw [ofG_right get h]
  rcases run_exact get e [] with ⟨st, hr⟩ | ⟨x, p, m, hr, h1, h2⟩
  · rw [hr]
    exact ⟨by show (0 : Int) ≠ 60; decide, fun _ => rfl⟩
  · rw [hr]
    exact ⟨h2, fun hh => absurd hh h1⟩
theorem fuel_less (get : ByteArray → Option V) {e : List TM} (h : checkL e = 0) {f : Nat} (hf : f < e.length) : (ofG get e f).2.2.1 ≠ 0 ∧ ((ofG get e f).2.2.1 = 60 ∨ (ofG get e f).2.2.1 = (ofG get e e.length).2.2.1) := by
  rw [ofG_right get h, ofG_right get h]
  rcases run_less get e [] f hf with hr | ⟨x, p, m, k, hr, hk, h1⟩
  · rw [hr]
    exact ⟨by show (60 : Int) ≠ 0; decide, .inl rfl⟩
  · rw [hr, hk]
    exact ⟨h1, .inr rfl⟩
theorem fuel_le (get : ByteArray → Option V) : ∀ (l : List TM) (st : List V) (f : Nat), (runG get l st f).2 ≤ f
  | [], _, _ => Nat.le_refl _
  | _ :: _, _, 0 => Nat.le_refl _
  | t :: l, st, f + 1 => by
    simp only [runG]
    cases stepG get t st with
    | inl st' => exact Nat.le_succ_of_le (fuel_le get l st' f)
    | inr e => exact Nat.le_succ _
theorem right_go {l : List TM} (h0 : checkL l = 0) : checkGo 0 l = (0, 1) := by
  have h40 : ¬ 40 < l.length := fun h => by unfold checkL at h0; rw [if_pos h] at h0; cases h0
  unfold checkL at h0
  rw [if_neg h40] at h0
  by_cases g1 : (checkGo 0 l).1 = 0
  · rw [if_neg (by simp [g1])] at h0
    by_cases g2 : (checkGo 0 l).2 = 0
    · rw [if_pos g2] at h0; cases h0
    · rw [if_neg g2] at h0
      by_cases g3 : 1 < (checkGo 0 l).2
      · rw [if_pos g3] at h0; cases h0
      · exact Prod.ext g1 (by show (checkGo 0 l).2 = 1; omega)
  · rw [if_pos g1] at h0; exact absurd h0 g1
/-- What two parts come to is what they come to within. -/
theorem parts_of (get : ByteArray → Option V) {a b : List TM} {t : TM} (hop : 6 ≤ t.op ∧ t.op ≤ 18) (he : checkL (a ++ b ++ [t]) = 0) (ha : checkL a = 0) (hb : checkL b = 0) :
    ((ofG get a a.length).2.2.1 ≠ 0 → (ofG get (a ++ b ++ [t]) (a ++ b ++ [t]).length).2.2.1 = (ofG get a a.length).2.2.1 ∧ (ofG get (a ++ b ++ [t]) (a ++ b ++ [t]).length).2.1 + (a.length - (ofG get a a.length).2.1) = (a ++ b ++ [t]).length) ∧
    ((ofG get a a.length).2.2.1 = 0 → (ofG get b b.length).2.2.1 ≠ 0 → (ofG get (a ++ b ++ [t]) (a ++ b ++ [t]).length).2.2.1 = (ofG get b b.length).2.2.1) ∧
    ((ofG get a a.length).2.2.1 = 0 → (ofG get b b.length).2.2.1 = 0 → (ofG get (a ++ b ++ [t]) (a ++ b ++ [t]).length).1 = (twoV t.op (ofG get a a.length).1 (ofG get b b.length).1).1 ∧ (ofG get (a ++ b ++ [t]) (a ++ b ++ [t]).length).2.2.1 = (twoV t.op (ofG get a a.length).1 (ofG get b b.length).1).2 ∧ (ofG get (a ++ b ++ [t]) (a ++ b ++ [t]).length).2.1 = 0) := by
  have hlen : (a ++ b ++ [t]).length = a.length + (b.length + 1) := by simp
  rw [ofG_right get he, ofG_right get ha, ofG_right get hb, hlen, List.append_assoc, run_append]
  rw [run_more get (b.length + 1) a [] a.length (Nat.le_refl _)]
  have hle := fuel_le get a [] a.length
  rcases run_exact get a [] with ⟨sa, hra⟩ | ⟨x, p, m, hra, h1, h2⟩
  · rw [hra]
    have hla := run_len get a [] sa a.length 0 1 (right_go ha) hra
    obtain ⟨v, rfl⟩ := List.length_eq_one_iff.1 hla
    simp only [Nat.zero_add]
    rw [run_append, run_more get 1 b [v] b.length (Nat.le_refl _)]
    have hfr := run_frame get [v] b [] b.length 1 (right_go hb)
    rw [List.nil_append] at hfr
    rw [hfr]
    refine ⟨fun h => absurd rfl h, ?_, ?_⟩
    · intro _ hy
      rcases run_exact get b [] with ⟨sb, hrb⟩ | ⟨x, p, m, hrb, h1, h2⟩
      · rw [hrb] at hy; exact absurd rfl hy
      · rw [hrb]
    · intro _ hy
      rcases run_exact get b [] with ⟨sb, hrb⟩ | ⟨x, p, m, hrb, h1, h2⟩
      · rw [hrb]
        have hlb := run_len get b [] sb b.length 0 1 (right_go hb) hrb
        obtain ⟨w, rfl⟩ := List.length_eq_one_iff.1 hlb
        have hst : stepG get t [w, v] = if (twoV t.op v w).2 = 0 then .inl [(twoV t.op v w).1] else .inr ((twoV t.op v w).2, []) := by
          unfold stepG
          rw [if_neg (by omega), if_neg (by omega), if_neg (by omega), if_neg (by omega)]
        show (match runG get [t] [w, v] 1 with
          | (.inl st, m) => (st.headD V0, m, (0 : Int), ([] : List ByteArray))
          | (.inr (x, p), m) => (V0, m, x, p)).1 = _ ∧ _
        simp only [runG, List.singleton_append, List.headD_cons]
        rw [hst]
        by_cases h0 : (twoV t.op v w).2 = 0
        · rw [if_pos h0]
          exact ⟨rfl, h0.symm, rfl⟩
        · rw [if_neg h0]
          refine ⟨?_, rfl, rfl⟩
          rcases twoV_err t.op v w with g | ⟨_, g⟩
          · exact absurd g h0
          · exact g.symm
      · rw [hrb] at hy; exact absurd hy h1
  · rw [hra] at hle ⊢
    have hle : m ≤ a.length := hle
    exact ⟨fun _ => ⟨rfl, by show m + (b.length + 1) + (a.length - m) = _; omega⟩, fun h => absurd h h1, fun h => absurd h h1⟩
theorem other_of {get get' : ByteArray → Option V} {e : List TM} (h : ∀ t ∈ e, t.op = 1 ∨ t.op = 2 → get t.nm = get' t.nm) (f : Nat) : ofG get e f = ofG get' e f := by
  unfold ofG
  rw [run_other e [] f h]
theorem names_mem (l : List TM) (x : List UInt8) : x ∈ namesE l ↔ ∃ t ∈ l, (t.op = 1 ∨ t.op = 2) ∧ t.nm.data.toList = x := by
  have hn : namesE l = (nmsE l).foldl (fun out x => insName x out) [] := names_fold l []
  rw [hn, (fold_ins (nmsE l) [] List.Pairwise.nil).2]
  simp [nmsE, isNm]
  constructor
  · rintro ⟨t, ⟨h1, h2⟩, h3⟩
    exact ⟨t, h1, h2, h3⟩
  · rintro ⟨t, h1, h2, h3⟩
    exact ⟨t, ⟨h1, h2⟩, h3⟩

/-! ### numbers -/
def inI (n : Int) : Prop := -9223372036854775808 ≤ n ∧ n ≤ 9223372036854775807
theorem fitV_in {n : Int} (h : inI n) : fitV n = (numG n, 0) := if_pos h
theorem fitV_out {n : Int} (h : ¬ inI n) : fitV n = (V0, 9) := if_neg h
theorem two_nums {op m n : Int} (h : op = 6 ∨ op = 7 ∨ op = 8 ∨ op = 9 ∨ op = 10) : twoV op (numG m) (numG n) = numsV op m n := by
  unfold twoV
  rw [if_neg (by omega), if_neg (by omega), if_neg (by omega), if_neg (by omega), if_neg (by intro hh; exact hh ⟨rfl, .inl rfl⟩), if_neg (by omega), if_neg (by show ¬ (1 : Int) = 3; decide)]
  rfl
theorem tdiv_in {m n : Int} (hm : inI m) (hn : n ≠ 0) (h : ¬ (m = -9223372036854775808 ∧ n = -1)) : inI (m.tdiv n) := by
  have h1 : (m.tdiv n).natAbs = m.natAbs / n.natAbs := Int.natAbs_tdiv m n
  have h2 : m.natAbs / n.natAbs ≤ m.natAbs := Nat.div_le_self _ _
  obtain ⟨a, b⟩ := hm
  by_cases hm' : m = -9223372036854775808
  · by_cases h1n : n = 1
    · subst h1n
      rw [Int.tdiv_one]
      exact ⟨a, b⟩
    · have h3 : 2 ≤ n.natAbs := by omega
      have h4 : m.natAbs / n.natAbs ≤ m.natAbs / 2 := Nat.div_le_div_left h3 (by decide)
      unfold inI
      omega
  · unfold inI
    omega
theorem tmod_in {m n : Int} (hm : inI m) : inI (m.tmod n) := by
  have h1 : (m.tmod n).natAbs = m.natAbs % n.natAbs := Int.natAbs_tmod m n
  have h2 : m.natAbs % n.natAbs ≤ m.natAbs := Nat.mod_le _ _
  obtain ⟨a, b⟩ := hm
  by_cases hm0 : 0 ≤ m
  · have := Int.tmod_nonneg n hm0
    unfold inI
    omega
  · have : m.tmod n ≤ 0 := by
      have h3 := Int.tmod_nonneg n (a := -m) (by omega)
      rw [Int.neg_tmod] at h3
      omega
    unfold inI
    omega
theorem tmod_sign (m n : Int) : m.tmod n = 0 ∨ ((m.tmod n < 0) ↔ (m < 0)) := by
  by_cases hm0 : 0 ≤ m
  · have := Int.tmod_nonneg n hm0
    by_cases h : m.tmod n = 0
    · exact .inl h
    · exact .inr ⟨fun _ => by omega, fun _ => by omega⟩
  · have h3 := Int.tmod_nonneg n (a := -m) (by omega)
    rw [Int.neg_tmod] at h3
    by_cases h : m.tmod n = 0
    · exact .inl h
    · exact .inr ⟨fun _ => by omega, fun _ => by omega⟩
theorem tmod_lt' {m n : Int} (hn : n ≠ 0) : (m.tmod n).natAbs < n.natAbs := by
  rw [Int.natAbs_tmod]
  exact Nat.mod_lt _ (by omega)
theorem div_mod (m n : Int) : m.tdiv n * n + m.tmod n = m := by
  have := Int.tmod_add_tdiv_mul m n
  rw [Int.add_comm]
  exact this
theorem prod_in {m n : Int} (hm : inI m) : inI (m.tdiv n * n) := by
  have h := div_mod m n
  have h1 := tmod_sign m n
  have h2 : (m.tmod n).natAbs ≤ m.natAbs := by rw [Int.natAbs_tmod]; exact Nat.mod_le _ _
  obtain ⟨a, b⟩ := hm
  unfold inI
  omega
end Go.Proofs.YtidomoibhjgkjaaGreatDoor
