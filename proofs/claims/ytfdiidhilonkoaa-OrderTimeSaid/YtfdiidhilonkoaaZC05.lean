import Derived.Test.YtfdiidhilonkoaaZC04
import Derived.Test.YtfdiidhilonkoaaZC02
set_option linter.unusedVariables false
/-
  Stores in plain words: keys with chains, rising; read, scanned, committed to, collected.
-/
namespace Go.Proofs.Ytfdiidhilonkoaa
open Go.RowKit

abbrev KeyS := List UInt8
abbrev KsS := List (KeyS × List Ver)
/-- A write: its key, whether it is gone then, its bytes. -/
structure Wr where
  key : KeyS
  gone : Bool
  dat : List UInt8
/-- Limits, as far as a store looks at them. -/
structure LimS where
  keys : Int
  vers : Int
  byts : Int
  last : Nat
structure PS where
  time : Nat
  K : KsS
def chainS (K : KsS) (k : KeyS) : List Ver := ((K.find? fun x => x.1 == k).map Prod.snd).getD []
def readS (K : KsS) (k : KeyS) (t : Nat) : Option (List UInt8) := getH (chainS K k) t
def inS (lo hi k : KeyS) : Bool := !blt k lo && (hi.isEmpty || blt k hi)
def scanOne (lo hi : KeyS) (t : Nat) (x : KeyS × List Ver) : Option (KeyS × List UInt8) := if inS lo hi x.1 = true then (getH x.2 t).map fun b => (x.1, b) else none
def scanS (K : KsS) (lo hi : KeyS) (t : Nat) : List (KeyS × List UInt8) := K.filterMap (scanOne lo hi t)
/-- What is wrong with writes, behind one of the key last. -/
def checkS : KeyS → List Wr → Int
  | _, [] => 0
  | last, w :: l => if 256 < w.key.length ∨ 4096 < w.dat.length then 3 else if blt last w.key = false ∨ okVer ⟨0, w.gone, w.dat⟩ = false then 1 else checkS w.key l
def versS (K : KsS) : Nat := (K.map fun x => x.2.length).sum
def bytsS (K : KsS) : Nat := (K.map fun x => x.1.length + sizeH x.2).sum
def putS (K : KsS) (k : KeyS) (c : List Ver) : KsS := K.filter (fun x => blt x.1 k) ++ (if c.isEmpty = true then [] else [(k, c)]) ++ K.filter (fun x => blt k x.1)
/-- A chain with a version more. -/
def addH (l : List Ver) (v : Ver) : List Ver := if (rightC l && rightC [v]) = true then if v.tm ≤ lastH l then [] else l ++ [v] else []
def comesS (st : PS) (w : Wr) : Bool := !(w.gone && (readS st.K w.key st.time).isNone)
def verW (st : PS) (w : Wr) : Ver := ⟨st.time + 1, w.gone, w.dat⟩
def withOne (st : PS) (K : KsS) (w : Wr) : KsS := if comesS st w = true then putS K w.key (addH (chainS st.K w.key) (verW st w)) else K
def withS (st : PS) (l : List Wr) : KsS := l.foldl (withOne st) st.K
def fitsS (L : LimS) (K : KsS) : Bool := decide ((K.length : Int) ≤ L.keys) && decide ((versS K : Int) ≤ L.vers) && decide ((bytsS K : Int) ≤ L.byts)
def trimOne (low : Nat) (x : KeyS × List Ver) : Option (KeyS × List Ver) := if (trimH x.2 low).isEmpty = true then none else some (x.1, trimH x.2 low)
def collectS (K : KsS) (low : Nat) : KsS := K.filterMap (trimOne low)
/-- What stands ahead of a commit that has room, or not. -/
def roomS (L : LimS) (st : PS) (l : List Wr) (low : Nat) : PS := if fitsS L (withS st l) = true then st else ⟨st.time, collectS st.K low⟩
def commitS (L : LimS) (st : PS) (l : List Wr) (low : Nat) : PS × Nat × Int :=
  if checkS [] l ≠ 0 then (st, 0, checkS [] l)
  else if l = [] then (st, st.time, 0)
  else if st.time = L.last then (st, 0, 5)
  else if fitsS L (withS (roomS L st l low) l) = true then (⟨st.time + 1, withS (roomS L st l low) l⟩, st.time + 1, 0)
  else (roomS L st l low, 0, 5)

/-! ### order -/
theorem blt_ne {a b : List UInt8} (h : blt a b = true) : a ≠ b := fun e => by
  subst e
  rw [blt_self] at h
  cases h
theorem beq_neB {a b : List UInt8} (h : a ≠ b) : (a == b) = false := by rw [beq_eq_false_iff_ne]; exact h
theorem rise_ext {α : Type} (f : α → List UInt8) : ∀ {a b : List α}, a.Pairwise (fun x y => blt (f x) (f y) = true) → b.Pairwise (fun x y => blt (f x) (f y) = true) → (∀ x, x ∈ a ↔ x ∈ b) → a = b
  | [], [], _, _, _ => rfl
  | [], y :: b, _, _, h => absurd ((h y).2 (List.mem_cons_self ..)) (by simp)
  | x :: a, [], _, _, h => absurd ((h x).1 (List.mem_cons_self ..)) (by simp)
  | x :: a, y :: b, ha, hb, h => by
    rw [List.pairwise_cons] at ha hb
    have e : x = y := by
      rcases List.mem_cons.1 ((h x).1 (List.mem_cons_self ..)) with e | hx
      · exact e
      · rcases List.mem_cons.1 ((h y).2 (List.mem_cons_self ..)) with e | hy
        · exact e.symm
        · have h1 := blt_asymm (hb.1 x hx)
          rw [ha.1 y hy] at h1
          cases h1
    subst e
    have ht := rise_ext f ha.2 hb.2 (fun z => by
      constructor
      · intro hz
        rcases List.mem_cons.1 ((h z).1 (List.mem_cons_of_mem _ hz)) with e | hz'
        · subst e
          exact absurd rfl (blt_ne (ha.1 z hz))
        · exact hz'
      · intro hz
        rcases List.mem_cons.1 ((h z).2 (List.mem_cons_of_mem _ hz)) with e | hz'
        · subst e
          exact absurd rfl (blt_ne (hb.1 z hz))
        · exact hz')
    rw [ht]

/-! ### chains of keys -/
def SortS (K : KsS) : Prop := K.Pairwise (fun x y => blt x.1 y.1 = true)
def FullS (K : KsS) : Prop := ∀ x ∈ K, x.2 ≠ []
theorem chainS_nil (k : KeyS) : chainS [] k = [] := rfl
theorem chainS_cons (x : KeyS × List Ver) (K : KsS) (k : KeyS) : chainS (x :: K) k = if x.1 = k then x.2 else chainS K k := by
  unfold chainS
  rw [List.find?_cons]
  by_cases h : x.1 = k
  · rw [if_pos h, h, beq_self_eq_true]
    rfl
  · rw [if_neg h, beq_neB h]
theorem chainS_no {K : KsS} {k : KeyS} (h : ∀ x ∈ K, x.1 ≠ k) : chainS K k = [] := by
  induction K with
  | nil => rfl
  | cons x K ih =>
    rw [chainS_cons, if_neg (h x (List.mem_cons_self ..))]
    exact ih fun y hy => h y (List.mem_cons_of_mem _ hy)
theorem SortS.tail {x : KeyS × List Ver} {K : KsS} (h : SortS (x :: K)) : SortS K := (List.pairwise_cons.1 h).2
theorem SortS.head {x : KeyS × List Ver} {K : KsS} (h : SortS (x :: K)) : ∀ y ∈ K, blt x.1 y.1 = true := (List.pairwise_cons.1 h).1
theorem chainS_mem {K : KsS} (h : SortS K) {x : KeyS × List Ver} (hx : x ∈ K) : chainS K x.1 = x.2 := by
  induction K with
  | nil => cases hx
  | cons y K ih =>
    rw [chainS_cons]
    rcases List.mem_cons.1 hx with rfl | hx
    · rw [if_pos rfl]
    · rw [if_neg (blt_ne (h.head x hx))]
      exact ih h.tail hx
theorem chainS_some {K : KsS} {k : KeyS} (h : chainS K k ≠ []) : (k, chainS K k) ∈ K := by
  induction K with
  | nil => exact absurd rfl h
  | cons y K ih =>
    rw [chainS_cons] at h ⊢
    by_cases e : y.1 = k
    · rw [if_pos e]
      subst e
      exact List.mem_cons_self ..
    · rw [if_neg e] at h ⊢
      exact List.mem_cons_of_mem _ (ih h)
theorem store_ext {K K' : KsS} (h : SortS K) (h' : SortS K') (hf : FullS K) (hf' : FullS K') (he : ∀ k, chainS K k = chainS K' k) : K = K' := by
  refine rise_ext Prod.fst h h' fun x => ?_
  constructor
  · intro hx
    have e := chainS_mem h hx
    have h2 : chainS K' x.1 ≠ [] := by rw [← he, e]; exact hf x hx
    have h3 := chainS_some h2
    rw [← he, e] at h3
    exact h3
  · intro hx
    have e := chainS_mem h' hx
    have h2 : chainS K x.1 ≠ [] := by rw [he, e]; exact hf' x hx
    have h3 := chainS_some h2
    rw [he, e] at h3
    exact h3

/-! ### a key has another chain -/
theorem mem_putS {K : KsS} {k : KeyS} {c : List Ver} {x : KeyS × List Ver} : x ∈ putS K k c ↔ (x ∈ K ∧ blt x.1 k = true) ∨ (x = (k, c) ∧ c ≠ []) ∨ (x ∈ K ∧ blt k x.1 = true) := by
  unfold putS
  rw [List.mem_append, List.mem_append, List.mem_filter, List.mem_filter]
  cases c with
  | nil => simp
  | cons v c => simp [or_assoc]
theorem sort_put {K : KsS} (h : SortS K) (k : KeyS) (c : List Ver) : SortS (putS K k c) := by
  unfold putS SortS
  rw [List.pairwise_append, List.pairwise_append]
  refine ⟨⟨List.Pairwise.filter _ h, ?_, ?_⟩, List.Pairwise.filter _ h, ?_⟩
  · cases c <;> simp
  · intro a ha b hb
    cases c with
    | nil => simp at hb
    | cons v c =>
      have hb : b = (k, v :: c) := by simpa using hb
      subst hb
      exact (List.mem_filter.1 ha).2
  · intro a ha b hb
    have hb2 := (List.mem_filter.1 hb).2
    rcases List.mem_append.1 ha with ha | ha
    · exact blt_trans (List.mem_filter.1 ha).2 hb2
    · cases c with
      | nil => simp at ha
      | cons v c =>
        have ha : a = (k, v :: c) := by simpa using ha
        subst ha
        exact hb2
theorem full_put {K : KsS} (h : FullS K) (k : KeyS) (c : List Ver) : FullS (putS K k c) := fun x hx => by
  rcases mem_putS.1 hx with ⟨h1, _⟩ | ⟨rfl, h1⟩ | ⟨h1, _⟩
  · exact h x h1
  · exact h1
  · exact h x h1
theorem chainS_of {K : KsS} (h : SortS K) {k : KeyS} {c : List Ver} (hm : c ≠ [] → (k, c) ∈ K) (hn : c = [] → ∀ x ∈ K, x.1 ≠ k) : chainS K k = c := by
  by_cases hc : c = []
  · rw [hc]
    exact chainS_no (hn hc)
  · exact chainS_mem h (hm hc)
theorem chain_put {K : KsS} (h : SortS K) (hf : FullS K) (k : KeyS) (c : List Ver) (k' : KeyS) : chainS (putS K k c) k' = if k' = k then c else chainS K k' := by
  by_cases e : k' = k
  · subst e
    rw [if_pos rfl]
    refine chainS_of (sort_put h k' c) (fun hc => mem_putS.2 (.inr (.inl ⟨rfl, hc⟩))) fun hc x hx => ?_
    rcases mem_putS.1 hx with ⟨_, h1⟩ | ⟨_, h1⟩ | ⟨_, h1⟩
    · exact blt_ne h1
    · exact absurd hc h1
    · exact fun e => blt_ne h1 e.symm
  · rw [if_neg e]
    refine chainS_of (sort_put h k c) (fun hc => ?_) fun hc x hx ex => ?_
    · have hm := chainS_some hc
      rcases blt_tri k' k with g | g | g
      · exact mem_putS.2 (.inl ⟨hm, g⟩)
      · exact absurd g e
      · exact mem_putS.2 (.inr (.inr ⟨hm, g⟩))
    · have no : x ∈ K → False := fun hm => by
        have h1 := chainS_mem h hm
        rw [ex, hc] at h1
        exact hf x hm h1.symm
      rcases mem_putS.1 hx with ⟨h1, _⟩ | ⟨rfl, _⟩ | ⟨h1, _⟩
      · exact no h1
      · exact e ex.symm
      · exact no h1

/-! ### sizes -/
def sumS (m : KeyS → List Ver → Nat) (K : KsS) : Nat := (K.map fun x => m x.1 x.2).sum
theorem sumS_cons (m : KeyS → List Ver → Nat) (x : KeyS × List Ver) (K : KsS) : sumS m (x :: K) = m x.1 x.2 + sumS m K := by simp [sumS]
theorem sumS_app (m : KeyS → List Ver → Nat) (a b : KsS) : sumS m (a ++ b) = sumS m a + sumS m b := by simp [sumS]
def m1 : KeyS → List Ver → Nat := fun _ c => if c = [] then 0 else 1
def m2 : KeyS → List Ver → Nat := fun _ c => c.length
def m3 : KeyS → List Ver → Nat := fun k c => if c = [] then 0 else k.length + sizeH c
theorem len_sum {K : KsS} (hf : FullS K) : K.length = sumS m1 K := by
  induction K with
  | nil => rfl
  | cons x K ih =>
    rw [sumS_cons, List.length_cons, ih fun y hy => hf y (List.mem_cons_of_mem _ hy)]
    have := hf x (List.mem_cons_self ..)
    unfold m1
    rw [if_neg this]
    omega
theorem vers_sum (K : KsS) : versS K = sumS m2 K := rfl
theorem byts_sum {K : KsS} (hf : FullS K) : bytsS K = sumS m3 K := by
  induction K with
  | nil => rfl
  | cons x K ih =>
    have e : bytsS (x :: K) = x.1.length + sizeH x.2 + bytsS K := by simp [bytsS]
    rw [sumS_cons, e, ih fun y hy => hf y (List.mem_cons_of_mem _ hy)]
    have := hf x (List.mem_cons_self ..)
    unfold m3
    rw [if_neg this]
/-- A key's part of the sum, and that of the others. -/
theorem sum_part {m : KeyS → List Ver → Nat} (h0 : ∀ k, m k [] = 0) {K : KsS} (h : SortS K) (k : KeyS) : sumS m K = m k (chainS K k) + sumS m (K.filter fun x => decide (x.1 ≠ k)) := by
  induction K with
  | nil => simp [sumS, chainS_nil, h0]
  | cons x K ih =>
    rw [sumS_cons, chainS_cons, List.filter_cons]
    by_cases e : x.1 = k
    · have hall : K.filter (fun x => decide (x.1 ≠ k)) = K := List.filter_eq_self.2 fun y hy => by
        have := blt_ne (h.head y hy)
        rw [e] at this
        simpa using fun e => this e.symm
      rw [if_pos e, if_neg (by simp [e]), hall, e]
    · rw [if_neg e, if_pos (by simp [e]), sumS_cons, ih h.tail]
      omega
theorem chain_other {K : KsS} {k k' : KeyS} (h : k' ≠ k) : chainS (K.filter fun x => decide (x.1 ≠ k)) k' = chainS K k' := by
  induction K with
  | nil => rfl
  | cons x K ih =>
    rw [List.filter_cons]
    by_cases e : x.1 = k
    · rw [if_neg (by simp [e]), ih, chainS_cons, if_neg (by rw [e]; exact fun e => h e.symm)]
    · rw [if_pos (by simp [e]), chainS_cons, chainS_cons, ih]
theorem chain_struck {K : KsS} {k : KeyS} : chainS (K.filter fun x => decide (x.1 ≠ k)) k = [] := chainS_no fun x hx => by simpa using (List.mem_filter.1 hx).2
theorem sort_filter {K : KsS} (h : SortS K) (p : KeyS × List Ver → Bool) : SortS (K.filter p) := List.Pairwise.filter _ h
theorem sum_le {m : KeyS → List Ver → Nat} (h0 : ∀ k, m k [] = 0) : ∀ {K K' : KsS}, SortS K → SortS K' → (∀ k, m k (chainS K k) ≤ m k (chainS K' k)) → sumS m K ≤ sumS m K'
  | [], _, _, _, _ => Nat.zero_le _
  | x :: K, K', h, h', hle => by
    rw [sumS_cons, sum_part h0 h' x.1]
    have h1 := hle x.1
    rw [chainS_cons, if_pos rfl] at h1
    have h2 := sum_le h0 h.tail (sort_filter h' fun y => decide (y.1 ≠ x.1)) fun k => by
      by_cases e : k = x.1
      · subst e
        rw [chainS_no fun y hy => fun e => blt_ne (h.head y hy) e.symm, h0]
        exact Nat.zero_le _
      · rw [chain_other e]
        have := hle k
        rw [chainS_cons, if_neg (fun e2 => e e2.symm)] at this
        exact this
    omega
theorem sum_put {m : KeyS → List Ver → Nat} (h0 : ∀ k, m k [] = 0) {K : KsS} (h : SortS K) (hf : FullS K) (k : KeyS) (c : List Ver) : sumS m (putS K k c) + m k (chainS K k) = sumS m K + m k c := by
  have h1 := sum_part h0 (sort_put h k c) k
  have h2 := sum_part h0 h k
  rw [chain_put h hf, if_pos rfl] at h1
  have e : sumS m ((putS K k c).filter fun x => decide (x.1 ≠ k)) = sumS m (K.filter fun x => decide (x.1 ≠ k)) := by
    apply Nat.le_antisymm
    · refine sum_le h0 (sort_filter (sort_put h k c) _) (sort_filter h _) fun k' => ?_
      by_cases e : k' = k
      · subst e
        rw [chain_struck, h0]
        exact Nat.zero_le _
      · rw [chain_other e, chain_other e, chain_put h hf, if_neg e]
        exact Nat.le_refl _
    · refine sum_le h0 (sort_filter h _) (sort_filter (sort_put h k c) _) fun k' => ?_
      by_cases e : k' = k
      · subst e
        rw [chain_struck, h0]
        exact Nat.zero_le _
      · rw [chain_other e, chain_other e, chain_put h hf, if_neg e]
        exact Nat.le_refl _
  omega
end Go.Proofs.Ytfdiidhilonkoaa
