import Derived.WalkKit
import Derived.Test.YtfdiidhilonkoaaZC01
set_option linter.unusedVariables false
/-
  Chains in plain words: right, asked, put, trimmed; and what follows.
-/
namespace Go.Proofs.Ytfdiidhilonkoaa

/-- A version: its time, whether the key is gone, its bytes. -/
structure Ver where
  tm : Nat
  gone : Bool
  dat : List UInt8
def okVer (v : Ver) : Bool := !(v.gone && decide (0 < v.dat.length))
/-- Are the times rising, from above t on, and has none that is gone bytes? -/
def rightH : Nat → List Ver → Bool
  | _, [] => true
  | t, v :: l => decide (t < v.tm) && okVer v && rightH v.tm l
def rightC (l : List Ver) : Bool := rightH 0 l
def findH (l : List Ver) (t : Nat) : Option Ver := (l.filter fun v => decide (v.tm ≤ t)).getLast?
def getOf : Option Ver → Option (List UInt8)
  | some v => if v.gone = true then none else some v.dat
  | none => none
def getH (l : List Ver) (t : Nat) : Option (List UInt8) := getOf (findH l t)
def lastH (l : List Ver) : Nat := match l.getLast? with | some v => v.tm | none => 0
def keepH : Option Ver → List Ver
  | some v => if v.gone = true then [] else [v]
  | none => []
theorem keep_gone {v : Ver} (h : v.gone = true) : keepH (some v) = [] := if_pos h
theorem keep_not {v : Ver} (h : v.gone = false) : keepH (some v) = [v] := if_neg (by simp [h])
theorem of_gone {v : Ver} (h : v.gone = true) : getOf (some v) = none := if_pos h
def trimH (l : List Ver) (low : Nat) : List Ver := keepH (findH l low) ++ l.filter fun v => decide (low < v.tm)
def sizeH (l : List Ver) : Nat := (l.map fun v => v.dat.length).sum

theorem right_iff : ∀ (l : List Ver) (t : Nat), rightH t l = true ↔ (∀ v ∈ l, t < v.tm ∧ okVer v = true) ∧ l.Pairwise (fun a b => a.tm < b.tm)
  | [], t => by simp [rightH]
  | v :: l, t => by
    rw [rightH, Bool.and_eq_true, Bool.and_eq_true, decide_eq_true_iff, right_iff l v.tm, List.pairwise_cons]
    constructor
    · rintro ⟨⟨h1, h2⟩, h3, h4⟩
      refine ⟨fun x hx => ?_, fun x hx => (h3 x hx).1, h4⟩
      rcases List.mem_cons.1 hx with rfl | hx
      · exact ⟨h1, h2⟩
      · exact ⟨Nat.lt_trans h1 (h3 x hx).1, (h3 x hx).2⟩
    · rintro ⟨h1, h2, h3⟩
      exact ⟨h1 v (List.mem_cons_self ..), fun x hx => ⟨h2 x hx, (h1 x (List.mem_cons_of_mem _ hx)).2⟩, h3⟩
/-- A rising list: what is up to a time, and what is behind. -/
theorem filter_parts {l : List Ver} (h : l.Pairwise (fun a b => a.tm < b.tm)) {a b : Nat} (hab : a ≤ b) :
    (l.filter fun v => decide (v.tm ≤ b)) = (l.filter fun v => decide (v.tm ≤ a)) ++ (l.filter fun v => decide (a < v.tm) && decide (v.tm ≤ b)) := by
  induction l with
  | nil => rfl
  | cons v l ih =>
    have h' := List.pairwise_cons.1 h
    have ih := ih h'.2
    by_cases h1 : v.tm ≤ a
    · have h2 : v.tm ≤ b := by omega
      have h3 : ¬ a < v.tm := by omega
      simp only [List.filter_cons, h1, h2, h3, decide_true, decide_false, Bool.false_and, if_true, if_false, List.cons_append, Bool.false_eq_true]
      rw [ih]
    · have h3 : a < v.tm := by omega
      have hn : (l.filter fun v => decide (v.tm ≤ a)) = [] := by
        rw [List.filter_eq_nil_iff]
        intro x hx
        have := h'.1 x hx
        simp; omega
      rw [hn, List.nil_append] at ih
      by_cases h2 : v.tm ≤ b
      · simp only [List.filter_cons, h1, h2, h3, decide_true, decide_false, Bool.true_and, if_true, if_false, Bool.false_eq_true]
        rw [hn, ih]
        rfl
      · simp only [List.filter_cons, h1, h2, h3, decide_true, decide_false, Bool.and_false, if_false, Bool.false_eq_true]
        rw [hn, ih]
        rfl
theorem keep_le {l : List Ver} {t : Nat} : ∀ v ∈ keepH (findH l t), v.tm ≤ t ∧ v.gone = false ∧ v ∈ l := by
  intro v hv
  cases hf : findH l t with
  | none => rw [hf] at hv; cases hv
  | some x =>
    rw [hf] at hv
    cases hg : x.gone
    · rw [keep_not hg, List.mem_singleton] at hv
      subst hv
      have hm := List.mem_of_getLast? hf
      rw [List.mem_filter, decide_eq_true_iff] at hm
      exact ⟨hm.2, hg, hm.1⟩
    · rw [keep_gone hg] at hv
      cases hv
theorem keep_few (o : Option Ver) : (keepH o).length ≤ 1 := by
  cases o with
  | none => exact Nat.zero_le _
  | some v =>
    cases hg : v.gone
    · rw [keep_not hg]
      exact Nat.le_refl _
    · rw [keep_gone hg]
      exact Nat.zero_le _
/-- What is found in a trimmed chain, from low on: what was found, or nothing where that is gone. -/
theorem find_trim {l : List Ver} (h : l.Pairwise (fun a b => a.tm < b.tm)) {low t : Nat} (ht : low ≤ t) :
    findH (trimH l low) t = findH l t ∨ (findH (trimH l low) t = none ∧ ∃ v, findH l t = some v ∧ v.gone = true) := by
  have e : ((trimH l low).filter fun v => decide (v.tm ≤ t)) = keepH (findH l low) ++ (l.filter fun v => decide (low < v.tm) && decide (v.tm ≤ t)) := by
    unfold trimH
    rw [List.filter_append, List.filter_filter]
    congr 1
    · rw [List.filter_eq_self]
      intro v hv
      have := (keep_le v hv).1
      rw [decide_eq_true_iff]
      omega
    · congr 1
      funext v
      exact Bool.and_comm _ _
  unfold findH
  rw [e, filter_parts h ht]
  cases hs : (l.filter fun v => decide (low < v.tm) && decide (v.tm ≤ t)) with
  | cons x r =>
    left
    rw [List.getLast?_append, List.getLast?_append]
    have : ∃ y, (x :: r).getLast? = some y := ⟨_, List.getLast?_eq_some_getLast (by simp)⟩
    obtain ⟨y, hy⟩ := this
    rw [hy]
    rfl
  | nil =>
    rw [List.append_nil, List.append_nil]
    show (keepH (findH l low)).getLast? = findH l low ∨ _ = _ ∧ ∃ v, findH l low = some v ∧ _
    cases hf : findH l low with
    | none => exact .inl rfl
    | some v =>
      cases hg : v.gone
      · left
        rw [keep_not hg]
        rfl
      · right
        refine ⟨?_, v, rfl, hg⟩
        rw [keep_gone hg]
        rfl
theorem get_trim {l : List Ver} (h : l.Pairwise (fun a b => a.tm < b.tm)) {low t : Nat} (ht : low ≤ t) : getH (trimH l low) t = getH l t := by
  unfold getH
  rcases find_trim h ht with e | ⟨e, v, e2, hg⟩
  · rw [e]
  · rw [e, e2, of_gone hg]
    rfl
theorem trim_pair {l : List Ver} (h : l.Pairwise (fun a b => a.tm < b.tm)) (low : Nat) : (trimH l low).Pairwise (fun a b => a.tm < b.tm) := by
  unfold trimH
  rw [List.pairwise_append]
  refine ⟨?_, h.filter _, ?_⟩
  · cases hk : keepH (findH l low) with
    | nil => exact List.Pairwise.nil
    | cons x r =>
      have := keep_few (findH l low)
      rw [hk, List.length_cons] at this
      have : r = [] := List.eq_nil_of_length_eq_zero (by omega)
      rw [this]
      exact List.pairwise_singleton ..
  · intro a ha b hb
    have h1 := (keep_le a ha).1
    have h2 := (List.mem_filter.1 hb).2
    rw [decide_eq_true_iff] at h2
    omega
theorem trim_mem {l : List Ver} {low : Nat} {v : Ver} (h : v ∈ trimH l low) : v ∈ l := by
  unfold trimH at h
  rcases List.mem_append.1 h with h | h
  · exact (keep_le v h).2.2
  · exact (List.mem_filter.1 h).1
theorem right_trim {l : List Ver} (h : rightC l = true) (low : Nat) : rightC (trimH l low) = true := by
  obtain ⟨h1, h2⟩ := (right_iff l 0).1 h
  exact (right_iff _ 0).2 ⟨fun v hv => h1 v (trim_mem hv), trim_pair h2 low⟩
theorem trim_low {l : List Ver} (low : Nat) : ((trimH l low).filter fun v => decide (v.tm ≤ low)) = keepH (findH l low) := by
  unfold trimH
  rw [List.filter_append, List.filter_filter]
  have h1 : ((keepH (findH l low)).filter fun v => decide (v.tm ≤ low)) = keepH (findH l low) := by
    rw [List.filter_eq_self]
    intro v hv
    rw [decide_eq_true_iff]
    exact (keep_le v hv).1
  have h2 : (l.filter fun v => decide (v.tm ≤ low) && decide (low < v.tm)) = [] := by
    rw [List.filter_eq_nil_iff]
    intro x _
    simp
  rw [h1, h2, List.append_nil]
theorem trim_high {l : List Ver} {low less : Nat} (h : less ≤ low) : ((trimH l less).filter fun v => decide (low < v.tm)) = l.filter fun v => decide (low < v.tm) := by
  unfold trimH
  rw [List.filter_append, List.filter_filter]
  have h1 : ((keepH (findH l less)).filter fun v => decide (low < v.tm)) = [] := by
    rw [List.filter_eq_nil_iff]
    intro v hv
    have := (keep_le v hv).1
    simp; omega
  rw [h1, List.nil_append]
  congr 1
  funext v
  by_cases h2 : low < v.tm
  · simp [h2, show less < v.tm by omega]
  · simp [h2]
/-- Trimming by a lesser low ahead makes no difference. -/
theorem trim_trim {l : List Ver} (h : l.Pairwise (fun a b => a.tm < b.tm)) {low less : Nat} (hl : less ≤ low) : trimH (trimH l less) low = trimH l low := by
  show keepH (findH (trimH l less) low) ++ _ = keepH (findH l low) ++ _
  rw [trim_high hl]
  rcases find_trim h hl with e | ⟨e, v, e2, hg⟩
  · rw [e]
  · rw [e, e2, keep_gone hg]
    rfl
theorem size_filter (p : Ver → Bool) : ∀ l : List Ver, sizeH (l.filter p) ≤ sizeH l
  | [] => Nat.le_refl _
  | v :: l => by
    have ih := size_filter p l
    unfold sizeH at *
    rw [List.filter_cons]
    split
    · simp only [List.map_cons, List.sum_cons]; omega
    · simp only [List.map_cons, List.sum_cons]; omega
theorem size_append (a b : List Ver) : sizeH (a ++ b) = sizeH a + sizeH b := by simp [sizeH]
theorem size_mem {l : List Ver} {v : Ver} (h : v ∈ l) : v.dat.length ≤ sizeH l := by
  induction l with
  | nil => cases h
  | cons x l ih =>
    unfold sizeH at *
    simp only [List.map_cons, List.sum_cons]
    rcases List.mem_cons.1 h with rfl | h
    · omega
    · have := ih h
      omega
theorem size_parts (low : Nat) : ∀ l : List Ver, sizeH (l.filter fun v => decide (v.tm ≤ low)) + sizeH (l.filter fun v => decide (low < v.tm)) = sizeH l
  | [] => rfl
  | v :: l => by
    have ih := size_parts low l
    unfold sizeH at *
    by_cases h : v.tm ≤ low
    · have h2 : ¬ low < v.tm := by omega
      simp only [List.filter_cons, h, h2, decide_true, decide_false, if_true, if_false, Bool.false_eq_true, List.map_cons, List.sum_cons]
      omega
    · have h2 : low < v.tm := by omega
      simp only [List.filter_cons, h, h2, decide_true, decide_false, if_true, if_false, Bool.false_eq_true, List.map_cons, List.sum_cons]
      omega
theorem size_trim (l : List Ver) (low : Nat) : sizeH (trimH l low) ≤ sizeH l := by
  have h := size_parts low l
  have hk : sizeH (keepH (findH l low)) ≤ sizeH (l.filter fun v => decide (v.tm ≤ low)) := by
    cases hf : findH l low with
    | none => exact Nat.zero_le _
    | some v =>
      cases hg : v.gone
      · rw [keep_not hg]
        have := size_mem (List.mem_of_getLast? hf)
        simpa [sizeH] using this
      · rw [keep_gone hg]
        exact Nat.zero_le _
  unfold trimH
  rw [size_append]
  omega
/-- What is put is asked from its time on, and nothing else turns. -/
theorem find_put (l : List Ver) (v : Ver) (t : Nat) : findH (l ++ [v]) t = if v.tm ≤ t then some v else findH l t := by
  unfold findH
  rw [List.filter_append]
  by_cases hv : v.tm ≤ t
  · rw [if_pos hv]
    simp [hv]
  · rw [if_neg hv]
    simp [hv]
theorem last_lt {l : List Ver} (h : l.Pairwise (fun a b => a.tm < b.tm)) {t : Nat} (ht : lastH l < t) : ∀ x ∈ l, x.tm < t := by
  intro x hx
  unfold lastH at ht
  cases hl : l.getLast? with
  | none => rw [List.getLast?_eq_none_iff] at hl; rw [hl] at hx; cases hx
  | some v =>
    rw [hl] at ht
    have ht : v.tm < t := ht
    obtain ⟨ys, hy⟩ := List.getLast?_eq_some_iff.1 hl
    subst hy
    rw [List.pairwise_append] at h
    rcases List.mem_append.1 hx with hx | hx
    · have := h.2.2 x hx v (List.mem_singleton.2 rfl)
      omega
    · rw [List.mem_singleton] at hx
      subst hx
      exact ht
theorem right_put {l : List Ver} {v : Ver} (h : rightC l = true) (hv : okVer v = true) (ht : lastH l < v.tm) : rightC (l ++ [v]) = true := by
  obtain ⟨h1, h2⟩ := (right_iff l 0).1 h
  refine (right_iff _ 0).2 ⟨fun x hx => ?_, ?_⟩
  · rcases List.mem_append.1 hx with hx | hx
    · exact h1 x hx
    · rw [List.mem_singleton] at hx
      subst hx
      exact ⟨by omega, hv⟩
  · rw [List.pairwise_append]
    refine ⟨h2, List.pairwise_singleton .., fun a ha b hb => ?_⟩
    rw [List.mem_singleton] at hb
    subst hb
    exact last_lt h2 ht a ha
end Go.Proofs.Ytfdiidhilonkoaa

/-
  Chains in memory: slices of versions that read as a list of them.
-/
namespace Go.Proofs.Ytfdiidhilonkoaa
open Go.RowKit

/-- A version, and where its bytes lie. -/
structure MV where
  v : Ver
  A : Option Addr
  c : Nat
def mvCells (x : MV) : List Value := [.int .u64 x.v.tm, .bool x.v.gone, .slice x.A x.v.dat.length x.c]
theorem mvF : Fixed 3 mvCells := ⟨by decide, fun _ => rfl, fun x v hv => by
  simp only [mvCells, List.mem_cons, List.not_mem_nil, or_false] at hv
  rcases hv with rfl | rfl | rfl <;> rfl⟩
/-- A slice of bytes reads as l; of nil there is no room. -/
def Sl (w : World) (hi : Nat) (A : Option Addr) (c : Nat) (l : List UInt8) : Prop := l.length ≤ c ∧ c ≤ maxLen ∧ (A = none → c = 0) ∧ Rd w 0 hi A l
def OkMV (w : World) (hi : Nat) (x : MV) : Prop := x.v.tm < 18446744073709551616 ∧ Sl w hi x.A x.c x.v.dat
/-- A slice at A reads as the versions l, all below hi. -/
def RowH (w : World) (hi : Nat) (A : Option Addr) (l : List Ver) : Prop := ∃ ms : List MV, ms.map MV.v = l ∧ RowG mvCells w 0 hi A ms ∧ ∀ x ∈ ms, OkMV w hi x

section
variable {w w' : World} {hi hi' B : Nat} {A : Option Addr} {l : List Ver}
theorem Sl.below {c : Nat} {d : List UInt8} (h : Sl w hi A c d) (hb : Below B w w') (hB : hi ≤ B) (hh : hi ≤ hi') : Sl w' hi' A c d := ⟨h.1, h.2.1, h.2.2.1, (h.2.2.2.below hb hB).wide (Nat.le_refl _) hh⟩
theorem Sl.none_ (w : World) (hi : Nat) : Sl w hi none 0 [] := ⟨Nat.le_refl _, Nat.zero_le _, fun _ => rfl, Rd.nil_⟩
theorem OkMV.below {x : MV} (h : OkMV w hi x) (hb : Below B w w') (hB : hi ≤ B) (hh : hi ≤ hi') : OkMV w' hi' x := ⟨h.1, h.2.below hb hB hh⟩
theorem RowH.below (h : RowH w hi A l) (hb : Below B w w') (hB : hi ≤ B) (hh : hi ≤ hi') : RowH w' hi' A l := by
  obtain ⟨ms, e, h1, h2⟩ := h
  exact ⟨ms, e, (h1.below hb hB).wide (Nat.le_refl _) hh, fun x hx => (h2 x hx).below hb hB hh⟩
theorem RowH.nil_ (w : World) (hi : Nat) (A : Option Addr) : RowH w hi A [] := ⟨[], rfl, RowG.nil_, by simp⟩
theorem RowH.at_ (h : RowH w hi A l) {j : Nat} (hj : j < l.length) :
    ∃ b o A' c', A = some ⟨b, o, none⟩ ∧ b < hi ∧ w.cell? ⟨b, o + j * 3, none⟩ = some (.int .u64 (l[j]'hj).tm) ∧ w.cell? ⟨b, o + j * 3 + 1, none⟩ = some (.bool (l[j]'hj).gone) ∧ w.cell? ⟨b, o + j * 3 + 2, none⟩ = some (.slice A' (l[j]'hj).dat.length c') ∧
      Sl w hi A' c' (l[j]'hj).dat ∧ (l[j]'hj).tm < 18446744073709551616 := by
  obtain ⟨ms, rfl, h1, h2⟩ := h
  have hj' : j < ms.length := by simpa using hj
  obtain ⟨b, o, e, _, hb, hc⟩ := h1.at_ mvF hj'
  obtain ⟨k1, k2⟩ := h2 _ (List.getElem_mem hj')
  refine ⟨b, o, ms[j].A, ms[j].c, e, hb, ?_, ?_, ?_, by simpa using k2, by simpa using k1⟩
  · have := hc 0 _ rfl
    simpa using this
  · have := hc 1 _ rfl
    simpa using this
  · have := hc 2 _ rfl
    simpa using this
theorem RowH.tm (h : RowH w hi A l) : ∀ x ∈ l, x.tm < 18446744073709551616 := by
  obtain ⟨ms, rfl, _, h2⟩ := h
  intro x hx
  obtain ⟨y, hy, rfl⟩ := List.mem_map.1 hx
  exact (h2 y hy).1
theorem RowH.some_ (h : RowH w hi A l) (hn : 0 < l.length) : ∃ b o, A = some ⟨b, o, none⟩ ∧ b < hi := by
  obtain ⟨ms, rfl, h1, _⟩ := h
  obtain ⟨b, o, e, _, hb⟩ := h1.some_ (by simpa using hn)
  exact ⟨b, o, e, hb⟩
end
instance : DecidableEq Ver := fun a b => decidable_of_iff (a.tm = b.tm ∧ a.gone = b.gone ∧ a.dat = b.dat) (by cases a; cases b; simp)
/-- The same, version by version. -/
def sameH (a b : List Ver) : Bool := decide (a = b)
def verVal (v : Ver) (A : Option Addr) (c : Nat) : Value := .agg #[.int .u64 v.tm, .bool v.gone, .slice A v.dat.length c]
def Ver0 : Ver := ⟨0, false, []⟩
end Go.Proofs.Ytfdiidhilonkoaa
