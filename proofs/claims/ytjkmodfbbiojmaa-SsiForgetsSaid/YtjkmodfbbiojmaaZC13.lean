import Derived.Test.YtjkmodfbbiojmaaZC07
import Derived.Test.YtjkmodfbbiojmaaZC12
/-
  Records of transactions in memory: values, rows, slices of them.
-/
namespace Go.Proofs.Ytjkmodfbbiojmaa
open Go.RowKit

/-- A record, and where its stretches lie. -/
structure MR where
  r : RecS
  A : Option Addr
  c : Nat
  B : Option Addr
  d : Nat
def mrCells (x : MR) : List Value := [.int .u64 x.r.first, .int .u64 x.r.last, .int .u64 x.r.began, .int .u64 x.r.out, .slice x.A x.r.reads.length x.c, .slice x.B x.r.writes.length x.d]
def recVal (x : MR) : Value := .agg #[.int .u64 x.r.first, .int .u64 x.r.last, .int .u64 x.r.began, .int .u64 x.r.out, .slice x.A x.r.reads.length x.c, .slice x.B x.r.writes.length x.d]
theorem mrF : Fixed 6 mrCells := ⟨by decide, fun _ => rfl, fun x v hv => by
  simp only [mrCells, List.mem_cons, List.not_mem_nil, or_false] at hv
  rcases hv with rfl | rfl | rfl | rfl | rfl | rfl <;> rfl⟩
theorem mrInfo : InfoG Try.prog 29 6 80 := InfoG.of (by kernel_rfl)
structure OkMR (w : World) (hi : Nat) (x : MR) : Prop where
  first : x.r.first < 18446744073709551616
  last : x.r.last < 18446744073709551616
  began : x.r.began < 18446744073709551616
  out : x.r.out < 18446744073709551616
  reads : ChI w hi x.A x.c x.r.reads
  writes : ChI w hi x.B x.d x.r.writes
def RowR (w : World) (hi : Nat) (A : Option Addr) (l : List RecS) : Prop := ∃ ms : List MR, ms.map MR.r = l ∧ RowG mrCells w 0 hi A ms ∧ ∀ x ∈ ms, OkMR w hi x
/-- A slice of records that reads as l, below hi. -/
def ChR (w : World) (hi : Nat) (A : Option Addr) (c : Nat) (l : List RecS) : Prop := l.length ≤ c ∧ c ≤ maxLen ∧ (A = none → c = 0) ∧ RowR w hi A l
section
variable {w w' : World} {hi hi' B : Nat} {A : Option Addr} {c : Nat} {l : List RecS} {x : MR}
theorem OkMR.below (h : OkMR w hi x) (hb : Below B w w') (hB : hi ≤ B) (hh : hi ≤ hi') : OkMR w' hi' x := ⟨h.first, h.last, h.began, h.out, h.reads.below hb hB hh, h.writes.below hb hB hh⟩
theorem RowR.below (h : RowR w hi A l) (hb : Below B w w') (hB : hi ≤ B) (hh : hi ≤ hi') : RowR w' hi' A l := by
  obtain ⟨ms, e, h1, h2⟩ := h
  exact ⟨ms, e, (h1.below hb hB).wide (Nat.le_refl _) hh, fun x hx => (h2 x hx).below hb hB hh⟩
theorem ChR.below (h : ChR w hi A c l) (hb : Below B w w') (hB : hi ≤ B) (hh : hi ≤ hi') : ChR w' hi' A c l := ⟨h.1, h.2.1, h.2.2.1, h.2.2.2.below hb hB hh⟩
theorem ChR.none_ (w : World) (hi : Nat) : ChR w hi none 0 [] := ⟨Nat.le_refl _, Nat.zero_le _, fun _ => rfl, [], rfl, RowG.nil_, by simp⟩
theorem RowR.at_ (h : RowR w hi A l) {j : Nat} (hj : j < l.length) :
    ∃ b o, A = some ⟨b, o, none⟩ ∧ b < hi ∧ ∃ x : MR, x.r = l[j]'hj ∧ OkMR w hi x ∧ w.cell? ⟨b, o + j * 6, none⟩ = some (.int .u64 x.r.first) ∧ w.cell? ⟨b, o + j * 6 + 1, none⟩ = some (.int .u64 x.r.last) ∧ w.cell? ⟨b, o + j * 6 + 2, none⟩ = some (.int .u64 x.r.began) ∧
      w.cell? ⟨b, o + j * 6 + 3, none⟩ = some (.int .u64 x.r.out) ∧ w.cell? ⟨b, o + j * 6 + 4, none⟩ = some (.slice x.A x.r.reads.length x.c) ∧ w.cell? ⟨b, o + j * 6 + 5, none⟩ = some (.slice x.B x.r.writes.length x.d) := by
  obtain ⟨ms, rfl, h1, h2⟩ := h
  have hj' : j < ms.length := by simpa using hj
  obtain ⟨b, o, e, _, hb, hc⟩ := h1.at_ mrF hj'
  exact ⟨b, o, e, hb, ms[j], by simp, h2 _ (List.getElem_mem hj'), by simpa using hc 0 _ rfl, hc 1 _ rfl, hc 2 _ rfl, hc 3 _ rfl, hc 4 _ rfl, hc 5 _ rfl⟩
theorem OwnG.chR {e : TypeId} {lo : Nat} {v : Value} {ms : List MR} (h : OwnG e 6 mrCells w lo v ms) (hm : ∀ x ∈ ms, OkMR w w.heap.size x) : ∃ A c, v = .slice A ms.length c ∧ ChR w w.heap.size A c (ms.map MR.r) := by
  obtain ⟨A, c, rfl, k1, k2, k3, k4⟩ := h.form
  exact ⟨A, c, rfl, by rw [List.length_map]; exact k1, k2, k3, ms, rfl, k4.wide (Nat.zero_le _) (Nat.le_refl _), hm⟩
end
/-- A call told a slice of records that reads as m. -/
def RetRec (m : List RecS) (w : World) (r : Ending) (w' : World) : Prop := ∃ A c, r = .returned (.slice A m.length c) ∧ ChR w' w'.heap.size A c m ∧ Below w.heap.size w w'
/-- A call told one record. -/
def RetOne (m : RecS) (w : World) (r : Ending) (w' : World) : Prop := ∃ x : MR, x.r = m ∧ r = .returned (recVal x) ∧ OkMR w' w'.heap.size x ∧ Below w.heap.size w w'
/-- What Judge tells. -/
def judgeVal : Option Nat → Value
  | some n => .tuple #[.int .u64 n, .int .i64 0]
  | none => .tuple #[.int .u64 0, .int .i64 101]
end Go.Proofs.Ytjkmodfbbiojmaa

/-
  For the walks of package ssi: where a judgement has come among the records; records forgotten one by one; how many stretches there are.
-/
namespace Go.Proofs.Ytjkmodfbbiojmaa

/-! ### judging, one record after the other: bs is those beside t -/
/-- Nothing up to here made a danger. -/
def calmTo (bs : List RecS) (t : RecS) (j : Nat) : Prop := ∀ a ∈ aheadR (bs.take j) t, outB t a = false ∧ stopB bs t a = false
/-- The least first time up to here; none: nobody yet. -/
def leastTo (bs : List RecS) (t : RecS) (j : Nat) : Option Nat := (aheadR (bs.take j) t).foldl leastStep none
theorem calm_zero (bs : List RecS) (t : RecS) : calmTo bs t 0 := fun a ha => by simp [aheadR] at ha
theorem least_zero (bs : List RecS) (t : RecS) : leastTo bs t 0 = none := rfl
theorem ahead_take {bs : List RecS} {t : RecS} {j : Nat} (hj : j < bs.length) : aheadR (bs.take (j + 1)) t = aheadR (bs.take j) t ++ (if meetB t.reads (bs[j]'hj).writes = true then [bs[j]'hj] else []) := by
  unfold aheadR
  rw [List.take_succ_eq_append_getElem hj, List.filter_append]
  congr 1
  by_cases h : meetB t.reads (bs[j]'hj).writes = true
  · rw [if_pos h, List.filter_cons, if_pos h]; rfl
  · rw [if_neg h, List.filter_cons, if_neg h]; rfl
theorem calm_skip {bs : List RecS} {t : RecS} {j : Nat} (h : calmTo bs t j) (hj : j < bs.length) (hm : meetB t.reads (bs[j]'hj).writes = false) : calmTo bs t (j + 1) := fun a ha => by
  rw [ahead_take hj, if_neg (by simp [hm]), List.append_nil] at ha
  exact h a ha
theorem least_skip {bs : List RecS} {t : RecS} {j : Nat} (hj : j < bs.length) (hm : meetB t.reads (bs[j]'hj).writes = false) : leastTo bs t (j + 1) = leastTo bs t j := by
  unfold leastTo
  rw [ahead_take hj, if_neg (by simp [hm]), List.append_nil]
theorem calm_next {bs : List RecS} {t : RecS} {j : Nat} (h : calmTo bs t j) (hj : j < bs.length) (ho : outB t (bs[j]'hj) = false) (hs : stopB bs t (bs[j]'hj) = false) : calmTo bs t (j + 1) := fun a ha => by
  rw [ahead_take hj] at ha
  rcases List.mem_append.1 ha with ha | ha
  · exact h a ha
  · split at ha
    · rw [List.mem_singleton] at ha
      subst ha
      exact ⟨ho, hs⟩
    · cases ha
theorem least_next {bs : List RecS} {t : RecS} {j : Nat} (hj : j < bs.length) (hm : meetB t.reads (bs[j]'hj).writes = true) : leastTo bs t (j + 1) = leastStep (leastTo bs t j) (bs[j]'hj) := by
  unfold leastTo
  rw [ahead_take hj, if_pos hm, List.foldl_append]
  rfl
/-- All have been looked at: it may commit. -/
theorem judge_calm {l : List RecS} {t : RecS} {n : Nat} (hn : n = (forgetR l t.began).length) (h : calmTo (forgetR l t.began) t n) : judgeR l t = some ((leastTo (forgetR l t.began) t n).getD 0) := by
  subst hn
  unfold judgeR leastTo calmTo at *
  rw [List.take_length] at h ⊢
  rw [if_neg]
  · rfl
  · intro hc
    obtain ⟨a, ha, hs⟩ := List.any_eq_true.1 hc
    obtain ⟨h1, h2⟩ := h a ha
    rw [h1, h2] at hs
    cases hs
/-- A danger. -/
theorem judge_stop {l : List RecS} {t : RecS} {j : Nat} (hj : j < (forgetR l t.began).length) (hm : meetB t.reads ((forgetR l t.began)[j]'hj).writes = true)
    (h : outB t ((forgetR l t.began)[j]'hj) = true ∨ stopB (forgetR l t.began) t ((forgetR l t.began)[j]'hj) = true) : judgeR l t = none := by
  unfold judgeR
  rw [if_pos]
  refine List.any_eq_true.2 ⟨(forgetR l t.began)[j]'hj, List.mem_filter.2 ⟨List.getElem_mem hj, hm⟩, ?_⟩
  rw [Bool.or_eq_true]
  exact h
/-- The inner walk: none up to here. -/
def noneTo (bs : List RecS) (t a : RecS) (i : Nat) : Prop := ∀ (k : Nat) (h : k < bs.length), k < i → (meetB (bs[k]'h).reads t.writes && dangerR a (bs[k]'h)) = false
theorem none_zero (bs : List RecS) (t a : RecS) : noneTo bs t a 0 := fun k _ h => by omega
theorem none_next {bs : List RecS} {t a : RecS} {i : Nat} (h : noneTo bs t a i) (hi : i < bs.length) (hd : (meetB (bs[i]'hi).reads t.writes && dangerR a (bs[i]'hi)) = false) : noneTo bs t a (i + 1) := fun k hk hlt => by
  by_cases e : k = i
  · subst e; exact hd
  · exact h k hk (by omega)
theorem stop_none {bs : List RecS} {t a : RecS} (h : noneTo bs t a bs.length) : stopB bs t a = false := by
  cases hs : stopB bs t a
  · rfl
  · obtain ⟨b, hb, hd⟩ := List.any_eq_true.1 hs
    obtain ⟨k, hk, rfl⟩ := List.getElem_of_mem hb
    rw [h k hk hk] at hd
    cases hd
theorem stop_some {bs : List RecS} {t a : RecS} {i : Nat} (hi : i < bs.length) (hd : (meetB (bs[i]'hi).reads t.writes && dangerR a (bs[i]'hi)) = true) : stopB bs t a = true :=
  List.any_eq_true.2 ⟨_, List.getElem_mem hi, hd⟩

/-! ### forgotten, one by one -/
theorem forget_take {l : List RecS} {low j : Nat} (hj : j < l.length) : forgetR (l.take (j + 1)) low = forgetR (l.take j) low ++ (if low < (l[j]'hj).last then [l[j]'hj] else []) := by
  unfold forgetR
  rw [List.take_succ_eq_append_getElem hj, List.filter_append]
  congr 1
  by_cases h : low < (l[j]'hj).last
  · rw [if_pos h, List.filter_cons, if_pos (by simpa using h)]; rfl
  · rw [if_neg h, List.filter_cons, if_neg (by simpa using h)]; rfl
theorem forget_len (l : List RecS) (low : Nat) : (forgetR l low).length ≤ l.length := List.length_filter_le _ _

/-! ### how many stretches -/
def manyR (l : List RecS) : Nat := (l.map fun r => r.reads.length + r.writes.length).sum
theorem many_mem {l : List RecS} {r : RecS} (h : r ∈ l) : r.reads.length + r.writes.length ≤ manyR l := by
  induction l with
  | nil => cases h
  | cons x l ih =>
    have e : manyR (x :: l) = (x.reads.length + x.writes.length) + manyR l := by simp [manyR]
    rcases List.mem_cons.1 h with rfl | h
    · omega
    · have := ih h
      omega
theorem many_le {l : List RecS} {n : Nat} (h : ∀ r ∈ l, r.reads.length + r.writes.length ≤ n) : manyR l ≤ l.length * n := by
  induction l with
  | nil => simp [manyR]
  | cons x l ih =>
    have e : manyR (x :: l) = (x.reads.length + x.writes.length) + manyR l := by simp [manyR]
    have h1 := h x (List.mem_cons_self ..)
    have h2 := ih fun r hr => h r (List.mem_cons_of_mem _ hr)
    rw [e, List.length_cons, Nat.add_mul]
    omega
theorem many_join {J : List Sp → List Sp → List Sp} (hJ : ∀ a b, (J a b).length ≤ a.length + b.length) (a b : RecS) (l : List RecS) : manyR (joinR J a b :: l) ≤ manyR (a :: b :: l) := by
  have h1 := hJ a.reads b.reads
  have h2 := hJ a.writes b.writes
  have e1 : manyR (joinR J a b :: l) = ((J a.reads b.reads).length + (J a.writes b.writes).length) + manyR l := by simp [manyR, joinR]
  have e2 : manyR (a :: b :: l) = (a.reads.length + a.writes.length) + ((b.reads.length + b.writes.length) + manyR l) := by simp [manyR]
  omega
end Go.Proofs.Ytjkmodfbbiojmaa
