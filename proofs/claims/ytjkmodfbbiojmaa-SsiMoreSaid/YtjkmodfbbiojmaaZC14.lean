import Derived.Test.YtjkmodfbbiojmaaZC13
/-
  Package ssi as it landed, in plain words: one walk over the records, with what is known of either side of t.
-/
namespace Go.Proofs.Ytjkmodfbbiojmaa

/-- What is known of those that stand on either side. -/
structure SideS where
  ahead : Bool
  behind : Bool
  reach : Nat
  first : Nat
def reachR (r : RecS) : Nat := if r.writes.isEmpty then r.began else r.last
def addAheadS (s : SideS) (r : RecS) : SideS := ⟨true, s.behind, max s.reach (reachR r), s.first⟩
def addBehindS (s : SideS) (r : RecS) : SideS := ⟨s.ahead, true, s.reach, if !s.behind || decide (r.first < s.first) then r.first else s.first⟩
def dangerS (s : SideS) : Bool := s.ahead && s.behind && decide (s.first ≤ s.reach)
/-- Whether r reads ahead of t, and t ahead of r. -/
def readsB (t r : RecS) : Bool := decide (t.began < r.last) && meetB r.reads t.writes
def writesB (t r : RecS) : Bool := decide (t.began < r.last) && meetB t.reads r.writes
def stepA (t : RecS) (s : SideS) (r : RecS) : SideS := if readsB t r = true then addAheadS s r else s
def stepB (t : RecS) (s : SideS) (r : RecS) : SideS := if writesB t r = true then addBehindS s r else s
def stepS (t : RecS) (s : SideS) (r : RecS) : SideS := stepB t (stepA t s r) r
def side0 : SideS := ⟨false, false, 0, 0⟩
def sideTo (l : List RecS) (t : RecS) (j : Nat) : SideS := (l.take j).foldl (stepS t) side0
theorem side_zero (l : List RecS) (t : RecS) : sideTo l t 0 = side0 := rfl
theorem side_next {l : List RecS} {t : RecS} {j : Nat} (hj : j < l.length) : sideTo l t (j + 1) = stepS t (sideTo l t j) (l[j]'hj) := by
  unfold sideTo
  rw [List.take_succ_eq_append_getElem hj, List.foldl_append]
  rfl
/-- What the state says of those that came so far. -/
structure SideOk (p : List RecS) (t : RecS) (s : SideS) : Prop where
  reach : ∀ b ∈ p, readsB t b = true → s.ahead = true ∧ reachR b ≤ s.reach
  some_r : s.ahead = true → ∃ b ∈ p, readsB t b = true ∧ (reachR b = s.reach)
  first : ∀ a ∈ p, writesB t a = true → s.behind = true ∧ s.first ≤ a.first
  some_f : s.behind = true → ∃ a ∈ p, writesB t a = true ∧ a.first = s.first
  none_r : s.ahead = false → s.reach = 0
  none_f : s.behind = false → s.first = 0
theorem ok_zero (t : RecS) : SideOk [] t side0 := ⟨(fun b hb => by cases hb), (fun h => by cases h), (fun b hb => by cases hb), (fun h => by cases h), fun _ => rfl, fun _ => rfl⟩
theorem ok_next {p : List RecS} {t r : RecS} {s : SideS} (h : SideOk p t s) : SideOk (p ++ [r]) t (stepS t s r) := by
  have hA : SideOk p t s ∧ (readsB t r = true → (stepA t s r).ahead = true ∧ reachR r ≤ (stepA t s r).reach) ∧ (∀ b ∈ p, readsB t b = true → (stepA t s r).ahead = true ∧ reachR b ≤ (stepA t s r).reach) ∧
      ((stepA t s r).ahead = true → ∃ b ∈ p ++ [r], readsB t b = true ∧ reachR b = (stepA t s r).reach) ∧ (stepA t s r).behind = s.behind ∧ (stepA t s r).first = s.first ∧ ((stepA t s r).ahead = false → (stepA t s r).reach = 0) := by
    refine ⟨h, ?_⟩
    unfold stepA
    by_cases hr : readsB t r = true
    · rw [if_pos hr]
      refine ⟨fun _ => ⟨rfl, Nat.le_max_right _ _⟩, fun b hb hrb => ⟨rfl, Nat.le_trans (h.reach b hb hrb).2 (Nat.le_max_left _ _)⟩, fun _ => ?_, rfl, rfl, fun e => by cases e⟩
      by_cases hm : s.reach ≤ reachR r
      · exact ⟨r, by simp, hr, by show reachR r = max s.reach (reachR r); omega⟩
      · cases ha : s.ahead with
        | false =>
          have := h.none_r ha
          omega
        | true =>
          obtain ⟨b, hb, h1, h2⟩ := h.some_r ha
          exact ⟨b, by simp [hb], h1, by show reachR b = max s.reach (reachR r); omega⟩
    · rw [if_neg hr]
      refine ⟨fun e => absurd e hr, h.reach, fun ha => ?_, rfl, rfl, h.none_r⟩
      obtain ⟨b, hb, h1, h2⟩ := h.some_r ha
      exact ⟨b, by simp [hb], h1, h2⟩
  obtain ⟨_, a1, a2, a3, a4, a5, a6⟩ := hA
  unfold stepS
  generalize stepA t s r = u at *
  unfold stepB
  by_cases hw : writesB t r = true
  · rw [if_pos hw]
    refine ⟨fun b hb hrb => ?_, a3, fun a ha hwa => ?_, fun _ => ?_, a6, fun e => by cases e⟩
    · rcases List.mem_append.1 hb with hb | hb
      · exact a2 b hb hrb
      · rw [List.mem_singleton] at hb
        subst hb
        exact a1 hrb
    · refine ⟨rfl, ?_⟩
      show (if !u.behind || decide (r.first < u.first) then r.first else u.first) ≤ a.first
      rcases List.mem_append.1 ha with ha | ha
      · obtain ⟨h1, h2⟩ := h.first a ha hwa
        rw [a4, a5, h1]
        by_cases hlt : r.first < s.first
        · rw [decide_eq_true hlt]
          simp only [Bool.or_true, if_true]
          omega
        · rw [decide_eq_false hlt]
          simpa using h2
      · rw [List.mem_singleton] at ha
        subst ha
        by_cases hlt : a.first < u.first
        · rw [decide_eq_true hlt]
          simp
        · rw [decide_eq_false hlt]
          cases u.behind
          · simp
          · simp; omega
    · show ∃ a ∈ p ++ [r], writesB t a = true ∧ a.first = if !u.behind || decide (r.first < u.first) then r.first else u.first
      rw [a4, a5]
      cases hb : s.behind with
      | false => exact ⟨r, by simp, hw, by simp⟩
      | true =>
        by_cases hlt : r.first < s.first
        · exact ⟨r, by simp, hw, by rw [decide_eq_true hlt]; simp⟩
        · obtain ⟨a, ha, h1, h2⟩ := h.some_f hb
          exact ⟨a, by simp [ha], h1, by rw [decide_eq_false hlt]; simpa using h2⟩
  · rw [if_neg hw]
    refine ⟨fun b hb hrb => ?_, a3, fun a ha hwa => ?_, fun hb => ?_, a6, fun e => by rw [a5]; rw [a4] at e; exact h.none_f e⟩
    · rcases List.mem_append.1 hb with hb | hb
      · exact a2 b hb hrb
      · rw [List.mem_singleton] at hb
        subst hb
        exact a1 hrb
    · rcases List.mem_append.1 ha with ha | ha
      · rw [a4, a5]; exact h.first a ha hwa
      · rw [List.mem_singleton] at ha
        subst ha
        exact absurd hwa hw
    · rw [a4] at hb
      obtain ⟨a, ha, h1, h2⟩ := h.some_f hb
      exact ⟨a, by simp [ha], h1, by rw [a5]; exact h2⟩
theorem side_ok (l : List RecS) (t : RecS) : ∀ j, j ≤ l.length → SideOk (l.take j) t (sideTo l t j)
  | 0, _ => ok_zero t
  | j + 1, h => by
    rw [side_next (by omega), List.take_succ_eq_append_getElem (by omega)]
    exact ok_next (side_ok l t j (by omega))

theorem danger_reach (a b : RecS) : dangerR a b = decide (a.first ≤ reachR b) := by
  unfold dangerR reachR
  split <;> rfl
theorem reads_iff {l : List RecS} {t b : RecS} : (b ∈ l ∧ readsB t b = true) ↔ (b ∈ forgetR l t.began ∧ meetB b.reads t.writes = true) := by
  unfold readsB forgetR
  rw [Bool.and_eq_true, List.mem_filter, and_assoc]
theorem writes_iff {l : List RecS} {t a : RecS} : (a ∈ l ∧ writesB t a = true) ↔ (a ∈ aheadR (forgetR l t.began) t) := by
  unfold writesB aheadR forgetR
  rw [Bool.and_eq_true, List.mem_filter, List.mem_filter, and_assoc]
theorem take_mem {l : List RecS} {a : RecS} {j : Nat} (h : a ∈ l.take j) : a ∈ l := List.mem_of_mem_take h
/-- A danger on the way. -/
theorem pass_danger {l : List RecS} {t : RecS} {j : Nat} (hj : j ≤ l.length) (h : dangerS (sideTo l t j) = true) : judgeR l t = none := by
  have ok := side_ok l t j hj
  unfold dangerS at h
  rw [Bool.and_eq_true, Bool.and_eq_true, decide_eq_true_eq] at h
  obtain ⟨⟨h1, h2⟩, h3⟩ := h
  obtain ⟨b, hb, b1, b2⟩ := ok.some_r h1
  obtain ⟨a, ha, a1, a2⟩ := ok.some_f h2
  obtain ⟨c1, c2⟩ := reads_iff.1 ⟨take_mem hb, b1⟩
  have c3 := writes_iff.1 ⟨take_mem ha, a1⟩
  unfold judgeR
  rw [if_pos]
  refine List.any_eq_true.2 ⟨a, c3, ?_⟩
  rw [Bool.or_eq_true]
  right
  refine List.any_eq_true.2 ⟨b, c1, ?_⟩
  rw [c2, danger_reach, Bool.true_and, decide_eq_true_eq]
  omega
/-- One that t reads ahead of, of which another one comes out already. -/
theorem pass_out {l : List RecS} {t : RecS} {j : Nat} (hj : j < l.length) (hw : writesB t (l[j]'hj) = true) (ho : outB t (l[j]'hj) = true) : judgeR l t = none := by
  unfold judgeR
  rw [if_pos]
  refine List.any_eq_true.2 ⟨l[j]'hj, writes_iff.1 ⟨List.getElem_mem hj, hw⟩, ?_⟩
  rw [ho, Bool.true_or]
/-- None came out up to here. -/
def noOut (l : List RecS) (t : RecS) (j : Nat) : Prop := ∀ a ∈ l.take j, writesB t a = true → outB t a = false
theorem noOut_zero (l : List RecS) (t : RecS) : noOut l t 0 := fun a ha => by simp at ha
theorem noOut_next {l : List RecS} {t : RecS} {j : Nat} (h : noOut l t j) (hj : j < l.length) (hn : writesB t (l[j]'hj) = true → outB t (l[j]'hj) = false) : noOut l t (j + 1) := fun a ha hw => by
  rw [List.take_succ_eq_append_getElem hj] at ha
  rcases List.mem_append.1 ha with ha | ha
  · exact h a ha hw
  · rw [List.mem_singleton] at ha
    subst ha
    exact hn hw
theorem pass_calm {l : List RecS} {t : RecS} {n : Nat} (hn : n = l.length) (hd : dangerS (sideTo l t n) = false) (ho : noOut l t n) : judgeR l t = some (sideTo l t n).first := by
  subst hn
  have ok := side_ok l t l.length (Nat.le_refl _)
  unfold noOut at ho
  rw [List.take_length] at ok ho
  generalize sideTo l t l.length = s at *
  unfold judgeR
  rw [if_neg]
  · congr 1
    cases hb : s.behind with
    | false =>
      rw [ok.none_f hb]
      have e : aheadR (forgetR l t.began) t = [] := by
        cases he : aheadR (forgetR l t.began) t with
        | nil => rfl
        | cons a m =>
          obtain ⟨h1, h2⟩ := writes_iff.2 (show a ∈ aheadR (forgetR l t.began) t by rw [he]; exact List.mem_cons_self ..)
          rw [(ok.first a h1 h2).1] at hb
          cases hb
      rw [e]
      rfl
    | true =>
      obtain ⟨a, ha, a1, a2⟩ := ok.some_f hb
      have hmem := writes_iff.1 ⟨ha, a1⟩
      have h1 := out_le hmem
      obtain ⟨c, hc, ec⟩ := out_mem (l := aheadR (forgetR l t.began) t) (fun e => by rw [e] at hmem; cases hmem)
      obtain ⟨c1, c2⟩ := writes_iff.2 hc
      have := (ok.first c c1 c2).2
      omega
  · intro hc
    obtain ⟨a, ha, hs⟩ := List.any_eq_true.1 hc
    obtain ⟨a1, a2⟩ := writes_iff.2 ha
    rw [ho a a1 a2, Bool.false_or] at hs
    obtain ⟨b, hb, hs⟩ := List.any_eq_true.1 hs
    rw [Bool.and_eq_true, danger_reach, decide_eq_true_eq] at hs
    obtain ⟨b1, b2⟩ := reads_iff.2 ⟨hb, hs.1⟩
    obtain ⟨f1, f2⟩ := ok.first a a1 a2
    obtain ⟨r1, r2⟩ := ok.reach b b1 b2
    have : dangerS s = true := by
      unfold dangerS
      rw [f1, r1]
      simp only [Bool.and_self, Bool.true_and, decide_eq_true_eq]
      omega
    rw [hd] at this
    cases this
/-- Neither: nothing changes. -/
theorem step_none {t r : RecS} {s : SideS} (h1 : readsB t r = false) (h2 : writesB t r = false) : stepS t s r = s := by
  unfold stepS stepA stepB
  rw [h1, h2]
  rfl
theorem step_reads {t r : RecS} {s : SideS} (h1 : readsB t r = true) (h2 : writesB t r = false) : stepS t s r = addAheadS s r := by
  unfold stepS stepA stepB
  rw [h1, h2]
  rfl
theorem step_writes {t r : RecS} {s : SideS} (h1 : readsB t r = false) (h2 : writesB t r = true) : stepS t s r = addBehindS s r := by
  unfold stepS stepA stepB
  rw [h1, h2]
  rfl
theorem step_both {t r : RecS} {s : SideS} (h1 : readsB t r = true) (h2 : writesB t r = true) : stepS t s r = addBehindS (addAheadS s r) r := by
  unfold stepS stepA stepB
  rw [h1, h2]
  rfl
/-- How great the state's numbers are. -/
theorem side_bnd {l : List RecS} {t : RecS} {j M : Nat} (hj : j ≤ l.length) (h : ∀ r ∈ l, r.first < M ∧ r.last < M ∧ r.began < M) (hM : 0 < M) : (sideTo l t j).first < M ∧ (sideTo l t j).reach < M := by
  have ok := side_ok l t j hj
  constructor
  · cases hb : (sideTo l t j).behind with
    | false => rw [ok.none_f hb]; exact hM
    | true =>
      obtain ⟨a, ha, _, e⟩ := ok.some_f hb
      rw [← e]
      exact (h a (take_mem ha)).1
  · cases hb : (sideTo l t j).ahead with
    | false => rw [ok.none_r hb]; exact hM
    | true =>
      obtain ⟨b, hb, _, e⟩ := ok.some_r hb
      rw [← e]
      unfold reachR
      split
      · exact (h b (take_mem hb)).2.2
      · exact (h b (take_mem hb)).2.1
end Go.Proofs.Ytjkmodfbbiojmaa
