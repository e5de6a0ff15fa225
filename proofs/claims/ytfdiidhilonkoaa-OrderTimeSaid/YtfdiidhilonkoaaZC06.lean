import Derived.Test.YtfdiidhilonkoaaZC05
set_option linter.unusedVariables false
/-
  Stores in plain words: what follows: right ones stay right, within their limits; what is read stays; collecting is not seen.
-/
namespace Go.Proofs.Ytfdiidhilonkoaa
open Go.RowKit

/-- A store that calls have made: keys rise, none is empty, chains are right and not later than the time. -/
structure OkS (st : PS) : Prop where
  sort : SortS st.K
  full : FullS st.K
  right : ∀ x ∈ st.K, rightC x.2 = true
  time : ∀ x ∈ st.K, ∀ v ∈ x.2, v.tm ≤ st.time
theorem ok_none : OkS ⟨0, []⟩ := ⟨List.Pairwise.nil, (fun _ h => by cases h), (fun _ h => by cases h), (fun _ h => by cases h)⟩
section
variable {st : PS}
theorem OkS.rightC (h : OkS st) (k : KeyS) : rightC (chainS st.K k) = true := by
  by_cases e : chainS st.K k = []
  · rw [e]; rfl
  · exact h.right _ (chainS_some e)
theorem OkS.upto (h : OkS st) (k : KeyS) : ∀ v ∈ chainS st.K k, v.tm ≤ st.time := by
  by_cases e : chainS st.K k = []
  · rw [e]; intro v hv; cases hv
  · exact h.time _ (chainS_some e)
theorem last_le {l : List Ver} {t : Nat} (h : ∀ v ∈ l, v.tm ≤ t) : lastH l ≤ t := by
  unfold lastH
  cases hl : l.getLast? with
  | none => exact Nat.zero_le _
  | some v => exact h v (List.mem_of_getLast? hl)
end

/-! ### what may be written -/
theorem checkS_ok : ∀ {l : List Wr} {last : KeyS}, checkS last l = 0 → (∀ w ∈ l, blt last w.key = true ∧ w.key.length ≤ 256 ∧ w.dat.length ≤ 4096 ∧ okVer ⟨0, w.gone, w.dat⟩ = true) ∧ l.Pairwise (fun a b => blt a.key b.key = true)
  | [], _, _ => ⟨(fun _ h => by cases h), List.Pairwise.nil⟩
  | w :: l, last, h => by
    unfold checkS at h
    split at h
    · cases h
    · next h1 =>
      split at h
      · cases h
      · next h2 =>
        obtain ⟨k1, k2⟩ := checkS_ok h
        have g1 : blt last w.key = true := by
          cases e : blt last w.key
          · exact absurd (.inl e) h2
          · rfl
        have g2 : okVer ⟨0, w.gone, w.dat⟩ = true := by
          cases e : okVer ⟨0, w.gone, w.dat⟩
          · exact absurd (.inr e) h2
          · rfl
        refine ⟨fun x hx => ?_, List.pairwise_cons.2 ⟨fun x hx => (k1 x hx).1, k2⟩⟩
        rcases List.mem_cons.1 hx with rfl | hx
        · exact ⟨g1, by omega, by omega, g2⟩
        · exact ⟨blt_trans g1 (k1 x hx).1, (k1 x hx).2⟩
theorem okVer_tm (t t' : Nat) (g : Bool) (d : List UInt8) : okVer ⟨t, g, d⟩ = okVer ⟨t', g, d⟩ := rfl
theorem addH_ok {l : List Ver} {v : Ver} (h : rightC l = true) (hv : okVer v = true) (ht : lastH l < v.tm) : addH l v = l ++ [v] := by
  have h1 : rightC [v] = true := (right_iff [v] 0).2 ⟨fun x hx => by
    rw [List.mem_singleton] at hx
    subst hx
    exact ⟨by omega, hv⟩, List.pairwise_singleton ..⟩
  unfold addH
  rw [h, h1, if_pos (show (true && true) = true from rfl), if_neg (by omega)]

/-! ### the store behind writes -/
def newC (st : PS) (w : Wr) : List Ver := if comesS st w = true then addH (chainS st.K w.key) (verW st w) else chainS st.K w.key
def afterC (st : PS) (l : List Wr) (k : KeyS) : List Ver := match l.find? fun w => w.key == k with | some w => newC st w | none => chainS st.K k
theorem with_fold (st : PS) : ∀ (l : List Wr) (K : KsS), l.Pairwise (fun a b => blt a.key b.key = true) → SortS K → FullS K → (∀ w ∈ l, chainS K w.key = chainS st.K w.key) →
    SortS (l.foldl (withOne st) K) ∧ FullS (l.foldl (withOne st) K) ∧ ∀ k, chainS (l.foldl (withOne st) K) k = match l.find? fun w => w.key == k with | some w => newC st w | none => chainS K k
  | [], K, _, h, hf, _ => ⟨h, hf, fun _ => rfl⟩
  | w :: l, K, hl, h, hf, hk => by
    obtain ⟨hw, hl'⟩ := List.pairwise_cons.1 hl
    have hne : ∀ x ∈ l, x.key ≠ w.key := fun x hx e => blt_ne (hw x hx) e.symm
    have h1 : SortS (withOne st K w) := by unfold withOne; split; exact sort_put h _ _; exact h
    have h2 : FullS (withOne st K w) := by unfold withOne; split; exact full_put hf _ _; exact hf
    have h3 : ∀ k, chainS (withOne st K w) k = if k = w.key then newC st w else chainS K k := fun k => by
      unfold withOne newC
      split
      · rw [chain_put h hf]
      · split
        · next e => rw [e]; exact hk w (List.mem_cons_self ..)
        · rfl
    obtain ⟨k1, k2, k3⟩ := with_fold st l (withOne st K w) hl' h1 h2 fun x hx => by
      rw [h3, if_neg (hne x hx)]
      exact hk x (List.mem_cons_of_mem _ hx)
    refine ⟨k1, k2, fun k => ?_⟩
    rw [List.foldl_cons, k3, List.find?_cons]
    by_cases e : w.key = k
    · have hno : l.find? (fun x => x.key == k) = none := List.find?_eq_none.2 fun x hx => by
        have := hne x hx
        rw [e] at this
        simpa using this
      have hy : (w.key == k) = true := by rw [e]; exact beq_self_eq_true _
      rw [hno, hy, h3, if_pos e.symm]
    · rw [beq_neB e]
      show (match l.find? (fun x => x.key == k) with | some w => newC st w | none => chainS (withOne st K w) k) = match l.find? (fun x => x.key == k) with | some w => newC st w | none => chainS K k
      rw [h3, if_neg (fun e2 => e e2.symm)]
section
variable {st : PS} {l : List Wr}
theorem newC_ok (h : OkS st) {w : Wr} (hw : okVer ⟨0, w.gone, w.dat⟩ = true) : newC st w = if comesS st w = true then chainS st.K w.key ++ [verW st w] else chainS st.K w.key := by
  unfold newC
  split
  · exact addH_ok (h.rightC _) hw (Nat.lt_succ_of_le (last_le (h.upto _)))
  · rfl
theorem with_ok (h : OkS st) (hc : checkS [] l = 0) : SortS (withS st l) ∧ FullS (withS st l) ∧ ∀ k, chainS (withS st l) k = afterC st l k := by
  obtain ⟨_, h2⟩ := checkS_ok hc
  exact with_fold st l st.K h2 h.sort h.full fun _ _ => rfl
theorem afterC_cases (h : OkS st) (hc : checkS [] l = 0) (k : KeyS) : afterC st l k = chainS st.K k ∨ ∃ w ∈ l, w.key = k ∧ comesS st w = true ∧ afterC st l k = chainS st.K k ++ [verW st w] ∧ okVer (verW st w) = true := by
  obtain ⟨h1, _⟩ := checkS_ok hc
  unfold afterC
  cases hf : l.find? fun w => w.key == k with
  | none => exact Or.inl (Eq.refl (chainS st.K k))
  | some w =>
    have hm := List.mem_of_find?_eq_some hf
    have hk : w.key = k := by simpa using List.find?_some hf
    have ho := (h1 w hm).2.2.2
    have e : newC st w = if comesS st w = true then chainS st.K k ++ [verW st w] else chainS st.K k := by rw [newC_ok h ho, hk]
    by_cases hcm : comesS st w = true
    · rw [if_pos hcm] at e
      exact .inr ⟨w, hm, hk, hcm, e, ho⟩
    · rw [if_neg hcm] at e
      exact .inl e
theorem okS_with (h : OkS st) (hc : checkS [] l = 0) : OkS ⟨st.time + 1, withS st l⟩ := by
  obtain ⟨k1, k2, k3⟩ := with_ok h hc
  refine ⟨k1, k2, fun x hx => ?_, fun x hx => ?_⟩
  · have e := chainS_mem k1 hx
    rw [← e, k3]
    rcases afterC_cases h hc x.1 with e2 | ⟨w, _, _, _, e2, ho⟩
    · rw [e2]; exact h.rightC _
    · rw [e2]; exact right_put (h.rightC _) ho (Nat.lt_succ_of_le (last_le (h.upto _)))
  · have e := chainS_mem k1 hx
    rw [← e, k3]
    intro v hv
    rcases afterC_cases h hc x.1 with e2 | ⟨w, _, _, _, e2, ho⟩
    · rw [e2] at hv
      exact Nat.le_succ_of_le (h.upto _ v hv)
    · rw [e2] at hv
      rcases List.mem_append.1 hv with hv | hv
      · exact Nat.le_succ_of_le (h.upto _ v hv)
      · rw [List.mem_singleton] at hv
        subst hv
        exact Nat.le_refl _
end

/-! ### collected -/
theorem mem_collect {K : KsS} {low : Nat} {x : KeyS × List Ver} : x ∈ collectS K low ↔ ∃ y ∈ K, x = (y.1, trimH y.2 low) ∧ x.2 ≠ [] := by
  unfold collectS
  rw [List.mem_filterMap]
  constructor
  · rintro ⟨y, hy, e⟩
    unfold trimOne at e
    split at e
    · cases e
    · next h =>
      injection e with e
      subst e
      exact ⟨y, hy, rfl, by simpa using h⟩
  · rintro ⟨y, hy, e, h⟩
    refine ⟨y, hy, ?_⟩
    unfold trimOne
    subst e
    rw [if_neg (by simpa using h)]
theorem sort_collect {K : KsS} (h : SortS K) (low : Nat) : SortS (collectS K low) := by
  unfold collectS SortS
  rw [List.pairwise_filterMap]
  refine List.Pairwise.imp ?_ h
  intro a b hab x hx y hy
  unfold trimOne at hx hy
  split at hx
  · cases hx
  · split at hy
    · cases hy
    · injection hx with hx
      injection hy with hy
      subst hx hy
      exact hab
theorem full_collect (K : KsS) (low : Nat) : FullS (collectS K low) := fun x hx => by
  obtain ⟨_, _, _, h⟩ := mem_collect.1 hx
  exact h
theorem trim_none (low : Nat) : trimH [] low = [] := rfl
theorem chain_collect {K : KsS} (h : SortS K) (low : Nat) (k : KeyS) : chainS (collectS K low) k = trimH (chainS K k) low := by
  refine chainS_of (sort_collect h low) (fun hc => ?_) fun hc x hx e => ?_
  · have hn : chainS K k ≠ [] := fun e => hc (by rw [e]; rfl)
    exact mem_collect.2 ⟨(k, chainS K k), chainS_some hn, rfl, hc⟩
  · obtain ⟨y, hy, ex, hn⟩ := mem_collect.1 hx
    have e2 : y.1 = k := by rw [← e, ex]
    have h1 := chainS_mem h hy
    rw [e2] at h1
    rw [h1] at hc
    exact hn (by rw [ex]; exact hc)
theorem okS_collect {st : PS} (h : OkS st) (low : Nat) : OkS ⟨st.time, collectS st.K low⟩ := by
  refine ⟨sort_collect h.sort low, full_collect _ _, fun x hx => ?_, fun x hx v hv => ?_⟩
  · obtain ⟨y, hy, e, _⟩ := mem_collect.1 hx
    rw [e]
    exact right_trim (h.right y hy) low
  · obtain ⟨y, hy, e, _⟩ := mem_collect.1 hx
    rw [e] at hv
    exact h.time y hy v (trim_mem hv)
theorem trim_few (l : List Ver) (low : Nat) : (trimH l low).length ≤ l.length := by
  have hp : ∀ l : List Ver, (l.filter fun v => decide (v.tm ≤ low)).length + (l.filter fun v => decide (low < v.tm)).length = l.length := fun l => by
    induction l with
    | nil => rfl
    | cons v l ih =>
      rw [List.filter_cons, List.filter_cons]
      by_cases hv : v.tm ≤ low
      · rw [if_pos (by simpa using hv), if_neg (by simp; omega)]
        simp only [List.length_cons]
        omega
      · rw [if_neg (by simpa using hv), if_pos (by simp; omega)]
        simp only [List.length_cons]
        omega
  have h := hp l
  unfold trimH
  rw [List.length_append]
  have hk : (keepH (findH l low)).length ≤ (l.filter fun v => decide (v.tm ≤ low)).length := by
    unfold findH
    cases hf : (l.filter fun v => decide (v.tm ≤ low)).getLast? with
    | none => exact Nat.zero_le _
    | some v =>
      have := List.length_pos_of_mem (List.mem_of_getLast? hf)
      have := keep_few (some v)
      omega
  omega
theorem m_zero : (∀ k, m1 k [] = 0) ∧ (∀ k, m2 k [] = 0) ∧ ∀ k, m3 k [] = 0 := ⟨fun _ => rfl, fun _ => rfl, fun _ => rfl⟩
theorem m_trim (k : KeyS) (l : List Ver) (low : Nat) : m1 k (trimH l low) ≤ m1 k l ∧ m2 k (trimH l low) ≤ m2 k l ∧ m3 k (trimH l low) ≤ m3 k l := by
  have hn : l = [] → trimH l low = [] := fun e => by rw [e]; rfl
  refine ⟨?_, trim_few l low, ?_⟩
  · unfold m1
    by_cases h : trimH l low = []
    · rw [if_pos h]; exact Nat.zero_le _
    · rw [if_neg h, if_neg (fun e => h (hn e))]; exact Nat.le_refl _
  · unfold m3
    by_cases h : trimH l low = []
    · rw [if_pos h]; exact Nat.zero_le _
    · rw [if_neg h, if_neg (fun e => h (hn e))]
      have := size_trim l low
      omega
theorem fits_of {L : LimS} {K K' : KsS} (h : SortS K) (h' : SortS K') (hf : FullS K) (hf' : FullS K') (hm : ∀ k, m1 k (chainS K k) ≤ m1 k (chainS K' k) ∧ m2 k (chainS K k) ≤ m2 k (chainS K' k) ∧ m3 k (chainS K k) ≤ m3 k (chainS K' k)) (hfit : fitsS L K' = true) : fitsS L K = true := by
  have s1 := sum_le m_zero.1 h h' fun k => (hm k).1
  have s2 := sum_le m_zero.2.1 h h' fun k => (hm k).2.1
  have s3 := sum_le m_zero.2.2 h h' fun k => (hm k).2.2
  rw [← len_sum hf, ← len_sum hf'] at s1
  rw [← vers_sum, ← vers_sum] at s2
  rw [← byts_sum hf, ← byts_sum hf'] at s3
  unfold fitsS at hfit ⊢
  simp only [Bool.and_eq_true, decide_eq_true_eq] at hfit ⊢
  omega
theorem fits_collect {L : LimS} {K : KsS} (h : SortS K) (hf : FullS K) (low : Nat) (hfit : fitsS L K = true) : fitsS L (collectS K low) = true :=
  fits_of (sort_collect h low) h (full_collect _ _) hf (fun k => by rw [chain_collect h]; exact m_trim k _ low) hfit

/-! ### scans -/
theorem mem_scan {K : KsS} (h : SortS K) {lo hi : KeyS} {t : Nat} {p : KeyS × List UInt8} : p ∈ scanS K lo hi t ↔ inS lo hi p.1 = true ∧ readS K p.1 t = some p.2 := by
  unfold scanS
  rw [List.mem_filterMap]
  constructor
  · rintro ⟨x, hx, e⟩
    unfold scanOne at e
    split at e
    · next hi =>
      obtain ⟨b, hb, e⟩ := Option.map_eq_some_iff.1 e
      subst e
      unfold readS
      rw [chainS_mem h hx]
      exact ⟨hi, hb⟩
    · cases e
  · rintro ⟨h1, h2⟩
    have hn : chainS K p.1 ≠ [] := fun e => by
      unfold readS at h2
      rw [e] at h2
      cases h2
    refine ⟨_, chainS_some hn, ?_⟩
    unfold scanOne
    unfold readS at h2
    rw [if_pos h1, h2]
    rfl
theorem scan_rise {K : KsS} (h : SortS K) (lo hi : KeyS) (t : Nat) : (scanS K lo hi t).Pairwise fun a b => blt a.1 b.1 = true := by
  unfold scanS
  rw [List.pairwise_filterMap]
  refine List.Pairwise.imp ?_ h
  intro a b hab x hx y hy
  unfold scanOne at hx hy
  split at hx
  · split at hy
    · obtain ⟨_, _, e⟩ := Option.map_eq_some_iff.1 hx
      obtain ⟨_, _, e'⟩ := Option.map_eq_some_iff.1 hy
      subst e e'
      exact hab
    · cases hy
  · cases hx
theorem scan_same {K K' : KsS} (h : SortS K) (h' : SortS K') {lo hi : KeyS} {t : Nat} (he : ∀ k, readS K k t = readS K' k t) : scanS K lo hi t = scanS K' lo hi t :=
  rise_ext Prod.fst (scan_rise h lo hi t) (scan_rise h' lo hi t) fun p => by rw [mem_scan h, mem_scan h', he]

/-! ### what is read stays -/
theorem read_with {st : PS} {l : List Wr} (h : OkS st) (hc : checkS [] l = 0) {t : Nat} (ht : t ≤ st.time) (k : KeyS) : readS (withS st l) k t = readS st.K k t := by
  unfold readS
  rw [(with_ok h hc).2.2]
  rcases afterC_cases h hc k with e | ⟨w, _, _, _, e, _⟩
  · rw [e]
  · rw [e]
    unfold getH
    rw [find_put, if_neg (show ¬ (verW st w).tm ≤ t by show ¬ st.time + 1 ≤ t; omega)]
theorem read_collect {st : PS} (h : OkS st) {low t : Nat} (ht : low ≤ t) (k : KeyS) : readS (collectS st.K low) k t = readS st.K k t := by
  unfold readS
  rw [chain_collect h.sort]
  exact get_trim ((right_iff _ 0).1 (h.rightC k)).2 ht
/-- Of the last time, whatever was collected. -/
theorem get_trim_now {l : List Ver} (h : l.Pairwise (fun a b => a.tm < b.tm)) {t low : Nat} (ht : ∀ v ∈ l, v.tm ≤ t) : getH (trimH l low) t = getH l t := by
  by_cases hl : low ≤ t
  · exact get_trim h hl
  · have e1 : (l.filter fun v => decide (low < v.tm)) = [] := List.filter_eq_nil_iff.2 fun v hv => by
      have := ht v hv
      simp; omega
    have e2 : findH l low = l.getLast? := by
      unfold findH
      rw [List.filter_eq_self.2 fun v hv => by have := ht v hv; simp; omega]
    have e3 : findH l t = l.getLast? := by
      unfold findH
      rw [List.filter_eq_self.2 fun v hv => by have := ht v hv; simp; omega]
    unfold getH trimH
    rw [e1, e2, e3, List.append_nil]
    cases hg : l.getLast? with
    | none => rfl
    | some v =>
      have hv := ht v (List.mem_of_getLast? hg)
      by_cases hgo : v.gone = true
      · rw [keep_gone hgo, of_gone hgo]
        rfl
      · have hgf : v.gone = false := by simpa using hgo
        rw [keep_not hgf]
        unfold findH
        rw [List.filter_cons, if_pos (by simpa using hv)]
        rfl
theorem read_collect_now {st : PS} (h : OkS st) (low : Nat) (k : KeyS) : readS (collectS st.K low) k st.time = readS st.K k st.time := by
  unfold readS
  rw [chain_collect h.sort]
  exact get_trim_now ((right_iff _ 0).1 (h.rightC k)).2 (h.upto k)
end Go.Proofs.Ytfdiidhilonkoaa
