/-
  Where a variable is set, by its place.
-/
import Derived.Test.YtepniiaojhiogaaDoorVRows
namespace Go.Proofs.YtepniiaojhiogaaDoor

theorem putL_at : ∀ (l : List VN) (x : VN) (j : Nat) (h : j < l.length), (∀ i (hi : i < l.length), i < j → (l[i]'hi).1 ≠ x.1) → (l[j]'h).1 = x.1 → putL l x = l.set j x
  | [], _, _, h, _, _ => absurd h (by simp)
  | y :: l, x, 0, _, _, he => by
    have : y.1 = x.1 := he
    simp [putL, this]
  | y :: l, x, j + 1, h, hn, he => by
    have h0 : y.1 ≠ x.1 := hn 0 (by simp) (by omega)
    simp only [putL, if_neg h0, List.set_cons_succ]
    rw [putL_at l x j (by simpa using h) (fun i hi hij => hn (i + 1) (by simpa using hi) (by omega)) he]
theorem hasL_yes {l : List VN} {x : ByteArray} {j : Nat} (h : j < l.length) (he : (l[j]'h).1 = x) : hasL l x = true := by
  unfold hasL
  rw [List.any_eq_true]
  exact ⟨_, List.getElem_mem h, by simpa using he⟩
theorem hasL_no {l : List VN} {x : ByteArray} (h : ∀ i (hi : i < l.length), (l[i]'hi).1 ≠ x) : hasL l x = false := by
  unfold hasL
  rw [List.any_eq_false]
  intro y hy
  obtain ⟨i, hi, rfl⟩ := List.getElem_of_mem hy
  simpa using h i hi
theorem setL_put {l : List VN} {x : VN} {j : Nat} (h : j < l.length) (hn : ∀ i (hi : i < l.length), i < j → (l[i]'hi).1 ≠ x.1) (he : (l[j]'h).1 = x.1) : setL l x = l.set j x := by
  unfold setL
  rw [if_pos (hasL_yes h he), putL_at l x j h hn he]
theorem insL_at : ∀ (l : List VN) (x : VN) (p : Nat), p ≤ l.length → (∀ i (hi : i < l.length), i < p → blt x.1.data.toList (l[i]'hi).1.data.toList = false) → (∀ h : p < l.length, blt x.1.data.toList (l[p]'h).1.data.toList = true) → insL l x = l.take p ++ x :: l.drop p
  | [], x, p, hp, _, _ => by
    have : p = 0 := by simpa using hp
    subst this
    rfl
  | y :: l, x, 0, _, _, hy => by
    have : blt x.1.data.toList y.1.data.toList = true := hy (by simp)
    simp [insL, this]
  | y :: l, x, p + 1, hp, hn, hy => by
    have h0 : blt x.1.data.toList y.1.data.toList = false := hn 0 (by simp) (by omega)
    simp only [insL, h0, Bool.false_eq_true, if_false, List.take_succ_cons, List.drop_succ_cons, List.cons_append]
    rw [insL_at l x p (by simpa using hp) (fun i hi hij => hn (i + 1) (by simpa using hi) (by omega)) (fun h => hy (by simpa using h))]
theorem setL_ins {l : List VN} {x : VN} {p : Nat} (hp : p ≤ l.length) (hne : ∀ i (hi : i < l.length), (l[i]'hi).1 ≠ x.1) (hn : ∀ i (hi : i < l.length), i < p → blt x.1.data.toList (l[i]'hi).1.data.toList = false) (hy : ∀ h : p < l.length, blt x.1.data.toList (l[p]'h).1.data.toList = true) :
    setL l x = l.take p ++ x :: l.drop p := by
  unfold setL
  rw [if_neg (by rw [hasL_no hne]; simp), insL_at l x p hp hn hy]
/-- Got, by its place. -/
theorem getL_at : ∀ (l : List VN) (x : ByteArray) (j : Nat) (h : j < l.length), (∀ i (hi : i < l.length), i < j → (l[i]'hi).1 ≠ x) → (l[j]'h).1 = x → getL l x = some (l[j]'h).2
  | [], _, _, h, _, _ => absurd h (by simp)
  | y :: l, x, 0, _, _, he => by
    have : y.1 = x := he
    simp [getL, this]
  | y :: l, x, j + 1, h, hn, he => by
    have h0 : y.1 ≠ x := hn 0 (by simp) (by omega)
    simp only [getL, if_neg h0, List.getElem_cons_succ]
    exact getL_at l x j (by simpa using h) (fun i hi hij => hn (i + 1) (by simpa using hi) (by omega)) he
theorem getL_none : ∀ (l : List VN) (x : ByteArray), (∀ i (hi : i < l.length), (l[i]'hi).1 ≠ x) → getL l x = none
  | [], _, _ => rfl
  | y :: l, x, h => by
    have h0 : y.1 ≠ x := h 0 (by simp)
    simp only [getL, if_neg h0]
    exact getL_none l x fun i hi => h (i + 1) (by simpa using hi)
end Go.Proofs.YtepniiaojhiogaaDoor
