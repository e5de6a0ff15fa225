import Derived.Test.YtjkmodfbbiojmaaZC10
/-
  What package span has to answer, as contracts; lists that are few and short; the chapter's examples.
-/
namespace Go.Proofs.Ytjkmodfbbiojmaa
open Go.RowKit

/-- Lists of a length that the contracts speak of. -/
def okI (l : List Sp) : Prop := l.length ≤ 1000
structure SpanC : Prop where
  right : ∀ (s : Sp) (w : World), Calls Try.prog 55 #[spVal s] w fun r w' => r = .returned (.bool (rightS s)) ∧ Below w.heap.size w w'
  meets : ∀ (a b : Sp) (w : World), Calls Try.prog 58 #[spVal a, spVal b] w fun r w' => r = .returned (.bool (meetsS a b)) ∧ Below w.heap.size w w'
  normal : ∀ (l : List Sp) (A : Option Addr) (c : Nat) (w : World), okI l → ChI w w.heap.size A c l → Calls Try.prog 37 #[.slice A l.length c] w fun r w' => r = .returned (.bool (normB l)) ∧ Below w.heap.size w w'
  meet : ∀ (a b : List Sp) (A B : Option Addr) (c d : Nat) (w : World), okI a → okI b → ChI w w.heap.size A c a → ChI w w.heap.size B d b → Calls Try.prog 39 #[.slice A a.length c, .slice B b.length d] w fun r w' => r = .returned (.bool (meetB a b)) ∧ Below w.heap.size w w'
  same : ∀ (a b : List Sp) (A B : Option Addr) (c d : Nat) (w : World), okI a → okI b → ChI w w.heap.size A c a → ChI w w.heap.size B d b → Calls Try.prog 53 #[.slice A a.length c, .slice B b.length d] w fun r w' => r = .returned (.bool (sameI a b)) ∧ Below w.heap.size w w'
  join : ∀ (a b : List Sp) (A B : Option Addr) (c d : Nat) (w : World), okI a → okI b → ChI w w.heap.size A c a → ChI w w.heap.size B d b → Calls Try.prog 28 #[.slice A a.length c, .slice B b.length d] w (RetI (joinSp (a ++ b)) w)
  fit : ∀ (a : List Sp) (A : Option Addr) (c : Nat) (n : Int) (w : World), okI a → -9223372036854775808 ≤ n → n ≤ 9223372036854775807 → ChI w w.heap.size A c a → Calls Try.prog 27 #[.slice A a.length c, .int .i64 n] w (RetI (fitI n (joinSp a)) w)

/-! ### few -/
def shortI (s : Sp) : Bool := decide (s.lo.length ≤ 300) && decide (s.hi.length ≤ 300)
def fewI (l : List Sp) : Bool := l.all shortI && decide (l.length ≤ 40)
theorem fewI_yes {l : List Sp} (h : fewI l = true) : (∀ s ∈ l, s.lo.length ≤ 300 ∧ s.hi.length ≤ 300) ∧ l.length ≤ 40 := by
  unfold fewI at h
  rw [Bool.and_eq_true, List.all_eq_true, decide_eq_true_iff] at h
  refine ⟨fun s hs => ?_, h.2⟩
  have := h.1 s hs
  unfold shortI at this
  rwa [Bool.and_eq_true, decide_eq_true_iff, decide_eq_true_iff] at this
theorem fewI_ok {l : List Sp} (h : fewI l = true) : okI l := by
  have := (fewI_yes h).2
  unfold okI
  omega
set_option maxRecDepth 100000 in
set_option maxHeartbeats 4000000 in
theorem fewI_any (l : List Sp) (A : Option Addr) (c : Nat) (w : World) (hl : l.length ≤ 9223372036854775807) (hr : RowG spCells w 0 w.heap.size A l) :
    Calls Try.prog 24 #[.slice A l.length c] w fun r w' => r = .returned (.bool (fewI l)) ∧ Below w.heap.size w w' := by
  have HR := Lib.hid hr
  clear hr
  go_enter Try.func24, Try.ntmps24
  go_wp2
  go_loopg [7] l.length (fun q i wr => ∃ j : Nat, j + q = l.length ∧ i = .int .i64 j ∧ (l.take j).all shortI = true ∧ Below w.heap.size w wr)
  case atStart => exact ⟨0, by omega, rfl, rfl, Below.refl _ _⟩
  case round =>
    obtain ⟨j, hk, rfl, hall, hb⟩ := hrel
    have HK := Lib.hid hk
    have HA := Lib.hid hall
    have HB := Lib.hid hb
    clear hall hb hk
    by_cases hj : j < l.length
    · have hlt : decide ((j : Int) < (l.length : Int)) = true := by simpa using hj
      have hlt3 : decide (j < l.length) = true := by simpa using hj
      obtain ⟨b, o, rfl, _, hbl, hc⟩ := (HR.out.below HB.out (Nat.le_refl _)).at_ spF hj
      have c0 := hc 0 _ rfl
      have c1 := hc 1 _ rfl
      simp only [Nat.add_zero] at c0
      have HT := Lib.hid (show (l.take (j + 1)).all shortI = ((l.take j).all shortI && shortI l[j]) by rw [List.take_succ_eq_append_getElem hj, List.all_append]; simp)
      have HNo := Lib.hid (fun h : shortI l[j] = false => (show fewI l = false by
        cases hf : fewI l
        · rfl
        · unfold fewI at hf
          rw [Bool.and_eq_true, List.all_eq_true] at hf
          rw [hf.1 _ (List.getElem_mem hj)] at h
          cases h))
      clear hc hbl
      generalize l[j] = x at *
      obtain ⟨xl, xh⟩ := x
      simp only at c0 c1
      have HBN := Lib.hid (HB.out.alloc HB.out.size (.cells #[.string (bs xl), .string (bs xh)] 58))
      have z1 : ((bs xl).size : Int) = (xl.length : Int) := by rw [bs_size]
      have z2 : ((bs xh).size : Int) = (xh.length : Int) := by rw [bs_size]
      by_cases h1 : xl.length ≤ 300
      · have d1 : decide ((300 : Int) < (xl.length : Int)) = false := by rw [decide_eq_false_iff_not]; omega
        have d1' : decide (300 < xl.length) = false := by rw [decide_eq_false_iff_not]; omega
        by_cases h2 : xh.length ≤ 300
        · have d2 : decide ((300 : Int) < (xh.length : Int)) = false := by rw [decide_eq_false_iff_not]; omega
          have d2' : decide (300 < xh.length) = false := by rw [decide_eq_false_iff_not]; omega
          have HF := Lib.hid (show (l.take (j + 1)).all shortI = true by rw [HT.out, HA.out]; simp [shortI, h1, h2])
          clear h1 h2 HT HNo
          go_wp2_with fail
          go_roundg (gk - 1)
          case measure => have := HK.out; omega
          case rel => exact ⟨j + 1, by have := HK.out; omega, by go_num, HF.out, HBN.out⟩
        · have d2 : decide ((300 : Int) < (xh.length : Int)) = true := by rw [decide_eq_true_iff]; omega
          have d2' : decide (300 < xh.length) = true := by rw [decide_eq_true_iff]; omega
          have HF := Lib.hid (HNo.out (by simp [shortI, h2]))
          clear h1 h2 HT HNo
          go_wp2_with fail
          go_ret
          rw [HF.out]
          exact ⟨rfl, HBN.out⟩
      · have d1 : decide ((300 : Int) < (xl.length : Int)) = true := by rw [decide_eq_true_iff]; omega
        have d1' : decide (300 < xl.length) = true := by rw [decide_eq_true_iff]; omega
        have HF := Lib.hid (HNo.out (by simp [shortI, h1]))
        clear h1 HT HNo
        go_wp2_with fail
        go_ret
        rw [HF.out]
        exact ⟨rfl, HBN.out⟩
    · have hj' : j = l.length := by have := HK.out; omega
      subst hj'
      have hlt : decide ((l.length : Int) < (l.length : Int)) = false := by simp
      have hlt2 : decide (l.length < l.length) = false := by simp
      have hF := HA.out
      rw [List.take_length] at hF
      by_cases h4 : l.length ≤ 40
      · have d1 : decide ((l.length : Int) ≤ 40) = true := by rw [decide_eq_true_iff]; omega
        have d1' : decide (l.length ≤ 40) = true := by rw [decide_eq_true_iff]; omega
        have HF := Lib.hid (show fewI l = true by unfold fewI; rw [hF, d1']; rfl)
        clear hF hj h4
        go_wp2_with fail
        go_ret
        rw [HF.out]
        exact ⟨rfl, HB.out⟩
      · have d1 : decide ((l.length : Int) ≤ 40) = false := by rw [decide_eq_false_iff_not]; omega
        have d1' : decide (l.length ≤ 40) = false := by rw [decide_eq_false_iff_not]; omega
        have HF := Lib.hid (show fewI l = false by unfold fewI; rw [hF, d1']; rfl)
        clear hF hj h4
        go_wp2_with fail
        go_ret
        rw [HF.out]
        exact ⟨rfl, HB.out⟩
end Go.Proofs.Ytjkmodfbbiojmaa

/-
  The chapter's examples on stretches.
-/
namespace Go.Proofs.Ytjkmodfbbiojmaa
open Go.RowKit

theorem live_add : joinSp ([⟨[98], [100]⟩] ++ [⟨[99], [102]⟩]) = [⟨[98], [102]⟩] := by decide
theorem live_join : joinSp [⟨[97], [97] ++ [0]⟩, ⟨[99], [99] ++ [0]⟩, ⟨[101], [101] ++ [0]⟩] = [⟨[97], [97, 0]⟩, ⟨[99], [99, 0]⟩, ⟨[101], [101, 0]⟩] := by decide
theorem live_fit : fitI 2 (joinSp [⟨[97], [97] ++ [0]⟩, ⟨[99], [99] ++ [0]⟩, ⟨[101], [101] ++ [0]⟩]) = [⟨[97], [99, 0]⟩, ⟨[101], [101, 0]⟩] := by
  rw [live_join, fitI_step (by decide), fitI_few (by decide)]
end Go.Proofs.Ytjkmodfbbiojmaa

/-
  Stretches: the contracts in the forms that the walks of the statements ask.
-/
namespace Go.Proofs.Ytjkmodfbbiojmaa
open Go.RowKit

section
variable {w : World} {l m : List Sp} {A B : Option Addr} {c d : Nat}
theorem few_bnd {l : List Sp} (h : okI l) : l.length ≤ 9223372036854775807 := by unfold okI at h; omega
theorem ChI.len (h : ChI w w.heap.size A c l) : l.length ≤ 9223372036854775807 := by have := h.1; have := h.2.1; unfold maxLen at this; omega
theorem fewYes (f : fewI l = true) (h : ChI w w.heap.size A c l) : Calls Try.prog 24 #[.slice A l.length c] w fun r w' => r = .returned (.bool true) ∧ Below w.heap.size w w' := by
  have := fewI_any l A c w h.len h.2.2.2
  rwa [f] at this
theorem fewNo (f : fewI l = false) (h : ChI w w.heap.size A c l) : Calls Try.prog 24 #[.slice A l.length c] w fun r w' => r = .returned (.bool false) ∧ Below w.heap.size w w' := by
  have := fewI_any l A c w h.len h.2.2.2
  rwa [f] at this
/-- Same of two rows that read alike. -/
theorem sameYes (h1 : ChI w w.heap.size A c l) (h2 : ChI w w.heap.size B d l) : Calls Try.prog 25 #[.slice A l.length c, .slice B l.length d] w fun r w' => r = .returned (.bool true) ∧ Below w.heap.size w w' :=
  (refSameI_any l l A B c d w h1.len h2.len h1.2.2.2 h2.2.2.2).mono fun _ _ q => ⟨by rw [q.1]; unfold sameI; rw [decide_eq_true rfl], q.2⟩
end
theorem okI_join {a b : List Sp} (h : a.length + b.length ≤ 1000) : okI (joinSp (a ++ b)) := by
  have := join_len (a ++ b)
  rw [List.length_append] at this
  unfold okI
  omega
theorem okI_join1 {a : List Sp} (h : okI a) : okI (joinSp a) := by
  have := join_len a
  unfold okI at *
  omega
theorem fit_le {n : Int} (l : List Sp) : (fitI n l).length ≤ fitN n := by
  have h := fit_len (fitN n) l.length l (Nat.le_refl _)
  have := fitN_pos n
  unfold fitI
  omega
theorem fit_shrinks {n : Int} (l : List Sp) : (fitI n l).length ≤ l.length := by
  by_cases h : l.length ≤ fitN n
  · rw [fitI_few h]
    exact Nat.le_refl _
  · have := fit_le (n := n) l
    omega
theorem okI_fit {n : Int} {l : List Sp} (h : okI l) : okI (fitI n l) := by
  have := fit_shrinks (n := n) l
  unfold okI at *
  omega
theorem fitI_norm {n : Int} {l : List Sp} (h : normS l) : normS (fitI n l) := (fit_norm _ _ l (Nat.le_refl _) h).1
theorem fitI_in {n : Int} {l : List Sp} (h : normS l) {k : List UInt8} (hk : inP l k = true) : inP (fitI n l) k = true := (fit_norm _ _ l (Nat.le_refl _) h).2 k hk
/-- Two stretches in a block that the call has made. -/
theorem chI_two {w : World} {g : Nat} {a b : Sp} (h : w.heap[g]? = some (.cells #[.string (bs a.lo), .string (bs a.hi), .string (bs b.lo), .string (bs b.hi)] 58 (0, 0))) : ChI w w.heap.size (some ⟨g, 0, none⟩) 2 [a, b] :=
  ⟨Nat.le_refl _, by simp [maxLen], (fun e => by cases e), (RowG.block h (fun j u hu => by simpa [flatG, spCells] using hu)).wide (Nat.zero_le _) (lt_of_heap h)⟩
theorem chI_one {w : World} {g : Nat} {a : Sp} (h : w.heap[g]? = some (.cells #[.string (bs a.lo), .string (bs a.hi)] 58 (0, 0))) : ChI w w.heap.size (some ⟨g, 0, none⟩) 1 [a] :=
  ⟨Nat.le_refl _, by simp [maxLen], (fun e => by cases e), (RowG.one (cs := spCells) h).wide (Nat.zero_le _) (lt_of_heap h)⟩
theorem box_at {w W : World} {b : Nat} {x y : Value} {e : TypeId} (h : w.heap[b]? = some (.cells #[x, y] e (0, 0))) (hb : Below w.heap.size w W) : W.heap[b]? = some (.cells #[x, y] e (0, 0)) := heap_below h hb (lt_of_heap h)
theorem box_read {w : World} {b : Nat} {x y : Value} {e : TypeId} (h : w.heap[b]? = some (.cells #[x, y] e (0, 0))) : w.cell? ⟨b, 0, none⟩ = some x ∧ w.cell? ⟨b, 1, none⟩ = some y := ⟨cell_of_row _ _ 0 _ _ _ h, cell_of_row _ _ 1 _ _ _ h⟩
end Go.Proofs.Ytjkmodfbbiojmaa
