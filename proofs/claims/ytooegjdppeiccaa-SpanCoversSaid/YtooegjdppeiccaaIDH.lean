/-
  Package span, as it landed: united.
-/
import Derived.Test.YtooegjdppeiccaaIDG
import Derived.Shelf.SlSortCmp.NoneTotal
namespace Go.Proofs.Ytooegjdppeiccaa
open Go.RowKit

set_option maxRecDepth 100000 in
theorem dDeleteFunc_nil (p : Sp → Bool) (g : Nat) (lb : Array Value) (eg : ∀ args w, (callFunc g args).run Try.prog w = .ok (.enter g args) w) (hp : PredAll g lb p) (w : World) :
    Calls Try.prog 115 #[.slice none 0 0, .func (.func g) #[] lb] w fun e w' => e = .returned (.slice none 0 0) ∧ Below w.heap.size w w' := by
  have HI := Lib.hid (dIndex_any p g lb eg [] none 0 0 w.heap.size w (hp.at_ w) (by simp) RowG.nil_ (Nat.le_refl _))
  clear hp
  go_enter Try.func115, Try.ntmps115
  go_wp2_with fail
  refine HI.out.mono ?_
  rintro r w1 ⟨⟨z, rfl, hz⟩, hb1⟩
  have HB1 := Lib.hid hb1
  clear HI hb1
  rcases hz with ⟨i, hi, _⟩ | ⟨rfl, _⟩
  · exact absurd hi (by simp)
  · have d1 : ((-1 : Int) == -1) = true := rfl
    go_wp2_with fail
    go_ret
    exact ⟨rfl, HB1.out⟩
set_option maxRecDepth 100000 in
theorem dLaid_nil (w : World) : Calls Try.prog 99 #[.slice none 0 0] w fun e w' => e = .returned (.slice none 0 0) ∧ Below w.heap.size w w' := by
  have eg1 : ∀ args w, (callFunc 116 args).run Try.prog w = .ok (.enter 116 args) w := enters_of Try.func116 (by kernel_rfl) rfl
  have HD := Lib.hid (dDeleteFunc_nil (fun x => !rightS x) 116 #[] eg1 laid1_any w)
  have hs := fun fv W => AnyF.slices_SortFunc_none Try.sortI none 0 fv W
  change ∀ fv W, Calls Try.prog 117 _ _ _ at hs
  have HS := Lib.hid hs
  clear eg1 hs
  go_enter Try.func99, Try.ntmps99
  go_wp2_with fail
  refine HD.out.mono ?_
  rintro r w1 ⟨rfl, hb1⟩
  go_wp2_with fail
  refine (HS.out _ w1).mono ?_
  rintro r w2 ⟨rfl, rfl⟩
  go_wp2_with fail
  go_ret
  exact ⟨rfl, hb1⟩
/-- laid of any row of the call's own. -/
theorem dLaidO_any (l : List Sp) (lo : Nat) (v : Value) (w : World) (hl : l.length ≤ 1000000) (ho : OwnG 60 2 spCells w lo v l) (hlo : lo ≤ w.heap.size) :
    Calls Try.prog 99 #[v] w fun e w' => ∃ (m : List Sp) (v' : Value), (∀ s, s ∈ m ↔ s ∈ l ∧ rightS s = true) ∧ risesS m ∧ m.length ≤ l.length ∧ e = .returned v' ∧ OwnG 60 2 spCells w' lo v' m ∧ Below lo w w' := by
  rcases ho.blk with ⟨rfl, rfl⟩ | ⟨b, cap, rfl, hb⟩
  · exact (dLaid_nil w).mono fun _ _ q => ⟨[], _, fun s => by simp, List.Pairwise.nil, Nat.le_refl _, q.1, OwnG.none_ _ _ _ _ _, q.2.mono hlo⟩
  · exact (dLaid_any l lo b cap w hl hb hlo).mono fun _ _ ⟨m, h1, h2, h3, h4, h5, h6⟩ => ⟨m, _, h1, h2, h3, h4, h5.own, h6⟩

/-! ### the loop of united -/
/-- L is what lies in the row, n of the first are what the first j came to. -/
structure UniI (l L : List Sp) (j n : Nat) : Prop where
  len : L.length = l.length
  le : n ≤ j
  pos : 0 < j → 0 < n
  out : L.take n = (l.take j).foldl stepU []
  rest : L.drop j = l.drop j
theorem UniI.start (l : List Sp) : UniI l l 0 0 := ⟨rfl, Nat.le_refl _, id, rfl, rfl⟩
theorem UniI.at_ {l L : List Sp} {j n : Nat} (h : UniI l L j n) (hj : j < l.length) (hj' : j < L.length) : L[j]'hj' = l[j]'hj := by
  have e := h.rest
  rw [List.drop_eq_getElem_cons hj', List.drop_eq_getElem_cons hj] at e
  injection e
theorem uni_step {l : List Sp} {j : Nat} (hj : j < l.length) : (l.take (j + 1)).foldl stepU [] = stepU ((l.take j).foldl stepU []) (l[j]'hj) := by
  rw [List.take_succ_eq_append_getElem hj, List.foldl_append]
  rfl
theorem UniI.rest_set {l L : List Sp} {j n : Nat} (h : UniI l L j n) {q : Nat} (hq : q ≤ j) (x : Sp) : (L.set q x).drop (j + 1) = l.drop (j + 1) := by
  rw [List.drop_set_of_lt (by omega)]
  have e := congrArg (List.drop 1) h.rest
  rwa [List.drop_drop, List.drop_drop] at e
/-- The first one, or one that begins behind a gap. -/
theorem UniI.more {l L : List Sp} {j n : Nat} (h : UniI l L j n) (hj : j < l.length) (hs : n = 0 ∨ ∃ hn : n - 1 < L.length, gapB (L[n - 1]'hn) (l[j]'hj) = true) : UniI l (L.set n (l[j]'hj)) (j + 1) (n + 1) := by
  have hk : n < L.length := by have := h.le; have := h.len; omega
  refine ⟨by rw [List.length_set, h.len], by have := h.le; omega, fun _ => by omega, ?_, h.rest_set h.le _⟩
  rw [uni_step hj, ← h.out, List.take_succ_eq_append_getElem (by rw [List.length_set]; exact hk), List.getElem_set_self, List.take_set_of_le (Nat.le_refl _)]
  rcases hs with h0 | ⟨hn, hg⟩
  · subst h0
    rfl
  · by_cases h0 : n = 0
    · subst h0
      rfl
    · obtain ⟨q, rfl⟩ : ∃ q, n = q + 1 := ⟨n - 1, by omega⟩
      simp only [Nat.add_sub_cancel] at hg hn
      rw [List.take_succ_eq_append_getElem hn, stepU_snoc, if_pos hg]
/-- One that meets the last of what has come, or touches it. -/
theorem UniI.less {l L : List Sp} {j q : Nat} (h : UniI l L j (q + 1)) (hj : j < l.length) (hn : q < L.length) (hg : gapB (L[q]'hn) (l[j]'hj) = false) : UniI l (L.set q ⟨(L[q]'hn).lo, laterS (L[q]'hn).hi (l[j]'hj).hi⟩) (j + 1) (q + 1) := by
  refine ⟨by rw [List.length_set, h.len], by have := h.le; omega, fun _ => by omega, ?_, h.rest_set (by have := h.le; omega) _⟩
  rw [uni_step hj, ← h.out, List.take_succ_eq_append_getElem (by rw [List.length_set]; exact hn), List.getElem_set_self, List.take_set_of_le (Nat.le_refl _), List.take_succ_eq_append_getElem hn, stepU_snoc, if_neg (by rw [hg]; exact Bool.false_ne_true)]
theorem UniI.end_ {l L : List Sp} {n : Nat} (h : UniI l L l.length n) : L.take n = l.foldl stepU [] := by rw [h.out, List.take_length]
end Go.Proofs.Ytooegjdppeiccaa
