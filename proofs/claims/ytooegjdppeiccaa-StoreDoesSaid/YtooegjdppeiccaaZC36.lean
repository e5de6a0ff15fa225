import Derived.Test.YtooegjdppeiccaaZC08
import Derived.Deep.LoopGhost
import Derived.Laws.Cover1
import Derived.Test.YtooegjdppeiccaaZC24
/-
  slices.BinarySearch of keys.
-/
namespace Go.Proofs.Ytooegjdppeiccaa
open Go.RowKit

theorem string_lssJ (t : TypeId) (a b : ByteArray) : binOp .lss t (.string a) (.string b) = pure (.bool (Op.bytesLess a.toList b.toList)) := by simp [binOp, Op.stringOp]
set_option maxRecDepth 100000 in
theorem dNaNc_any (s : ByteArray) (w : World) : Calls Try.prog 131 #[.string s] w fun e w' => e = .returned (.bool false) ∧ w' = w := by
  go_enter Try.func131, Try.ntmps131
  go_wp2
  go_ret
  exact ⟨rfl, rfl⟩
set_option maxRecDepth 100000 in
theorem dNaNs_any (s : ByteArray) (w : World) : Calls Try.prog 124 #[.string s] w fun e w' => e = .returned (.bool false) ∧ w' = w := by
  go_enter Try.func124, Try.ntmps124
  go_wp2
  go_ret
  exact ⟨rfl, rfl⟩
set_option maxRecDepth 100000 in
theorem dLess_any (a b : KeyS) (w : World) : Calls Try.prog 123 #[.string (bs a), .string (bs b)] w fun e w' => e = .returned (.bool (blt a b)) ∧ w' = w := by
  have HN := Lib.hid (dNaNc_any (bs a) w)
  have hl := string_lssJ
  have hbl := bs_less a b
  have HV : Hid (blt a b = blt a b) := Lib.hid rfl
  go_enter Try.func123, Try.ntmps123
  go_wp2_with fail
  refine HN.out.mono ?_
  rintro e w' ⟨rfl, rfl⟩
  go_wp2
  go_ret
  exact ⟨rfl, rfl⟩

/-- Keys that rise. -/
def RiseK (ks : List KeyS) : Prop := ks.Pairwise fun a b => blt a b = true
theorem RiseK.at_ {ks : List KeyS} (h : RiseK ks) {i j : Nat} (hi : i < ks.length) (hj : j < ks.length) (hij : i < j) : blt (ks[i]'hi) (ks[j]'hj) = true := List.pairwise_iff_getElem.1 h i j hi hj hij
/-- n keys stand ahead of t, the others don't. -/
def SplitK (ks : List KeyS) (t : KeyS) (n : Nat) : Prop := n ≤ ks.length ∧ (∀ i (hi : i < ks.length), i < n → blt (ks[i]'hi) t = true) ∧ ∀ i (hi : i < ks.length), n ≤ i → blt (ks[i]'hi) t = false
set_option maxRecDepth 100000 in
set_option maxHeartbeats 2000000 in
theorem dSearch2_any (ks : List KeyS) (A : Option Addr) (c lo hi : Nat) (t : KeyS) (w : World) (hl : ks.length ≤ 2097152) (hr : RowG kCells w lo hi A ks) (hri : RiseK ks) :
    Calls Try.prog 109 #[.slice A ks.length c, .string (bs t)] w fun e w' => (∃ (n : Nat) (is : Bool), e = .returned (.tuple #[.int .i64 n, .bool is]) ∧ SplitK ks t n ∧ is = (ks[n]? == some t)) ∧ w' = w := by
  have HR := Lib.hid hr
  have HRI := Lib.hid hri
  have HL := Lib.hid hl
  clear hr hri hl
  go_enter Try.func109, Try.ntmps109
  go_wp2_with fail
  go_loopg [7, 8] ks.length (fun q i j wr => ∃ lo hx : Nat, i = .int .i64 lo ∧ j = .int .i64 hx ∧ lo ≤ hx ∧ hx ≤ ks.length ∧ hx - lo ≤ q ∧ (∀ i (hi : i < ks.length), i < lo → blt (ks[i]'hi) t = true) ∧ (∀ i (hi : i < ks.length), hx ≤ i → blt (ks[i]'hi) t = false) ∧ wr = w)
  case atStart => exact ⟨0, ks.length, rfl, rfl, Nat.zero_le _, Nat.le_refl _, by omega, (fun i hi h => by omega), (fun i hi h => by omega), rfl⟩
  case round =>
    obtain ⟨lo, hx, rfl, rfl, h1, h2, h3, h4, h5, hw⟩ := hrel
    have H3 := Lib.hid h3
    have H4 := Lib.hid h4
    have H5 := Lib.hid h5
    subst hw
    clear h3 h4 h5
    by_cases hlt : lo < hx
    · have d1 : decide ((lo : Int) < (hx : Int)) = true := by rw [decide_eq_true_iff]; omega
      obtain ⟨mid, hmid⟩ : ∃ m, (lo + hx) / 2 = m := ⟨_, rfl⟩
      have hm1 : lo ≤ mid := by omega
      have hm2 : mid < hx := by omega
      have hml : mid < ks.length := by omega
      have hle := HL.out
      have hdm : decide ((mid : Int) < (ks.length : Int)) = true := by rw [decide_eq_true_iff]; omega
      have hdm2 : decide (mid < ks.length) = true := by rw [decide_eq_true_iff]; omega
      have hsh : ((lo : Int) + (hx : Int)) / 2 = (mid : Int) := by omega
      obtain ⟨b, o, rfl, _, _, hcell⟩ := HR.out.at_ kF hml
      have c0 := hcell 0 _ rfl
      simp only [Nat.add_zero, Nat.mul_one] at c0
      have HC := Lib.hid (dLess_any (ks[mid]'hml) t wr)
      have HLo := Lib.hid (fun (h : blt (ks[mid]'hml) t = true) => show ∀ i (hi : i < ks.length), i < mid + 1 → blt (ks[i]'hi) t = true from fun i hi hij => by
        rcases Nat.lt_or_ge i mid with hlt2 | hge
        · exact blt_trans (HRI.out.at_ hi hml hlt2) h
        · have e : i = mid := by omega
          subst e
          exact h)
      have HHi := Lib.hid (fun (h : blt (ks[mid]'hml) t = false) => show ∀ i (hi : i < ks.length), mid ≤ i → blt (ks[i]'hi) t = false from fun i hi hij => by
        rcases Nat.lt_or_ge mid i with hlt2 | hge
        · cases hc : blt (ks[i]'hi) t
          · rfl
          · rw [blt_trans (HRI.out.at_ hml hi hlt2) hc] at h
            cases h
        · have e : i = mid := by omega
          subst e
          exact h)
      clear hcell
      generalize ks[mid] = x at *
      cases hq : blt x t
      · rw [hq] at HC
        have HF := Lib.hid (HHi.out hq)
        clear hq HHi HLo
        go_wp2_with fail
        refine HC.out.mono ?_
        rintro e w' ⟨rfl, rfl⟩
        go_wp2
        go_roundg (gk - 1)
        case measure => have := H3.out; omega
        case rel => exact ⟨lo, mid, rfl, rfl, by omega, by omega, by have := H3.out; omega, H4.out, HF.out, rfl⟩
      · rw [hq] at HC
        have HF := Lib.hid (HLo.out hq)
        clear hq HHi HLo
        go_wp2_with fail
        refine HC.out.mono ?_
        rintro e w' ⟨rfl, rfl⟩
        go_wp2
        go_roundg (gk - 1)
        case measure => have := H3.out; omega
        case rel => exact ⟨mid + 1, hx, by go_num, rfl, by omega, by omega, by have := H3.out; omega, HF.out, H5.out, rfl⟩
    · have d1 : decide ((lo : Int) < (hx : Int)) = false := by rw [decide_eq_false_iff_not]; omega
      have e : hx = lo := by omega
      subst e
      have HN := Lib.hid (show SplitK ks t hx from ⟨h2, H4.out, H5.out⟩)
      by_cases hq : hx < ks.length
      · have d2 : decide ((hx : Int) < (ks.length : Int)) = true := by rw [decide_eq_true_iff]; omega
        have d3 : decide (hx < ks.length) = true := by rw [decide_eq_true_iff]; omega
        obtain ⟨b, o, rfl, _, _, hcell⟩ := HR.out.at_ kF hq
        have c0 := hcell 0 _ rfl
        simp only [Nat.add_zero, Nat.mul_one] at c0
        have hbs := bs_same (ks[hx]'hq) t
        have HX := Lib.hid (show (ks[hx]? == some t) = (ks[hx]'hq == t) by rw [List.getElem?_eq_getElem hq]; rfl)
        have HC := Lib.hid (dNaNs_any (bs (ks[hx]'hq)) wr)
        clear hcell
        generalize ks[hx] = x at *
        cases hs : (x == t)
        · rw [hs] at hbs HX
          go_wp2_with fail
          refine HC.out.mono ?_
          rintro e w' ⟨rfl, rfl⟩
          go_wp2
          refine bodyPost_ret (v := .tuple #[.int .i64 hx, .bool false]) (by simp [results, Try.results109, go_sem]) rfl ?_
          exact ⟨⟨hx, false, rfl, HN.out, HX.out.symm⟩, rfl⟩
        · rw [hs] at hbs HX
          go_wp2
          refine bodyPost_ret (v := .tuple #[.int .i64 hx, .bool true]) (by simp [results, Try.results109, go_sem]) rfl ?_
          exact ⟨⟨hx, true, rfl, HN.out, HX.out.symm⟩, rfl⟩
      · have d2 : decide ((hx : Int) < (ks.length : Int)) = false := by rw [decide_eq_false_iff_not]; omega
        go_wp2
        refine bodyPost_ret (v := .tuple #[.int .i64 hx, .bool false]) (by simp [results, Try.results109, go_sem]) rfl ?_
        exact ⟨⟨hx, false, rfl, HN.out, by rw [List.getElem?_eq_none (by omega)]; rfl⟩, rfl⟩
theorem dSearch_any (ks : List KeyS) (A : Option Addr) (c lo hi : Nat) (t : KeyS) (w : World) (hl : ks.length ≤ 2097152) (hr : RowG kCells w lo hi A ks) (hri : RiseK ks) :
    Calls Try.prog 109 #[.slice A ks.length c, .string (bs t)] w fun e w' => (∃ (n : Nat) (is : Bool), e = .returned (.tuple #[.int .i64 n, .bool is]) ∧ SplitK ks t n) ∧ w' = w :=
  (dSearch2_any ks A c lo hi t w hl hr hri).mono fun _ _ ⟨⟨n, is, e, h, _⟩, hw⟩ => ⟨⟨n, is, e, h⟩, hw⟩
theorem SplitK.uniq {ks : List KeyS} {t : KeyS} {n m : Nat} (h : SplitK ks t n) (k : SplitK ks t m) : n = m := by
  rcases Nat.lt_trichotomy n m with g | g | g
  · have h1 := h.2.2 n (by have := k.1; omega) (Nat.le_refl _)
    rw [k.2.1 n (by have := k.1; omega) g] at h1
    cases h1
  · exact g
  · have h1 := k.2.2 m (by have := h.1; omega) (Nat.le_refl _)
    rw [h.2.1 m (by have := h.1; omega) g] at h1
    cases h1
theorem dSearchN_any (ks : List KeyS) (A : Option Addr) (c lo hi : Nat) (t : KeyS) (w : World) (hl : ks.length ≤ 2097152) (hr : RowG kCells w lo hi A ks) (hri : RiseK ks) (n : Nat) (hn : SplitK ks t n) :
    Calls Try.prog 109 #[.slice A ks.length c, .string (bs t)] w fun e w' => e = .returned (.tuple #[.int .i64 n, .bool (ks[n]? == some t)]) ∧ w' = w :=
  (dSearch2_any ks A c lo hi t w hl hr hri).mono fun _ _ ⟨⟨m, is, e, h, h2⟩, hw⟩ => by
    obtain rfl := h.uniq hn
    subst h2
    exact ⟨e, hw⟩
theorem splitK_some (ks : List KeyS) (t : KeyS) (hri : RiseK ks) : ∃ n, SplitK ks t n := by
  induction ks with
  | nil => exact ⟨0, Nat.le_refl _, fun i hi => absurd hi (by simp), fun i hi => absurd hi (by simp)⟩
  | cons x ks ih =>
    obtain ⟨h1, h2⟩ := List.pairwise_cons.1 hri
    cases hx : blt x t
    · refine ⟨0, Nat.zero_le _, fun i _ h => absurd h (by omega), fun i hi _ => ?_⟩
      cases i with
      | zero => exact hx
      | succ i =>
        cases hc : blt ((x :: ks)[i + 1]'hi) t
        · rfl
        · rw [blt_trans (h1 _ (by simp)) hc] at hx
          cases hx
    · obtain ⟨n, h3, h4, h5⟩ := ih h2
      refine ⟨n + 1, by simpa using h3, fun i hi hin => ?_, fun i hi hin => ?_⟩
      · cases i with
        | zero => exact hx
        | succ i => exact h4 i (by simpa using hi) (by omega)
      · cases i with
        | zero => omega
        | succ i => exact h5 i (by simpa using hi) (by omega)
end Go.Proofs.Ytooegjdppeiccaa

/-
  Rising keys, and fresh ones laid among them from the last one on: the array that holds both.
-/
namespace Go.Proofs.Ytooegjdppeiccaa
open Go.RowKit

/-- What stands behind: M holds the keys from e on and the fresh ones from r on. -/
structure MInv (ks fresh : List KeyS) (e r : Nat) (M : List KeyS) : Prop where
  rise : RiseK M
  mem : ∀ x, x ∈ M ↔ x ∈ ks.drop e ∨ x ∈ fresh.drop r
  lowK : ∀ x ∈ ks.take e, ∀ y ∈ M, blt x y = true
  lowF : ∀ x ∈ fresh.take r, ∀ y ∈ M, blt x y = true
theorem MInv.start (ks fresh : List KeyS) : MInv ks fresh ks.length fresh.length [] :=
  ⟨List.Pairwise.nil, fun x => by simp, fun _ _ _ h => by simp at h, fun _ _ _ h => by simp at h⟩
theorem MInv.step {ks fresh : List KeyS} {e r a : Nat} {M : List KeyS} (h : MInv ks fresh e (r + 1) M) (hk : RiseK ks) (hf : RiseK fresh) (hd : ∀ x ∈ ks, ∀ y ∈ fresh, x ≠ y) (he : e ≤ ks.length) (hr : r < fresh.length)
    (ha : SplitK (ks.take e) (fresh[r]'hr) a) : MInv ks fresh a r (fresh[r]'hr :: ((ks.take e).drop a ++ M)) := by
  have hae : a ≤ e := by have := ha.1; rw [List.length_take] at this; omega
  have hmf : fresh[r]'hr ∈ fresh.take (r + 1) := by rw [List.take_succ_eq_append_getElem hr]; exact List.mem_append_right _ (List.mem_singleton.2 rfl)
  have hmid : ∀ x ∈ (ks.take e).drop a, blt (fresh[r]'hr) x = true := fun x hx => by
    obtain ⟨i, hi, rfl⟩ := List.mem_drop_iff_getElem.1 hx
    have h1 := ha.2.2 (a + i) (by omega) (by omega)
    have hxk : (ks.take e)[a + i] ∈ ks := List.mem_of_mem_take (List.getElem_mem _)
    rcases blt_tri (fresh[r]'hr) ((ks.take e)[a + i]) with g | g | g
    · exact g
    · exact absurd g.symm (hd _ hxk _ (List.getElem_mem hr))
    · rw [g] at h1
      cases h1
  refine ⟨?_, fun x => ?_, fun x hx y hy => ?_, fun x hx y hy => ?_⟩
  · unfold RiseK
    rw [List.pairwise_cons, List.pairwise_append]
    refine ⟨fun y hy => ?_, (List.Pairwise.sublist (List.drop_sublist _ _) (List.Pairwise.sublist (List.take_sublist _ _) hk)), h.rise, fun x hx y hy => h.lowK x (List.mem_of_mem_drop hx) y hy⟩
    rcases List.mem_append.1 hy with hy | hy
    · exact hmid y hy
    · exact h.lowF _ hmf y hy
  · rw [List.mem_cons, List.mem_append, h.mem]
    have e1 : ks.drop a = (ks.take e).drop a ++ ks.drop e := by
      conv => lhs; rw [← List.take_append_drop e ks]
      rw [List.drop_append_of_le_length (by rw [List.length_take]; omega)]
    rw [e1, List.mem_append, List.drop_eq_getElem_cons hr, List.mem_cons]
    constructor
    · rintro (h1 | h1 | h1 | h1)
      · exact .inr (.inl h1)
      · exact .inl (.inl h1)
      · exact .inl (.inr h1)
      · exact .inr (.inr h1)
    · rintro ((h1 | h1) | h1 | h1)
      · exact .inr (.inl h1)
      · exact .inr (.inr (.inl h1))
      · exact .inl h1
      · exact .inr (.inr (.inr h1))
  · have hx2 : x ∈ (ks.take e).take a := by rw [List.take_take, Nat.min_eq_left hae]; exact hx
    have hxf : blt x (fresh[r]'hr) = true := by
      obtain ⟨i, hi, rfl⟩ := List.mem_take_iff_getElem.1 hx2
      exact ha.2.1 i (by omega) (by omega)
    rcases List.mem_cons.1 hy with rfl | hy
    · exact hxf
    · rcases List.mem_append.1 hy with hy | hy
      · exact blt_trans hxf (hmid y hy)
      · exact h.lowK x (List.mem_of_mem_take hx2) y hy
  · have hxf : blt x (fresh[r]'hr) = true := by
      obtain ⟨i, hi, rfl⟩ := List.mem_take_iff_getElem.1 hx
      exact hf.at_ (by omega) hr (by omega)
    have hxt : x ∈ fresh.take (r + 1) := by rw [List.take_succ_eq_append_getElem hr]; exact List.mem_append_left _ hx
    rcases List.mem_cons.1 hy with rfl | hy
    · exact hxf
    · rcases List.mem_append.1 hy with hy | hy
      · exact blt_trans hxf (hmid y hy)
      · exact h.lowF x hxt y hy
theorem MInv.rise_all {ks fresh : List KeyS} {e : Nat} {M : List KeyS} (h : MInv ks fresh e 0 M) (hk : RiseK ks) : RiseK (ks.take e ++ M) := by
  unfold RiseK
  rw [List.pairwise_append]
  exact ⟨List.Pairwise.sublist (List.take_sublist _ _) hk, h.rise, h.lowK⟩
theorem MInv.mem_all {ks fresh : List KeyS} {e : Nat} {M : List KeyS} (h : MInv ks fresh e 0 M) (x : KeyS) : x ∈ ks.take e ++ M ↔ x ∈ ks ∨ x ∈ fresh := by
  rw [List.mem_append, h.mem, List.drop_zero]
  conv => rhs; rw [← List.take_append_drop e ks, List.mem_append]
  rw [or_assoc]
/-- The array: the keys up to e, and M behind e + r. -/
structure MArr (ks : List KeyS) (cur : Array Value) (e r : Nat) (M : List KeyS) : Prop where
  low : ∀ i (hi : i < ks.length), i < e → cur[i]? = some (keyV (ks[i]'hi))
  high : ∀ i (hi : i < M.length), cur[e + r + i]? = some (keyV (M[i]'hi))
theorem MArr.start {ks fresh : List KeyS} {cur : Array Value} (h : cur.toList.take (ks.length + fresh.length) = (ks ++ fresh).map keyV) : MArr ks cur ks.length fresh.length [] := by
  refine ⟨fun i hi _ => ?_, fun i hi => absurd hi (by simp)⟩
  have h1 : (cur.toList.take (ks.length + fresh.length))[i]? = some (keyV (ks[i]'hi)) := by
    rw [h, List.getElem?_map, List.getElem?_append_left hi, List.getElem?_eq_getElem hi]
    rfl
  rw [List.getElem?_take_of_lt (by omega)] at h1
  simpa using h1
/-- The copy, and the store behind it. -/
theorem MArr.step {ks : List KeyS} {cur : Array Value} {e r a : Nat} {M : List KeyS} {f : KeyS} (h : MArr ks cur e (r + 1) M) (hae : a ≤ e) (he : e ≤ ks.length) (hs : e + (r + 1) + M.length ≤ cur.size) :
    MArr ks ((cur.toList.take (a + (r + 1)) ++ (((ks.take e).drop a).map keyV) ++ cur.toList.drop (a + (r + 1) + (((ks.take e).drop a).map keyV).length)).toArray.setIfInBounds (a + r) (keyV f)) a r (f :: ((ks.take e).drop a ++ M)) := by
  have hl : (((ks.take e).drop a).map keyV).length = e - a := by rw [List.length_map, List.length_drop, List.length_take]; omega
  have hl2 : ((ks.take e).drop a).length = e - a := by rw [List.length_drop, List.length_take]; omega
  have hcs : cur.toList.length = cur.size := by simp
  refine ⟨fun i hi hia => ?_, fun i hi => ?_⟩
  · rw [Array.getElem?_setIfInBounds_ne (by omega)]
    simp only [List.getElem?_toArray]
    rw [List.append_assoc, List.getElem?_append_left (by rw [List.length_take]; omega), List.getElem?_take_of_lt (by omega)]
    have := h.low i hi (by omega)
    simpa using this
  · cases i with
    | zero =>
      simp only [Nat.add_zero, List.getElem_cons_zero]
      rw [Array.getElem?_setIfInBounds_self_of_lt]
      simp only [List.size_toArray, List.length_append, List.length_take, List.length_drop, hl, hcs]
      omega
    | succ i =>
      rw [Array.getElem?_setIfInBounds_ne (by omega)]
      simp only [List.getElem?_toArray, List.getElem_cons_succ]
      rw [List.append_assoc, List.getElem?_append_right (by rw [List.length_take]; omega), List.length_take, Nat.min_eq_left (by omega)]
      have e1 : a + r + (i + 1) - (a + (r + 1)) = i := by omega
      rw [e1]
      by_cases hi2 : i < e - a
      · rw [List.getElem?_append_left (by omega), List.getElem?_map, List.getElem?_eq_getElem (by omega), List.getElem_append_left (by omega)]
        rfl
      · rw [List.getElem?_append_right (by omega), hl, List.getElem?_drop, List.getElem_append_right (by omega)]
        have h1 := h.high (i - (e - a)) (by simp only [List.length_cons, List.length_append, hl2] at hi; omega)
        have e2 : a + (r + 1) + (e - a) + (i - (e - a)) = e + (r + 1) + (i - (e - a)) := by omega
        rw [e2]
        simp only [hl2]
        simpa using h1
theorem MArr.done {ks : List KeyS} {cur : Array Value} {e n : Nat} {M : List KeyS} (h : MArr ks cur e 0 M) (he : e ≤ ks.length) (hn : e + M.length = n) (hs : n ≤ cur.size) : cur.toList.take n = (ks.take e ++ M).map keyV := by
  have hcs : cur.toList.length = cur.size := by simp
  apply List.ext_getElem?
  intro i
  by_cases hi : i < n
  · rw [List.getElem?_take_of_lt hi, List.getElem?_map]
    by_cases hie : i < e
    · rw [List.getElem?_append_left (by rw [List.length_take]; omega), List.getElem?_take_of_lt hie]
      rw [Array.getElem?_toList, h.low i (by omega) hie, List.getElem?_eq_getElem (by omega)]
      rfl
    · rw [List.getElem?_append_right (by rw [List.length_take]; omega), List.length_take, Nat.min_eq_left he]
      have h1 := h.high (i - e) (by omega)
      have e1 : e + 0 + (i - e) = i := by omega
      rw [e1] at h1
      rw [Array.getElem?_toList, h1, List.getElem?_eq_getElem (by omega)]
      rfl
  · rw [List.getElem?_eq_none (by rw [List.length_take]; omega), List.getElem?_eq_none (by rw [List.length_map, List.length_append, List.length_take]; omega)]
end Go.Proofs.Ytooegjdppeiccaa
