import Derived.Test.YtfpjepeikjfkpaaGreatDoorZC05
import Derived.Lib.SlicesCompact
import Derived.Test.YtfpjepeikjfkpaaGreatDoorZC22
import Derived.Test.YtfpjepeikjfkpaaGreatDoorZC06
import Derived.Test.YtfpjepeikjfkpaaGreatDoorZC32
import Derived.Sort.OwnSorted
import Derived.Sort.EveryDepth
import Derived.Deep.LoopGhost
/-
  Names of terms in plain words: sorted and each once, they are what is got by putting each in its place.
-/
namespace Go.Proofs.YtfpjepeikjfkpaaGreatDoor
open Go.RowKit

theorem blt_iff : ∀ (a b : List UInt8), blt a b = true ↔ a < b
  | [], [] => by simp [blt_nil]
  | [], _ :: _ => by simp only [List.nil_lt_cons, iff_true]; rfl
  | _ :: _, [] => by simp [blt_nil]
  | p :: x, q :: y => by
    rw [List.cons_lt_cons_iff, ← blt_iff x y, blt_cons]
    simp
theorem le_blt (a b : List UInt8) : decide (a ≤ b) = !blt b a := by
  cases h : blt b a
  · have h2 : ¬ b < a := fun h3 => by
      have := (blt_iff b a).2 h3
      rw [h] at this
      cases this
    simpa using h2
  · have h2 := (blt_iff b a).1 h
    simpa using h2
theorem nlt_trans {a b c : List UInt8} (h1 : blt b a = false) (h2 : blt c b = false) : blt c a = false := by
  cases h : blt c a
  · rfl
  · rcases blt_tri a b with g | rfl | g
    · rw [blt_trans h g] at h2; cases h2
    · rw [h] at h2; cases h2
    · rw [g] at h1; cases h1

theorem strict_eq : ∀ {a b : List (List UInt8)}, a.Pairwise (fun x y => blt x y = true) → b.Pairwise (fun x y => blt x y = true) → (∀ x, x ∈ a ↔ x ∈ b) → a = b
  | [], [], _, _, _ => rfl
  | [], y :: b, _, _, h => absurd ((h y).2 (List.mem_cons_self ..)) (by simp)
  | x :: a, [], _, _, h => absurd ((h x).1 (List.mem_cons_self ..)) (by simp)
  | x :: a, y :: b, ha, hb, h => by
    rw [List.pairwise_cons] at ha hb
    have e : x = y := by
      rcases List.mem_cons.1 ((h x).1 (List.mem_cons_self ..)) with e | hx
      · exact e
      · rcases List.mem_cons.1 ((h y).2 (List.mem_cons_self ..)) with e | hy
        · exact e.symm
        · have h1 := blt_asymm (hb.1 x hx)
          rw [ha.1 y hy] at h1
          cases h1
    subst e
    have ht := strict_eq ha.2 hb.2 (fun z => by
      constructor
      · intro hz
        rcases List.mem_cons.1 ((h z).1 (List.mem_cons_of_mem _ hz)) with e | hz'
        · subst e
          have := ha.1 z hz
          rw [blt_self] at this
          cases this
        · exact hz'
      · intro hz
        rcases List.mem_cons.1 ((h z).2 (List.mem_cons_of_mem _ hz)) with e | hz'
        · subst e
          have := hb.1 z hz
          rw [blt_self] at this
          cases this
        · exact hz')
    rw [ht]

/-! ### each in its place -/
theorem ins_mem (x z : List UInt8) : ∀ l : List (List UInt8), z ∈ insName x l ↔ z = x ∨ z ∈ l
  | [] => by simp [insName]
  | y :: l => by
    unfold insName
    split
    · simp
    · split
      · next h => subst h; simp
      · rw [List.mem_cons, ins_mem x z l, List.mem_cons]
        constructor
        · rintro (h | h | h)
          · exact .inr (.inl h)
          · exact .inl h
          · exact .inr (.inr h)
        · rintro (h | h | h)
          · exact .inr (.inl h)
          · exact .inl h
          · exact .inr (.inr h)
theorem ins_strict (x : List UInt8) : ∀ {l : List (List UInt8)}, l.Pairwise (fun x y => blt x y = true) → (insName x l).Pairwise (fun x y => blt x y = true)
  | [], _ => by simp [insName]
  | y :: l, h => by
    have h' := List.pairwise_cons.1 h
    unfold insName
    split
    · next g =>
      rw [List.pairwise_cons]
      refine ⟨fun z hz => ?_, h⟩
      rcases List.mem_cons.1 hz with rfl | hz
      · exact g
      · exact blt_trans g (h'.1 z hz)
    · next g =>
      split
      · exact h
      · next e =>
        rw [List.pairwise_cons]
        refine ⟨fun z hz => ?_, ins_strict x h'.2⟩
        rcases (ins_mem x z l).1 hz with rfl | hz
        · rcases blt_tri z y with k | k | k
          · exact absurd k g
          · exact absurd k e
          · exact k
        · exact h'.1 z hz
theorem fold_ins : ∀ (l acc : List (List UInt8)), acc.Pairwise (fun x y => blt x y = true) → (l.foldl (fun out x => insName x out) acc).Pairwise (fun x y => blt x y = true) ∧ ∀ z, z ∈ l.foldl (fun out x => insName x out) acc ↔ z ∈ l ∨ z ∈ acc
  | [], acc, h => ⟨h, fun z => by simp⟩
  | x :: l, acc, h => by
    obtain ⟨h1, h2⟩ := fold_ins l (insName x acc) (ins_strict x h)
    refine ⟨h1, fun z => ?_⟩
    rw [List.foldl_cons, h2, ins_mem, List.mem_cons]
    constructor
    · rintro (h | h | h)
      · exact .inl (.inr h)
      · exact .inl (.inl h)
      · exact .inr h
    · rintro ((h | h) | h)
      · exact .inr (.inl h)
      · exact .inl h
      · exact .inr (.inr h)

/-- The names of variables, in the terms' order. -/
def isNm (t : TM) : Bool := decide (t.op = 1 ∨ t.op = 2)
def nmsE (l : List TM) : List (List UInt8) := (l.filter isNm).map fun t => t.nm.data.toList
theorem nmsE_append (a b : List TM) : nmsE (a ++ b) = nmsE a ++ nmsE b := by simp [nmsE]
theorem names_fold : ∀ (l : List TM) (acc : List (List UInt8)), l.foldl (fun out t => if t.op = 1 ∨ t.op = 2 then insName t.nm.data.toList out else out) acc = (nmsE l).foldl (fun out x => insName x out) acc
  | [], _ => rfl
  | t :: l, acc => by
    rw [List.foldl_cons, names_fold l]
    by_cases h : t.op = 1 ∨ t.op = 2
    · rw [if_pos h]
      have e : nmsE (t :: l) = t.nm.data.toList :: nmsE l := by
        have : isNm t = true := by simp [isNm, h]
        simp [nmsE, this]
      rw [e, List.foldl_cons]
    · rw [if_neg h]
      have e : nmsE (t :: l) = nmsE l := by
        have : isNm t = false := by simp [isNm]; omega
        simp [nmsE, this]
      rw [e]

/-! ### sorted, each once -/
theorem compact_sorted (zs : List (List UInt8)) (hs : zs.Pairwise (fun x y => blt y x = false)) : ∀ m, m ≤ zs.length →
    (∀ x, x ∈ Lib.compactUpTo zs.toArray m ↔ x ∈ zs.take m) ∧ (Lib.compactUpTo zs.toArray m).Pairwise (fun x y => blt x y = true) := by
  intro m
  induction m with
  | zero => intro _; simp [Lib.compactUpTo]
  | succ m ih =>
    intro hm
    obtain ⟨h1, h2⟩ := ih (by omega)
    have hd : ∀ j (h : j < zs.length), zs.toArray[j]! = zs[j] := fun j h => by simp [h]
    have hle := List.pairwise_iff_getElem.1 hs
    rw [Lib.compactUpTo_succ, List.take_succ_eq_append_getElem (by omega : m < zs.length), hd m (by omega)]
    cases hk : Lib.keeps zs.toArray m
    · unfold Lib.keeps at hk
      rw [decide_eq_false_iff_not, not_or] at hk
      obtain ⟨k1, k2⟩ := hk
      have k3 : zs[m] = zs[m - 1] := by
        rw [hd m (by omega), hd (m - 1) (by omega)] at k2
        exact Classical.not_not.1 k2
      rw [if_neg (by simp), List.append_nil]
      refine ⟨fun x => ?_, h2⟩
      rw [h1, List.mem_append, List.mem_singleton]
      constructor
      · exact .inl
      · rintro (h | h)
        · exact h
        · subst h
          rw [k3, List.mem_take_iff_getElem]
          exact ⟨m - 1, by omega, rfl⟩
    · rw [if_pos rfl]
      refine ⟨fun x => ?_, ?_⟩
      · rw [List.mem_append, List.mem_append, h1]
      · rw [List.pairwise_append]
        refine ⟨h2, List.pairwise_singleton .., fun x hx y hy => ?_⟩
        rw [List.mem_singleton] at hy
        subst hy
        rw [h1, List.mem_take_iff_getElem] at hx
        obtain ⟨i, hi, rfl⟩ := hx
        unfold Lib.keeps at hk
        rw [decide_eq_true_iff] at hk
        have hmp : 0 < m := by omega
        have hne : zs[m] ≠ zs[m - 1] := by
          rcases hk with hk | hk
          · omega
          · rwa [hd m (by omega), hd (m - 1) (by omega)] at hk
        have h3 : blt zs[m - 1] zs[m] = true := by
          rcases blt_tri zs[m - 1] zs[m] with g | g | g
          · exact g
          · exact absurd g.symm hne
          · rw [hle (m - 1) m (by omega) (by omega) (by omega)] at g; cases g
        by_cases him : i = m - 1
        · subst him
          exact h3
        · have h4 := hle i (m - 1) (by omega) (by omega) (by omega)
          rcases blt_tri zs[i] zs[m - 1] with g | g | g
          · exact blt_trans g h3
          · rw [g]; exact h3
          · rw [h4] at g; cases g
theorem names_sorted (l : List TM) : Lib.compact ((nmsE l).mergeSort fun x y => decide (x ≤ y)) = namesE l := by
  have hsrt : ((nmsE l).mergeSort fun x y => decide (x ≤ y)).Pairwise (fun x y => blt y x = false) := by
    have h := List.pairwise_mergeSort (le := fun x y : List UInt8 => decide (x ≤ y)) (fun a b c h1 h2 => by
      rw [le_blt] at h1 h2 ⊢
      have h1' : blt b a = false := by simpa using h1
      have h2' : blt c b = false := by simpa using h2
      simpa using nlt_trans h1' h2') (fun a b => by
      rw [le_blt, le_blt]
      rcases blt_tri a b with g | rfl | g
      · simp [blt_asymm g]
      · simp [blt_self]
      · simp [blt_asymm g]) (nmsE l)
    exact h.imp fun {x y} h => by
      rw [le_blt] at h
      simpa using h
  obtain ⟨h1, h2⟩ := compact_sorted _ hsrt _ (Nat.le_refl _)
  have hn : namesE l = (nmsE l).foldl (fun out x => insName x out) [] := names_fold l []
  obtain ⟨h3, h4⟩ := fold_ins (nmsE l) [] List.Pairwise.nil
  rw [hn]
  refine strict_eq h2 h3 fun x => ?_
  show x ∈ Lib.compactUpTo _ _ ↔ _
  rw [h4, h1, List.take_length]
  simp
theorem names_len (l : List TM) : (namesE l).length ≤ l.length := by
  have h : ∀ (a acc : List (List UInt8)), (a.foldl (fun out x => insName x out) acc).length ≤ a.length + acc.length := by
    intro a
    induction a with
    | nil => intro acc; simp
    | cons x a ih =>
      intro acc
      have h1 := ih (insName x acc)
      have h2 : ∀ b : List (List UInt8), (insName x b).length ≤ b.length + 1 := by
        intro b
        induction b with
        | nil => simp [insName]
        | cons y b ihb =>
          unfold insName
          split
          · simp
          · split
            · simp
            · simp only [List.length_cons]; omega
      have h3 := h2 acc
      rw [List.foldl_cons, List.length_cons]
      omega
  have hn : namesE l = (nmsE l).foldl (fun out x => insName x out) [] := names_fold l []
  rw [hn]
  have h1 := h (nmsE l) []
  have h2 : (nmsE l).length ≤ l.length := by
    unfold nmsE
    rw [List.length_map]
    exact List.length_filter_le ..
  simp only [List.length_nil] at h1
  omega
end Go.Proofs.YtfpjepeikjfkpaaGreatDoor

/-
  Package expr: Names of any terms.
-/
namespace Go.Proofs.YtfpjepeikjfkpaaGreatDoor
open Go.RowKit

/-! ### nothing sorted -/
theorem len_zero (w : World) : Calls Tryz.prog 55 #[.int .u64 0] w fun e w' => e = .returned (.int .i64 0) ∧ w = w' :=
  (calls_of_every_depth fun D => AnyS.bits_LenInS (ρ := Tryz.lays190_ren) { Tryz.lays190 with } D 0 w (by decide) (by decide)).mono fun e w' h => ⟨h.1, h.2.symm⟩
set_option maxHeartbeats 1000000 in
theorem insertion_zero (w : World) : Calls Tryz.prog 85 #[.slice none 0 0, .int .i64 0, .int .i64 0] w fun e w' => e = .returned (.tuple #[]) ∧ w = w' := by
  go_enter Tryz.func85, Tryz.ntmps85
  go_wp2
  go_loopg [6] 0 (fun q i wr => i = .int .i64 1 ∧ wr = w)
  case atStart => exact ⟨rfl, rfl⟩
  case round =>
    obtain ⟨rfl, rfl⟩ := hrel
    go_wp2
    exact bodyPost_end (v := .tuple #[]) (by simp [results, Tryz.results85, go_sem]) rfl ⟨rfl, rfl⟩
set_option maxHeartbeats 1000000 in
set_option maxRecDepth 100000 in
theorem pdq_zero (w : World) : Calls Tryz.prog 54 #[.slice none 0 0, .int .i64 0, .int .i64 0, .int .i64 0] w fun e w' => e = .returned (.tuple #[]) ∧ w = w' := by
  have HI := Lib.hid insertion_zero
  go_enter Tryz.func54, Tryz.ntmps54
  go_wp2
  go_loopg [1, 2, 3] 0 (fun q a b c wr => a = .int .i64 0 ∧ b = .int .i64 0 ∧ c = .int .i64 0 ∧ wr = w)
  case atStart => exact ⟨rfl, rfl, rfl, rfl⟩
  case round =>
    obtain ⟨rfl, rfl, rfl, rfl⟩ := hrel
    go_wp2_with (go_at_call 85; refine (HI.out _).mono ?_; rintro r w' ⟨rfl, rfl⟩)
    exact bodyPost_ret (v := .tuple #[]) (by simp [results, Tryz.results54, go_sem]) rfl ⟨rfl, rfl⟩
set_option maxHeartbeats 1000000 in
theorem sort_zero (w : World) : Calls Tryz.prog 28 #[.slice none 0 0] w fun e w' => e = .returned (.tuple #[]) ∧ Below w.heap.size w w' := by
  have HP := Lib.hid pdq_zero
  have HL := Lib.hid len_zero
  have HB := Lib.hid (Below.refl w.heap.size w)
  go_enter Tryz.func28, Tryz.ntmps28
  go_wp2_with (first | (go_at_call 55; refine (HL.out _).mono ?_; rintro r w' ⟨rfl, rfl⟩) | (go_at_call 54; refine (HP.out _).mono ?_; rintro r w' ⟨rfl, rfl⟩))
  exact bodyPost_end (v := .tuple #[]) (by simp [results, Tryz.results28, go_sem]) rfl ⟨rfl, HB.out⟩
set_option maxHeartbeats 1000000 in
theorem compact_zero (w : World) : Calls Tryz.prog 29 #[.slice none 0 0] w fun e w' => e = .returned (.slice none 0 0) ∧ w = w' := by
  go_enter Tryz.func29, Tryz.ntmps29
  go_wp2
  go_ret
  exact ⟨rfl, rfl⟩

/-! ### sorted, and each once -/
def nmsB (l : List TM) : List ByteArray := (l.filter isNm).map (·.nm)
def cellsT' (x : TM) : List Value := [.int .i64 x.op, .int .i64 x.v.k, .int .i64 x.v.n, .string x.v.s, .string x.nm]
theorem nmsB_append (a b : List TM) : nmsB (a ++ b) = nmsB a ++ nmsB b := by simp [nmsB]
theorem nmsB_E (l : List TM) : (nmsB l).map Value.string = (nmsE l).map encStr := by
  unfold nmsB nmsE
  rw [List.map_map, List.map_map]
  apply List.map_congr_left
  intro t _
  rfl
theorem nmsB_len (l : List TM) : (nmsB l).length = (nmsE l).length := by simp [nmsB, nmsE]
/-- A list of texts as they lie in memory. -/
def asB (l : List (List UInt8)) : List ByteArray := l.map fun x => ⟨x.toArray⟩
theorem asB_E (l : List (List UInt8)) : (asB l).map Value.string = l.map encStr := by
  unfold asB
  rw [List.map_map]
  rfl
theorem RowS.front {w : World} {lo hi : Nat} {A : Option Addr} {a b : List ByteArray} (h : RowS w lo hi A (a ++ b)) : RowS w lo hi A a := fun hn => by
  obtain ⟨g, o, e, h1, h2, hc⟩ := h (by rw [List.length_append]; omega)
  refine ⟨g, o, e, h1, h2, fun j hj => ?_⟩
  have := hc j (by rw [List.length_append]; omega)
  rwa [List.getElem_append_left hj] at this
theorem sort_own {w : World} {base g cap : Nat} {ss : List (List UInt8)} {cur : Array Value} (hbase : base ≤ g) (hb : w.heap[g]? = some (.cells cur 9 (0, 0))) (h1 : ss.length ≤ cap) (h2 : cap ≤ maxLen) (h3 : cur.size = cap * 1) (h4 : cur.toList.take (ss.length * 1) = ss.map encStr) (hsz : ss.length ≤ 1000000) :
    Calls Tryz.prog 28 #[.slice (some ⟨g, 0, none⟩) ss.length cap] w fun e w' => e = .returned (.tuple #[]) ∧ Below base w w' ∧
      w'.ownsRow base 9 1 (.slice (some ⟨g, 0, none⟩) ss.length cap) ss.length ((ss.mergeSort fun x y => decide (x ≤ y)).map encStr) := by
  have hg : g < w.heap.size := (Array.getElem?_eq_some_iff.1 hb).1
  refine (Any.slices_Sort_string Tryz.lays190 g 0 cap ss w (holds_of_block hb (by rw [Nat.mul_one] at h4; exact h4)) hg (by omega)).mono ?_
  rintro e w' ⟨rfl, n, os, rfl⟩
  refine ⟨rfl, ?_, ownsRow_sorted (by simp) hbase hb h1 h2 h3⟩
  exact (Below.refl base w).grown (grownBy_sorted _) (by omega) (fun g' hg' => by injection hg' with hg'; omega)
theorem compact_own {w : World} {base g cap : Nat} {ss : List (List UInt8)} {cur : Array Value} (hbase : base ≤ g) (hb : w.heap[g]? = some (.cells cur 9 (0, 0))) (h1 : ss.length ≤ cap) (h2 : cap ≤ maxLen) (h3 : cur.size = cap * 1) (h4 : cur.toList.take (ss.length * 1) = ss.map encStr) (hsz : ss.length ≤ 1000000) :
    Calls Tryz.prog 29 #[.slice (some ⟨g, 0, none⟩) ss.length cap] w fun e w' => e = .returned (.slice (some ⟨g, 0, none⟩) (Lib.compact ss).length cap) ∧ Below base w w' ∧
      RowS w' base w'.heap.size (some ⟨g, 0, none⟩) (asB (Lib.compact ss)) := by
  have hg : g < w.heap.size := (Array.getElem?_eq_some_iff.1 hb).1
  refine (Any.slices_Compact_string Tryz.lays194 g 0 cap ss w (holds_of_block hb (by rw [Nat.mul_one] at h4; exact h4)) (by omega) h1).mono ?_
  rintro e w' ⟨rfl, q, hw⟩
  have hle := Lib.compact_length_le ss
  have hgr : ∀ w : World, Go.Sort.grow w #[] = w := fun w => by simp [Go.Sort.grow]
  rw [← hgr (Go.Sort.putRow _ _ _ _ _)] at hw
  have hown := ownsRow_sorted (n := q) (os := #[]) (ss := ss) (ts := Lib.compact ss ++ List.replicate (ss.length - (Lib.compact ss).length) []) (by simp; omega) hbase hb h1 h2 h3
  have hbl : Below base w w' := by
    rw [hw]
    exact (Below.refl base w).grown (grownBy_sorted _) (by omega) (fun g' hg' => by injection hg' with hg'; omega)
  rw [← hw] at hown
  refine ⟨rfl, hbl, ?_⟩
  rw [← asB_E] at hown
  obtain ⟨A, c, e, _, _, _, hr⟩ := RowS.own hown
  injection e with e
  rw [e]
  refine RowS.front (b := asB (List.replicate (ss.length - (Lib.compact ss).length) [])) ?_
  rw [show asB (Lib.compact ss) ++ asB (List.replicate (ss.length - (Lib.compact ss).length) []) = asB (Lib.compact ss ++ List.replicate (ss.length - (Lib.compact ss).length) []) from by simp [asB]]
  exact hr

set_option maxRecDepth 100000 in
set_option maxHeartbeats 4000000 in
theorem dNames_any (l : List TM) (A : Option Addr) (c : Nat) (hll : l.length ≤ 1000) (w : World) (hr : RowT w 0 w.heap.size A l) :
    Calls Tryz.prog 13 #[.slice A l.length c] w fun r w' => ∃ A' c', r = .returned (.slice A' (namesE l).length c') ∧ RowS w' w.heap.size w'.heap.size A' (asB (namesE l)) ∧ Below w.heap.size w w' := by
  have HR := Lib.hid hr
  obtain ⟨i0, hi0, hz0, hs0, hb0⟩ := infoStr
  have I0 := Lib.hid hi0
  have I1 := Lib.hid hz0
  have I2 := Lib.hid hs0
  have I3 := Lib.hid hb0
  clear hr hi0 hz0 hs0 hb0
  go_enter Tryz.func13, Tryz.ntmps13
  go_wp2
  go_loopg [3, 8] l.length (fun q v i wr => ∃ j : Nat, j + q = l.length ∧ i = .int .i64 (j : Int) ∧ wr.ownsRow w.heap.size 9 1 v (nmsB (l.take j)).length ((nmsB (l.take j)).map Value.string) ∧ Below w.heap.size w wr)
  case atStart => exact ⟨0, by omega, rfl, World.ownsRow_nil _ _ _ _, Below.refl _ _⟩
  case round =>
    obtain ⟨j, hk, rfl, hown, hb⟩ := hrel
    have HK := Lib.hid hk
    have HB := Lib.hid hb
    have HO := Lib.hid hown
    clear hb hk hown
    by_cases hj : j < l.length
    · have hlt : decide ((j : Int) < (l.length : Int)) = true := by simpa using hj
      have hlt2 : decide (j < l.length) = true := by simpa using hj
      obtain ⟨b, o, rfl, c0, c1, c2, c3, c4⟩ := (HR.out.below HB.out (Nat.le_refl _)).at_ hj
      have ht : nmsB (l.take (j + 1)) = nmsB (l.take j) ++ nmsB [l[j]] := by rw [List.take_succ_eq_append_getElem hj, nmsB_append]
      have hnl : (nmsB (l.take j)).length ≤ 1000 := by
        unfold nmsB
        rw [List.length_map]
        refine Nat.le_trans (List.length_filter_le ..) ?_
        rw [List.length_take]
        omega
      generalize l[j] = x at *
      have hbn := HB.out.alloc HB.out.size (.cells (cellsT' x).toArray 44)
      have hown1 := World.ownsRow.alloc HO.out (.cells (cellsT' x).toArray 44)
      by_cases hx : x.op = 1 ∨ x.op = 2
      · have hx1 : nmsB [x] = [x.nm] := by
          have : isNm x = true := by simp [isNm, hx]
          simp [nmsB, this]
        rw [hx1] at ht
        have HT := Lib.hid ht
        have g1 : (x.op == 1) = true ∨ ((x.op == 1) = false ∧ (x.op == 2) = true) := by
          simp only [beq_iff_eq, beq_eq_false_iff_ne]
          omega
        have HBN := Lib.hid hbn
        have HO1 := Lib.hid hown1
        clear hx ht hx1 hbn hown1
        generalize nmsB (l.take j) = ns at *
        obtain ⟨op, ⟨vk, vn, vs⟩, nm⟩ := x
        simp only [cellsT'] at c0 c1 c2 c3 c4 HBN HO1 g1 HT
        have hone := RowS.one (wr.alloc (.cells #[.int .i64 op, .int .i64 vk, .int .i64 vn, .string vs, .string nm] 44)) 9 nm
        rw [show (wr.alloc (.cells #[.int .i64 op, .int .i64 vk, .int .i64 vn, .string vs, .string nm] 44)).heap.size = wr.heap.size + 1 from by simp] at hone
        have HOne := Lib.hid hone
        clear hone
        rcases g1 with g1 | ⟨g1, g2⟩
        all_goals
          go_wp2_with (at_builtin; refine append_strs _ rfl _ _ 28 rfl w.heap.size 9 i0 _ Tryz.underlying28 I0.out I1.out I2.out I3.out rfl _ _ ns rfl (World.ownsRow.alloc HO1.out _) _ _ _ 1 _ [nm] rfl rfl (by intro h; cases h) HOne.out (by simp; omega) (by have := HBN.out.size; simp at this ⊢; omega) ?_; intro v1 w3 hown1 hgrow1; have hb3 : Below w.heap.size w w3 := (HBN.out.alloc HBN.out.size _).grown hgrow1 (by have := HBN.out.size; simp at this ⊢; omega) (fun g hg => (HO.out.lt g hg).1); have HB3 := Lib.hid hb3; have HO3 := Lib.hid hown1; clear hgrow1 hb3 hown1)
          go_roundg (gk - 1)
          case measure => have := HK.out; omega
          case rel => exact ⟨j + 1, by have := HK.out; omega, by go_num, by rw [HT.out, List.length_append]; exact HO3.out, HB3.out⟩
      · have hx1 : nmsB [x] = [] := by
          have : isNm x = false := by simp [isNm]; omega
          simp [nmsB, this]
        rw [hx1, List.append_nil] at ht
        have HT := Lib.hid ht
        have g1 : (x.op == 1) = false := by rw [beq_eq_false_iff_ne]; omega
        have g2 : (x.op == 2) = false := by rw [beq_eq_false_iff_ne]; omega
        have HBN := Lib.hid hbn
        have HO1 := Lib.hid hown1
        clear hx ht hx1 hbn hown1
        obtain ⟨op, ⟨vk, vn, vs⟩, nm⟩ := x
        simp only [cellsT'] at c0 c1 c2 c3 c4 HBN HO1 g1 g2
        go_wp2
        go_roundg (gk - 1)
        case measure => have := HK.out; omega
        case rel => exact ⟨j + 1, by have := HK.out; omega, by go_num, by rw [HT.out]; exact HO1.out, HBN.out⟩
    · have hlt : decide ((j : Int) < (l.length : Int)) = false := by simpa using hj
      have hlt2 : decide (j < l.length) = false := by simpa using hj
      have hj' : j = l.length := by have := HK.out; omega
      have hown := HO.out
      rw [hj', List.take_length] at hown
      have hlen : (nmsE l).length ≤ 1000 := by
        unfold nmsE
        rw [List.length_map]
        exact Nat.le_trans (List.length_filter_le ..) hll
      have hsrt := names_sorted l
      rw [nmsB_E, nmsB_len] at hown
      have HS := Lib.hid hsrt
      have hml := List.length_mergeSort (le := fun x y : List UInt8 => decide (x ≤ y)) (nmsE l)
      rcases hown.2 with ⟨hv, h0⟩ | ⟨g, cap, cur, hv, hbase, hcur, h1, h2, h3, h4⟩
      · subst hv
        have hn0 : nmsE l = [] := List.eq_nil_of_length_eq_zero h0
        have HN0 := Lib.hid (show namesE l = [] by
          rw [← HS.out, hn0]
          simp [Lib.compact, Lib.compactUpTo])
        have HZ := Lib.hid (sort_zero wr)
        have HZ2 := Lib.hid compact_zero
        clear hj' hown hsrt hml h0 hn0
        go_wp2_with (first | (go_at_call 28; refine HZ.out.mono ?_; rintro r w2 ⟨rfl, hb2⟩; have HB2 := Lib.hid (HB.out.trans (hb2.mono HB.out.size)); clear hb2) | (go_at_call 29; refine (HZ2.out _).mono ?_; rintro r w' ⟨rfl, rfl⟩))
        go_ret
        rw [HN0.out]
        exact ⟨none, 0, rfl, fun h => by simp [asB] at h, HB2.out⟩
      · subst hv
        have HZ := Lib.hid (sort_own hbase hcur h1 h2 h3 h4 (by omega))
        clear hj' hown hsrt hcur h3 h4
        obtain ⟨zs, hzs⟩ : ∃ zs, zs = (nmsE l).mergeSort fun x y => decide (x ≤ y) := ⟨_, rfl⟩
        rw [← hzs] at HS HZ hml
        rw [← hml] at HZ hlen h1 ⊢
        clear hzs hml
        go_wp2_with fail
        refine HZ.out.mono ?_
        rintro r w2 ⟨rfl, hb2, ho2⟩
        have HB2 := Lib.hid (HB.out.trans hb2)
        rcases ho2.2 with ⟨hv, h0⟩ | ⟨g', cap', cur', hv, hbase', hcur', h1', h2', h3', h4'⟩
        · cases hv
        injection hv with e1 e2 e3
        injection e1 with e1
        injection e1 with e1 _
        subst e1 e3
        have HZ2 := Lib.hid (compact_own hbase' hcur' h1' h2' h3' h4' (by omega))
        rw [HS.out] at HZ2
        clear hb2 ho2 hcur' h3' h4' h1'
        go_wp2_with fail
        refine HZ2.out.mono ?_
        rintro r w3 ⟨rfl, hb3, hr3⟩
        have HB3 := Lib.hid (HB2.out.trans hb3)
        go_wp2_with fail
        go_ret
        exact ⟨_, _, rfl, hr3, HB3.out⟩
end Go.Proofs.YtfpjepeikjfkpaaGreatDoor
