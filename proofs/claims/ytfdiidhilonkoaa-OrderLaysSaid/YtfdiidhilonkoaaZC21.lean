import Derived.Test.YtfdiidhilonkoaaZC19
import Derived.Test.YtfdiidhilonkoaaZC20
import Derived.Test.YtfdiidhilonkoaaZC16
import Derived.Test.YtfdiidhilonkoaaZC10
set_option linter.unusedVariables false
/-
  Those that committed, in memory: values, rows, slices of them.
-/
namespace Go.Proofs.Ytfdiidhilonkoaa
open Go.RowKit

/-- One that committed, and where its rows lie. -/
structure MZ where
  d : DoneZ
  A : Option Addr
  c : Nat
  B : Option Addr
  e : Nat
def mzCells (x : MZ) : List Value := [.int .i64 x.d.id, .int .u64 x.d.began, .int .u64 x.d.at_, .int .i64 x.d.start, .int .i64 x.d.end_, .slice x.A x.d.reads.length x.c, .slice x.B x.d.writes.length x.e]
def mzVal (x : MZ) : Value := .agg #[.int .i64 x.d.id, .int .u64 x.d.began, .int .u64 x.d.at_, .int .i64 x.d.start, .int .i64 x.d.end_, .slice x.A x.d.reads.length x.c, .slice x.B x.d.writes.length x.e]
theorem mzF : Fixed 7 mzCells := ⟨by decide, fun _ => rfl, fun x v hv => by
  simp only [mzCells, List.mem_cons, List.not_mem_nil, or_false] at hv
  rcases hv with rfl | rfl | rfl | rfl | rfl | rfl | rfl <;> rfl⟩
theorem mzInfo : InfoG Try.prog 29 7 88 := InfoG.of (by kernel_rfl)
def OkMZ (w : World) (hi : Nat) (x : MZ) : Prop := ChI w hi x.A x.c x.d.reads ∧ ChI w hi x.B x.e x.d.writes
/-- Few enough for the contracts on stretches. -/
def fewMZ (x : MZ) : Prop := x.d.reads.length ≤ 1000 ∧ x.d.writes.length ≤ 1000
/-- A slice of those that committed. -/
def ChZ (w : World) (hi : Nat) (A : Option Addr) (c : Nat) (ms : List MZ) : Prop := ms.length ≤ c ∧ c ≤ maxLen ∧ (A = none → c = 0) ∧ RowG mzCells w 0 hi A ms ∧ ∀ x ∈ ms, OkMZ w hi x
section
variable {w w' : World} {hi hi' B : Nat} {A : Option Addr} {c : Nat} {ms : List MZ} {x : MZ}
theorem OkMZ.below (h : OkMZ w hi x) (hb : Below B w w') (hB : hi ≤ B) (hh : hi ≤ hi') : OkMZ w' hi' x := ⟨h.1.below hb hB hh, h.2.below hb hB hh⟩
theorem ChZ.below (h : ChZ w hi A c ms) (hb : Below B w w') (hB : hi ≤ B) (hh : hi ≤ hi') : ChZ w' hi' A c ms := ⟨h.1, h.2.1, h.2.2.1, (h.2.2.2.1.below hb hB).wide (Nat.le_refl _) hh, fun x hx => (h.2.2.2.2 x hx).below hb hB hh⟩
theorem ChI.kept {l : List Sp} (h : ChI w hi A c l) (hk : ∀ g, g < hi → w'.heap[g]? = w.heap[g]?) (hh : hi ≤ hi') : ChI w' hi' A c l := ⟨h.1, h.2.1, h.2.2.1, (h.2.2.2.keep fun _ _ h2 => World.cell?_of_block (hk _ h2)).wide (Nat.le_refl _) hh⟩
theorem ChZ.kept (h : ChZ w hi A c ms) (hk : ∀ g, g < hi → w'.heap[g]? = w.heap[g]?) (hh : hi ≤ hi') : ChZ w' hi' A c ms := ⟨h.1, h.2.1, h.2.2.1, (h.2.2.2.1.keep fun _ _ h2 => World.cell?_of_block (hk _ h2)).wide (Nat.le_refl _) hh, fun x hx => ⟨(h.2.2.2.2 x hx).1.kept hk hh, (h.2.2.2.2 x hx).2.kept hk hh⟩⟩
end
def dz (ms : List MZ) : List DoneZ := ms.map MZ.d
theorem dz_len (ms : List MZ) : (dz ms).length = ms.length := List.length_map ..
theorem dz_at {ms : List MZ} {i : Nat} (h : i < ms.length) : atD (dz ms) i = (ms[i]'h).d := by
  unfold atD dz
  rw [List.getD_eq_getElem?_getD, List.getElem?_map, List.getElem?_eq_getElem h]
  rfl
/-- Numbers, one cell each. -/
def inZ (z : Int) : List Value := [.int .i64 z]
theorem inZF : Fixed 1 inZ := ⟨by decide, fun _ => rfl, fun x v hv => by
  simp only [inZ, List.mem_cons, List.not_mem_nil, or_false] at hv
  subst hv
  rfl⟩
theorem inZInfo : InfoG Try.prog 3 1 8 := InfoG.of (by kernel_rfl)
/-- What Order tells. -/
def OrdV (o : Option (List Nat)) (w : World) (r : Ending) (w' : World) : Prop :=
  (o = none → r = .returned (.tuple #[.slice none 0 0, .bool false])) ∧ (∀ l, o = some l → ∃ A c, r = .returned (.tuple #[.slice A l.length c, .bool true]) ∧ l.length ≤ c ∧ c ≤ maxLen ∧ (A = none → c = 0) ∧ RowG inZ w' w.heap.size w'.heap.size A (l.map fun n : Nat => (n : Int))) ∧ Below w.heap.size w w'
end Go.Proofs.Ytfdiidhilonkoaa

/-
  cmp.Compare of ints and times; the comparisons by which package order lays its rows: by End, by Began.
-/
namespace Go.Proofs.Ytfdiidhilonkoaa
open Go.RowKit

def cmpZ (x y : Int) : Int := if x < y then -1 else if y < x then 1 else 0
theorem cmpZ_neg (x y : Int) : cmpZ x y < 0 ↔ x < y := by
  unfold cmpZ
  repeat' split
  all_goals omega
theorem nanI_any (x : Int) (W : World) : Calls Try.prog 44 #[.int .i64 x] W fun r w' => r = .returned (.bool false) ∧ W = w' := by
  go_enter Try.func44, Try.ntmps44
  go_wp2
  go_ret
  exact ⟨by simp, rfl⟩
theorem nanU_any (x : Int) (W : World) : Calls Try.prog 45 #[.int .u64 x] W fun r w' => r = .returned (.bool false) ∧ W = w' := by
  go_enter Try.func45, Try.ntmps45
  go_wp2
  go_ret
  exact ⟨by simp, rfl⟩
theorem compareI_any (x y : Int) (W : World) : Calls Try.prog 34 #[.int .i64 x, .int .i64 y] W fun r w' => r = .returned (.int .i64 (cmpZ x y)) ∧ W = w' := by
  have HN := Lib.hid nanI_any
  go_enter Try.func34, Try.ntmps34
  go_wp2_with fail
  refine (HN.out _ _).mono ?_
  rintro r w1 ⟨rfl, rfl⟩
  go_wp2_with fail
  refine (HN.out _ _).mono ?_
  rintro r w1 ⟨rfl, rfl⟩
  by_cases h1 : x < y
  · have d1 : decide (x < y) = true := by simpa using h1
    have HE := Lib.hid (show cmpZ x y = -1 by unfold cmpZ; rw [if_pos h1])
    go_wp2_with fail
    go_ret
    rw [HE.out]
    exact ⟨rfl, rfl⟩
  · have d1 : decide (x < y) = false := by simpa using h1
    by_cases h2 : y < x
    · have d2 : decide (x > y) = true := by simpa using h2
      have HE := Lib.hid (show cmpZ x y = 1 by unfold cmpZ; rw [if_neg h1, if_pos h2])
      go_wp2_with fail
      go_ret
      rw [HE.out]
      exact ⟨rfl, rfl⟩
    · have d2 : decide (x > y) = false := by simpa using h2
      have HE := Lib.hid (show cmpZ x y = 0 by unfold cmpZ; rw [if_neg h1, if_neg h2])
      go_wp2_with fail
      go_ret
      rw [HE.out]
      exact ⟨rfl, rfl⟩
theorem compareU_any (x y : Int) (W : World) : Calls Try.prog 36 #[.int .u64 x, .int .u64 y] W fun r w' => r = .returned (.int .i64 (cmpZ x y)) ∧ W = w' := by
  have HN := Lib.hid nanU_any
  go_enter Try.func36, Try.ntmps36
  go_wp2_with fail
  refine (HN.out _ _).mono ?_
  rintro r w1 ⟨rfl, rfl⟩
  go_wp2_with fail
  refine (HN.out _ _).mono ?_
  rintro r w1 ⟨rfl, rfl⟩
  by_cases h1 : x < y
  · have d1 : decide (x < y) = true := by simpa using h1
    have HE := Lib.hid (show cmpZ x y = -1 by unfold cmpZ; rw [if_pos h1])
    go_wp2_with fail
    go_ret
    rw [HE.out]
    exact ⟨rfl, rfl⟩
  · have d1 : decide (x < y) = false := by simpa using h1
    by_cases h2 : y < x
    · have d2 : decide (x > y) = true := by simpa using h2
      have HE := Lib.hid (show cmpZ x y = 1 by unfold cmpZ; rw [if_neg h1, if_pos h2])
      go_wp2_with fail
      go_ret
      rw [HE.out]
      exact ⟨rfl, rfl⟩
    · have d2 : decide (x > y) = false := by simpa using h2
      have HE := Lib.hid (show cmpZ x y = 0 by unfold cmpZ; rw [if_neg h1, if_neg h2])
      go_wp2_with fail
      go_ret
      rw [HE.out]
      exact ⟨rfl, rfl⟩
/-- What a captured slice of those that committed reads as. -/
structure CapD (w : World) (n0 : Nat) (A : Option Addr) (c : Nat) (ms : List MZ) : Prop where
  cell : w.cell? ⟨n0, 0, none⟩ = some (.slice A ms.length c)
  row : RowG mzCells w 0 w.heap.size A ms
theorem CapD.below {w w' : World} {n0 : Nat} {A : Option Addr} {c : Nat} {ms : List MZ} (h : CapD w n0 A c ms) (hb : Below w.heap.size w w') : CapD w' n0 A c ms :=
  ⟨(hb.cell (World.block_lt_of_cell? w _ h.cell)).trans h.cell, (h.row.below hb (Nat.le_refl _)).wide (Nat.le_refl _) hb.size⟩
set_option maxRecDepth 100000 in
set_option maxHeartbeats 4000000 in
theorem cmpEnd_any (ms : List MZ) (A : Option Addr) (c n0 : Nat) (W : World) (h : CapD W n0 A c ms) (x y : Nat) (hx : x < ms.length) (hy : y < ms.length) :
    Calls Try.prog 33 #[.int .i64 (x : Nat), .int .i64 (y : Nat), .pointer (some ⟨n0, 0, none⟩)] W fun r w' => r = .returned (.int .i64 (cmpZ (ms[x]'hx).d.end_ (ms[y]'hy).d.end_)) ∧ Below W.heap.size W w' := by
  obtain ⟨b, o, rfl, _, hb, hcx⟩ := h.row.at_ mzF hx
  obtain ⟨b2, o2, e2, _, hb2, hcy⟩ := h.row.at_ mzF hy
  injection e2 with e2
  injection e2 with e3 e4
  subst e3 e4
  have cx := hcx 4 (.int .i64 (ms[x]'hx).d.end_) rfl
  have cy := hcy 4 (.int .i64 (ms[y]'hy).d.end_) rfl
  have HCl := Lib.hid (fun (V : World) (hV : Below W.heap.size W V) => And.intro ((hV.cell (World.block_lt_of_cell? W _ h.cell)).trans h.cell) (And.intro ((hV.cell hb).trans cx) ((hV.cell hb).trans cy)))
  have q1 : (x : Int) < (ms.length : Int) := by omega
  have q2 : (y : Int) < (ms.length : Int) := by omega
  generalize (ms[x]'hx).d.end_ = u at *
  generalize (ms[y]'hy).d.end_ = v at *
  have HCp : Hid (∀ V : World, Below W.heap.size W V → Calls Try.prog 34 #[.int .i64 u, .int .i64 v] V fun r w' => r = .returned (.int .i64 (cmpZ u v)) ∧ Below W.heap.size W w') :=
    Lib.hid fun V hV => (compareI_any u v V).mono fun _ _ q => ⟨q.1, q.2 ▸ hV⟩
  clear h hcx hcy cx cy
  go_enter Try.func33, Try.ntmps33
  go_wp2
  refine wp_region_classJ (C := fun w' => Below W.heap.size W w') (by kernel_rfl) (by kernel_rfl) (Below.refl _ _).drew ?_
  repeat (quiet_step (first
    | (intro hw; with_reducible exact HCp.out _ hw)
    | (intro _; with_reducible rfl)
    | (intro _; with_reducible exact ⟨rfl, rfl⟩)
    | (intro hw; obtain ⟨c0, c1, c2⟩ := HCl.out _ hw; go_simp; with_reducible exact ⟨rfl, rfl⟩)
    | (intro hw; obtain ⟨c0, c1, c2⟩ := HCl.out _ hw; go_simp; with_reducible rfl)))
  refine wpQuiet_nil ?_
  intro w8 hb8
  go_wp2
  go_ret
  exact ⟨rfl, hb8⟩
set_option maxRecDepth 100000 in
set_option maxHeartbeats 4000000 in
theorem cmpBegan_any (ms : List MZ) (A : Option Addr) (c n0 : Nat) (W : World) (h : CapD W n0 A c ms) (x y : Nat) (hx : x < ms.length) (hy : y < ms.length) :
    Calls Try.prog 35 #[.int .i64 (x : Nat), .int .i64 (y : Nat), .pointer (some ⟨n0, 0, none⟩)] W fun r w' => r = .returned (.int .i64 (cmpZ ((ms[x]'hx).d.began : Int) ((ms[y]'hy).d.began : Int))) ∧ Below W.heap.size W w' := by
  obtain ⟨b, o, rfl, _, hb, hcx⟩ := h.row.at_ mzF hx
  obtain ⟨b2, o2, e2, _, hb2, hcy⟩ := h.row.at_ mzF hy
  injection e2 with e2
  injection e2 with e3 e4
  subst e3 e4
  have cx := hcx 1 (.int .u64 ((ms[x]'hx).d.began : Nat)) rfl
  have cy := hcy 1 (.int .u64 ((ms[y]'hy).d.began : Nat)) rfl
  have HCl := Lib.hid (fun (V : World) (hV : Below W.heap.size W V) => And.intro ((hV.cell (World.block_lt_of_cell? W _ h.cell)).trans h.cell) (And.intro ((hV.cell hb).trans cx) ((hV.cell hb).trans cy)))
  have q1 : (x : Int) < (ms.length : Int) := by omega
  have q2 : (y : Int) < (ms.length : Int) := by omega
  generalize (ms[x]'hx).d.began = u at *
  generalize (ms[y]'hy).d.began = v at *
  have HCp : Hid (∀ V : World, Below W.heap.size W V → Calls Try.prog 36 #[.int .u64 (u : Nat), .int .u64 (v : Nat)] V fun r w' => r = .returned (.int .i64 (cmpZ u v)) ∧ Below W.heap.size W w') :=
    Lib.hid fun V hV => (compareU_any u v V).mono fun _ _ q => ⟨q.1, q.2 ▸ hV⟩
  clear h hcx hcy cx cy
  go_enter Try.func35, Try.ntmps35
  go_wp2
  refine wp_region_classJ (C := fun w' => Below W.heap.size W w') (by kernel_rfl) (by kernel_rfl) (Below.refl _ _).drew ?_
  repeat (quiet_step (first
    | (intro hw; with_reducible exact HCp.out _ hw)
    | (intro _; with_reducible rfl)
    | (intro _; with_reducible exact ⟨rfl, rfl⟩)
    | (intro hw; obtain ⟨c0, c1, c2⟩ := HCl.out _ hw; go_simp; with_reducible exact ⟨rfl, rfl⟩)
    | (intro hw; obtain ⟨c0, c1, c2⟩ := HCl.out _ hw; go_simp; with_reducible rfl)))
  refine wpQuiet_nil ?_
  intro w8 hb8
  go_wp2
  go_ret
  exact ⟨rfl, hb8⟩
end Go.Proofs.Ytfdiidhilonkoaa
