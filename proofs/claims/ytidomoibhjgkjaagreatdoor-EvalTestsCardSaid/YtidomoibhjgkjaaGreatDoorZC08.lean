import Derived.Test.YtidomoibhjgkjaaGreatDoorZC07
import Derived.Shelf.Strconv.Itoa3
import Derived.Deep.LoopGhost
import Derived.Laws.NewBlocks
/-
  Errors in memory: what an error is made of (places around a number, a need or nothing), where it lies, and what stays of it behind a call; what the package-level variables hold.
-/
namespace Go.Proofs.YtidomoibhjgkjaaGreatDoor
open Go.RowKit

/-- What stands at an error's end: nothing; a number; a need. -/
def End : Type := Option (Int ⊕ (ByteArray × ByteArray))
def End.nil : End := none
def End.num (n : Int) : End := some (.inl n)
def End.need (x y : ByteArray) : End := some (.inr (x, y))
def endVal : End → Value
  | none => .nilIface
  | some (.inl n) => .iface 33 (.int .i64 n)
  | some (.inr (x, y)) => .iface 35 (.agg #[.string x, .string y])
theorem End.cases {p : End → Prop} (e : End) (h0 : p .nil) (h1 : ∀ n, p (.num n)) (h2 : ∀ x y, p (.need x y)) : p e := by
  rcases e with _ | n | ⟨x, y⟩
  · exact h0
  · exact h1 n
  · exact h2 x y

/-- v is an error of the places ps, the outermost first, around the end e; its blocks lie below hi. -/
def Err (w : World) (hi : Nat) (e : End) : List ByteArray → Value → Prop
  | [], v => v = endVal e
  | p :: ps, v => ∃ b u, v = .iface 117 (.pointer (some ⟨b, 0, none⟩)) ∧ b < hi ∧ w.heap[b]? = some (.cells #[.string p, u] 121 (0, 0)) ∧ Err w hi e ps u

/-- Is it an error at all? -/
def some? (e : End) (ps : List ByteArray) : Prop := ps ≠ [] ∨ e ≠ End.nil

theorem Err.keep {w w' : World} {hi : Nat} {e : End} (hk : ∀ k, k < hi → w'.heap[k]? = w.heap[k]?) : ∀ {ps : List ByteArray} {v : Value}, Err w hi e ps v → Err w' hi e ps v
  | [], _, h => h
  | _ :: _, _, ⟨b, u, hv, hb, hc, hr⟩ => ⟨b, u, hv, hb, (hk b hb).trans hc, hr.keep hk⟩
theorem Err.below {w w' : World} {hi B : Nat} {e : End} {ps : List ByteArray} {v : Value} (h : Err w hi e ps v) (hb : Below B w w') (hB : hi ≤ B) : Err w' hi e ps v := h.keep fun k hk => hb.block k (by omega)
theorem Err.wide {w : World} {hi hi' : Nat} {e : End} (hw : hi ≤ hi') : ∀ {ps : List ByteArray} {v : Value}, Err w hi e ps v → Err w hi' e ps v
  | [], _, h => h
  | _ :: _, _, ⟨b, u, hv, hb, hc, hr⟩ => ⟨b, u, hv, by omega, hc, hr.wide hw⟩

/-- What the package-level variables that are read hold: of them the one that errors.As asks. -/
structure GlobW (w : World) : Prop where
  et : w.cell? ⟨0, 0, none⟩ = some (.iface 156 (.agg #[.pointer (some ⟨5, 29, none⟩)]))
  big : 5 ≤ w.heap.size
theorem GlobW.keep {w w' : World} (h : GlobW w) (hs : w.heap.size ≤ w'.heap.size) (hk : ∀ k, k < 5 → w'.heap[k]? = w.heap[k]?) : GlobW w' := by
  refine ⟨?_, Nat.le_trans h.big hs⟩
  rw [World.cell?_of_block (w := w) (hk 0 (by omega))]
  exact h.et
theorem GlobW.below {w w' : World} {B : Nat} (h : GlobW w) (hb : Below B w w') (hB : 5 ≤ B) : GlobW w' := h.keep hb.size fun k hk => hb.block k (by omega)

/-- All of them: also the powers of ten. -/
structure Glob (w : World) : Prop where
  wg : GlobW w
  tab : ∃ t fz, w.heap[1]? = some (.cells (Lib.pow10Tab.map fun z => Value.int .u64 z).toArray t fz)
theorem Glob.big {w : World} (h : Glob w) : 5 ≤ w.heap.size := h.wg.big
theorem Glob.keep {w w' : World} (h : Glob w) (hs : w.heap.size ≤ w'.heap.size) (hk : ∀ k, k < 5 → w'.heap[k]? = w.heap[k]?) : Glob w' := by
  refine ⟨h.wg.keep hs hk, ?_⟩
  obtain ⟨t, fz, ht⟩ := h.tab
  exact ⟨t, fz, (hk 1 (by omega)).trans ht⟩
theorem Glob.below {w w' : World} {B : Nat} (h : Glob w) (hb : Below B w w') (hB : 5 ≤ B) : Glob w' := h.keep hb.size fun k hk => hb.block k (by omega)

end Go.Proofs.YtidomoibhjgkjaaGreatDoor

/-
  errors.as, the library's own loop, at the three targets of package fault (a number, a need, a Fault), of any error that is made of places around an end: by walking its text.
-/
namespace Go.Proofs.YtidomoibhjgkjaaGreatDoor
open Go.RowKit

theorem unwrap_any (b : Nat) (p : ByteArray) (u : Value) (w : World) (h : w.heap[b]? = some (.cells #[.string p, u] 121 (0, 0))) :
    Calls Tryz.prog 171 #[.pointer (some ⟨b, 0, none⟩)] w fun e w' => e = .returned u ∧ w = w' := by
  have hc : w.cell? ⟨b, 1, none⟩ = some u := by simp [World.cell?, h]
  clear h
  go_enter Tryz.func171, Tryz.ntmps171
  go_wp2
  go_ret
  exact ⟨rfl, rfl⟩

/-- An error is a value of an interface. -/
theorem Err.iface {w : World} {hi : Nat} {e : End} {ps : List ByteArray} {v : Value} (h : Err w hi e ps v) (hs : some? e ps) : ∃ t x, v = .iface t x := by
  rcases ps with _ | ⟨p, ps⟩
  · rcases e with _ | n | ⟨x, y⟩
    · rcases hs with hs | hs
      · exact absurd rfl hs
      · exact absurd rfl hs
    · exact ⟨_, _, h⟩
    · exact ⟨_, _, h⟩
  · obtain ⟨b, u, rfl, _⟩ := h
    exact ⟨_, _, rfl⟩

theorem cell_alloc {w : World} {b k : Nat} {v : Value} (h : w.cell? ⟨b, k, none⟩ = some v) (o : Obj) : (w.alloc o).cell? ⟨b, k, none⟩ = some v := by
  rw [World.cell?_alloc_lt _ _ ⟨b, k, none⟩ (World.block_lt_of_cell? w _ h)]; exact h
theorem frozen_alloc {w : World} {b k : Nat} {v : Value} (h : w.cell? ⟨b, k, none⟩ = some v) (o : Obj) (hf : w.frozen? ⟨b, k, none⟩ = false) : (w.alloc o).frozen? ⟨b, k, none⟩ = false := by
  rw [World.frozen?_alloc_old _ _ ⟨b, k, none⟩ (Nat.ne_of_lt (World.block_lt_of_cell? w _ h))]; exact hf

/-- A store that both worlds have. -/
theorem below_set {B : Nat} {w w' : World} (h : Below B w w') (a : Addr) (v : Value) : Below B (w.setCell a v) (w'.setCell a v) :=
  ⟨h.os, h.tape, h.output, by simpa [World.setCell] using h.size, fun k hk => by
    have := h.block k hk
    simp only [World.setCell, Array.getElem?_modify]
    rw [this]⟩

set_option maxHeartbeats 1000000 in
theorem asE_num (ps : List ByteArray) (v : Value) (n : Int) (hi t x : Nat) (o1 : Value) (w : World) (he : Err w hi (End.num n) ps v) (hs : some? (End.num n) ps) (hhi : hi ≤ w.heap.size)
    (hx : w.cell? ⟨x, 0, none⟩ = some (.pointer (some ⟨t, 0, none⟩))) (ht : w.cell? ⟨t, 0, none⟩ = some o1) (hf : w.frozen? ⟨t, 0, none⟩ = false) :
    Calls Tryz.prog 73 #[v, .iface 80 (.pointer (some ⟨t, 0, none⟩)), .agg #[.pointer (some ⟨5, 80, none⟩), .pointer (some ⟨x, 0, none⟩), .int .u64 150], .iface 156 (.agg #[.pointer (some ⟨5, 33, none⟩)])] w
      fun e w' => e = .returned (.bool true) ∧ Below w.heap.size (w.setCell ⟨t, 0, none⟩ (.int .i64 n)) w' := by
  have mA := methodAssignableTo
  go_enter Tryz.func73, Tryz.ntmps73
  go_wp2
  go_loopg [0] ps.length (fun k u wr => ∃ qs, qs.length = k ∧ wr = w.alloc (.cells #[.pointer (some ⟨5, 80, none⟩), .pointer (some ⟨x, 0, none⟩), .int .u64 150] 107) ∧ Err wr hi (End.num n) qs u ∧ some? (End.num n) qs)
  case atStart => exact ⟨ps, rfl, rfl, he.below ((Below.refl _ w).alloc (Nat.le_refl _) _) hhi, hs⟩
  case round =>
    obtain ⟨qs, hk, rfl, hr, hq⟩ := hrel
    have HK := Lib.hid hk
    clear hk he hs
    rcases qs with _ | ⟨p, qs⟩
    · obtain rfl : u0 = .iface 33 (.int .i64 n) := hr
      have f1 := typeOfE
      have f2 := assignEE
      have f3 := valueOfE
      have hx1 := cell_alloc hx (.cells #[.pointer (some ⟨5, 80, none⟩), .pointer (some ⟨x, 0, none⟩), .int .u64 150] 107)
      have el := elemVE ⟨x, 0, none⟩ ⟨t, 0, none⟩ _ hx1
      have ht1 := cell_alloc ht (.cells #[.pointer (some ⟨5, 80, none⟩), .pointer (some ⟨x, 0, none⟩), .int .u64 150] 107)
      have hf1 := frozen_alloc ht (.cells #[.pointer (some ⟨5, 80, none⟩), .pointer (some ⟨x, 0, none⟩), .int .u64 150] 107) hf
      have st := setE t (w.heap.size + 1) n o1 ((w.alloc (.cells #[.pointer (some ⟨5, 80, none⟩), .pointer (some ⟨x, 0, none⟩), .int .u64 150] 107)).alloc (.cells #[.int .i64 n] 33)) (by simp) (cell_alloc ht1 _) (frozen_alloc ht1 _ hf1)
      clear hx1 ht1 hf1 HK hx hf hhi hq
      have htl : t < w.heap.size := World.block_lt_of_cell? w _ ht
      clear ht
      go_wp2
      go_ret
      exact ⟨rfl, ((Below.refl _ _).alloc (by simp) _).alloc (by simp) _⟩
    · obtain ⟨q, u, rfl, hb, hc, hr⟩ := hr
      have f1 := typeOfP
      have f2 := assignPE
      have f3 := noAsP
      have f4 := hasU1P
      have mU := methodUnwrap
      have HC := Lib.hid hc
      clear hc hhi hb hq hx ht hf
      have hs : some? (End.num n) qs := .inr (by intro h; cases h)
      obtain ⟨T, y, rfl⟩ := hr.iface hs
      go_wp2_with (go_at_call 171; refine (unwrap_any _ _ _ _ HC.out).mono ?_; rintro e w' ⟨rfl, rfl⟩)
      go_roundg qs.length
      case measure => have := HK.out; simp at this; omega
      case rel => exact ⟨qs, rfl, rfl, hr, hs⟩

set_option maxHeartbeats 1000000 in
theorem asE_need (ps : List ByteArray) (v : Value) (a b : ByteArray) (hi t x : Nat) (w : World) (he : Err w hi (End.need a b) ps v) (hs : some? (End.need a b) ps) (hhi : hi ≤ w.heap.size)
    :
    Calls Tryz.prog 73 #[v, .iface 80 (.pointer (some ⟨t, 0, none⟩)), .agg #[.pointer (some ⟨5, 80, none⟩), .pointer (some ⟨x, 0, none⟩), .int .u64 150], .iface 156 (.agg #[.pointer (some ⟨5, 33, none⟩)])] w
      fun e w' => e = .returned (.bool false) ∧ Below w.heap.size w w' := by
  have mA := methodAssignableTo
  go_enter Tryz.func73, Tryz.ntmps73
  go_wp2
  go_loopg [0] ps.length (fun k u wr => ∃ qs, qs.length = k ∧ wr = w.alloc (.cells #[.pointer (some ⟨5, 80, none⟩), .pointer (some ⟨x, 0, none⟩), .int .u64 150] 107) ∧ Err wr hi (End.need a b) qs u ∧ some? (End.need a b) qs)
  case atStart => exact ⟨ps, rfl, rfl, he.below ((Below.refl _ w).alloc (Nat.le_refl _) _) hhi, hs⟩
  case round =>
    obtain ⟨qs, hk, rfl, hr, hq⟩ := hrel
    have HK := Lib.hid hk
    clear hk he hs
    rcases qs with _ | ⟨p, qs⟩
    · obtain rfl : u0 = .iface 35 (.agg #[.string a, .string b]) := hr
      have f1 := typeOfN
      have f2 := assignNE
      have f3 := noAsN
      have f4 := noU1N
      have f5 := noU2N
      clear HK hhi hq
      go_wp2
      go_ret
      exact ⟨rfl, (Below.refl _ w).alloc (Nat.le_refl _) _⟩
    · obtain ⟨q, u, rfl, hb, hc, hr⟩ := hr
      have f1 := typeOfP
      have f2 := assignPE
      have f3 := noAsP
      have f4 := hasU1P
      have mU := methodUnwrap
      have HC := Lib.hid hc
      clear hc hhi hb hq
      have hs : some? (End.need a b) qs := .inr (by intro h; cases h)
      obtain ⟨T, y, rfl⟩ := hr.iface hs
      go_wp2_with (go_at_call 171; refine (unwrap_any _ _ _ _ HC.out).mono ?_; rintro e w' ⟨rfl, rfl⟩)
      go_roundg qs.length
      case measure => have := HK.out; simp at this; omega
      case rel => exact ⟨qs, rfl, rfl, hr, hs⟩

set_option maxHeartbeats 1000000 in
theorem asE_nil (ps : List ByteArray) (v : Value)  (hi t x : Nat) (w : World) (he : Err w hi End.nil ps v) (hs : some? End.nil ps) (hhi : hi ≤ w.heap.size)
    :
    Calls Tryz.prog 73 #[v, .iface 80 (.pointer (some ⟨t, 0, none⟩)), .agg #[.pointer (some ⟨5, 80, none⟩), .pointer (some ⟨x, 0, none⟩), .int .u64 150], .iface 156 (.agg #[.pointer (some ⟨5, 33, none⟩)])] w
      fun e w' => e = .returned (.bool false) ∧ Below w.heap.size w w' := by
  have mA := methodAssignableTo
  go_enter Tryz.func73, Tryz.ntmps73
  go_wp2
  go_loopg [0] ps.length (fun k u wr => ∃ qs, qs.length = k ∧ wr = w.alloc (.cells #[.pointer (some ⟨5, 80, none⟩), .pointer (some ⟨x, 0, none⟩), .int .u64 150] 107) ∧ Err wr hi End.nil qs u ∧ some? End.nil qs)
  case atStart => exact ⟨ps, rfl, rfl, he.below ((Below.refl _ w).alloc (Nat.le_refl _) _) hhi, hs⟩
  case round =>
    obtain ⟨qs, hk, rfl, hr, hq⟩ := hrel
    have HK := Lib.hid hk
    clear hk he hs
    rcases qs with _ | ⟨p, qs⟩
    · rcases hq with h | h <;> exact absurd rfl h
    · obtain ⟨q, u, rfl, hb, hc, hr⟩ := hr
      have f1 := typeOfP
      have f2 := assignPE
      have f3 := noAsP
      have f4 := hasU1P
      have mU := methodUnwrap
      have HC := Lib.hid hc
      clear hc hhi hb hq
      rcases qs with _ | ⟨p', qs⟩
      · obtain rfl : u = .nilIface := hr
        clear HK
        go_wp2_with (go_at_call 171; refine (unwrap_any _ _ _ _ HC.out).mono ?_; rintro e w' ⟨rfl, rfl⟩)
        go_ret
        exact ⟨rfl, (Below.refl _ w).alloc (Nat.le_refl _) _⟩
      · have hs : some? End.nil (p' :: qs) := .inl (by simp)
        obtain ⟨T, y, rfl⟩ := hr.iface hs
        go_wp2_with (go_at_call 171; refine (unwrap_any _ _ _ _ HC.out).mono ?_; rintro e w' ⟨rfl, rfl⟩)
        go_roundg (qs.length + 1)
        case measure => have := HK.out; simp at this; omega
        case rel => exact ⟨p' :: qs, rfl, rfl, hr, hs⟩

set_option maxHeartbeats 1000000 in
theorem asN_num (ps : List ByteArray) (v : Value) (n : Int) (hi t x : Nat) (w : World) (he : Err w hi (End.num n) ps v) (hs : some? (End.num n) ps) (hhi : hi ≤ w.heap.size)
    :
    Calls Tryz.prog 73 #[v, .iface 96 (.pointer (some ⟨t, 0, none⟩)), .agg #[.pointer (some ⟨5, 96, none⟩), .pointer (some ⟨x, 0, none⟩), .int .u64 150], .iface 156 (.agg #[.pointer (some ⟨5, 35, none⟩)])] w
      fun e w' => e = .returned (.bool false) ∧ Below w.heap.size w w' := by
  have mA := methodAssignableTo
  go_enter Tryz.func73, Tryz.ntmps73
  go_wp2
  go_loopg [0] ps.length (fun k u wr => ∃ qs, qs.length = k ∧ wr = w.alloc (.cells #[.pointer (some ⟨5, 96, none⟩), .pointer (some ⟨x, 0, none⟩), .int .u64 150] 107) ∧ Err wr hi (End.num n) qs u ∧ some? (End.num n) qs)
  case atStart => exact ⟨ps, rfl, rfl, he.below ((Below.refl _ w).alloc (Nat.le_refl _) _) hhi, hs⟩
  case round =>
    obtain ⟨qs, hk, rfl, hr, hq⟩ := hrel
    have HK := Lib.hid hk
    clear hk he hs
    rcases qs with _ | ⟨p, qs⟩
    · obtain rfl : u0 = .iface 33 (.int .i64 n) := hr
      have f1 := typeOfE
      have f2 := assignEN
      have f3 := noAsE
      have f4 := noU1E
      have f5 := noU2E
      clear HK hhi hq
      go_wp2
      go_ret
      exact ⟨rfl, (Below.refl _ w).alloc (Nat.le_refl _) _⟩
    · obtain ⟨q, u, rfl, hb, hc, hr⟩ := hr
      have f1 := typeOfP
      have f2 := assignPN
      have f3 := noAsP
      have f4 := hasU1P
      have mU := methodUnwrap
      have HC := Lib.hid hc
      clear hc hhi hb hq
      have hs : some? (End.num n) qs := .inr (by intro h; cases h)
      obtain ⟨T, y, rfl⟩ := hr.iface hs
      go_wp2_with (go_at_call 171; refine (unwrap_any _ _ _ _ HC.out).mono ?_; rintro e w' ⟨rfl, rfl⟩)
      go_roundg qs.length
      case measure => have := HK.out; simp at this; omega
      case rel => exact ⟨qs, rfl, rfl, hr, hs⟩

set_option maxHeartbeats 1000000 in
theorem asN_need (ps : List ByteArray) (v : Value) (a b : ByteArray) (hi t x : Nat) (o1 o2 : Value) (w : World) (he : Err w hi (End.need a b) ps v) (hs : some? (End.need a b) ps) (hhi : hi ≤ w.heap.size)
    (hx : w.cell? ⟨x, 0, none⟩ = some (.pointer (some ⟨t, 0, none⟩))) (ht : w.cell? ⟨t, 0, none⟩ = some o1) (ht' : w.cell? ⟨t, 1, none⟩ = some o2) (hf : w.frozen? ⟨t, 0, none⟩ = false) (hf' : w.frozen? ⟨t, 1, none⟩ = false) :
    Calls Tryz.prog 73 #[v, .iface 96 (.pointer (some ⟨t, 0, none⟩)), .agg #[.pointer (some ⟨5, 96, none⟩), .pointer (some ⟨x, 0, none⟩), .int .u64 150], .iface 156 (.agg #[.pointer (some ⟨5, 35, none⟩)])] w
      fun e w' => e = .returned (.bool true) ∧ Below w.heap.size ((w.setCell ⟨t, 0, none⟩ (.string a)).setCell ⟨t, 1, none⟩ (.string b)) w' := by
  have mA := methodAssignableTo
  go_enter Tryz.func73, Tryz.ntmps73
  go_wp2
  go_loopg [0] ps.length (fun k u wr => ∃ qs, qs.length = k ∧ wr = w.alloc (.cells #[.pointer (some ⟨5, 96, none⟩), .pointer (some ⟨x, 0, none⟩), .int .u64 150] 107) ∧ Err wr hi (End.need a b) qs u ∧ some? (End.need a b) qs)
  case atStart => exact ⟨ps, rfl, rfl, he.below ((Below.refl _ w).alloc (Nat.le_refl _) _) hhi, hs⟩
  case round =>
    obtain ⟨qs, hk, rfl, hr, hq⟩ := hrel
    have HK := Lib.hid hk
    clear hk he hs
    rcases qs with _ | ⟨p, qs⟩
    · obtain rfl : u0 = .iface 35 (.agg #[.string a, .string b]) := hr
      have f1 := typeOfN
      have f2 := assignNN
      have f3 := valueOfN
      have hx1 := cell_alloc hx (.cells #[.pointer (some ⟨5, 96, none⟩), .pointer (some ⟨x, 0, none⟩), .int .u64 150] 107)
      have el := elemVN ⟨x, 0, none⟩ ⟨t, 0, none⟩ _ hx1
      have ht1 := cell_alloc ht (.cells #[.pointer (some ⟨5, 96, none⟩), .pointer (some ⟨x, 0, none⟩), .int .u64 150] 107)
      have hf1 := frozen_alloc ht (.cells #[.pointer (some ⟨5, 96, none⟩), .pointer (some ⟨x, 0, none⟩), .int .u64 150] 107) hf
      have ht2 := cell_alloc ht' (.cells #[.pointer (some ⟨5, 96, none⟩), .pointer (some ⟨x, 0, none⟩), .int .u64 150] 107)
      have hf2 := frozen_alloc ht' (.cells #[.pointer (some ⟨5, 96, none⟩), .pointer (some ⟨x, 0, none⟩), .int .u64 150] 107) hf'
      have st := setN t (w.heap.size + 1) a b o1 o2 ((w.alloc (.cells #[.pointer (some ⟨5, 96, none⟩), .pointer (some ⟨x, 0, none⟩), .int .u64 150] 107)).alloc (.cells #[.string a, .string b] 35)) (by simp) (by simp) (cell_alloc ht1 _) (cell_alloc ht2 _) (frozen_alloc ht1 _ hf1) (frozen_alloc ht2 _ hf2)
      clear hx1 ht1 hf1 HK hx hf hhi hq ht2 hf2 hf'
      have htl : t < w.heap.size := World.block_lt_of_cell? w _ ht
      clear ht ht'
      go_wp2
      go_ret
      exact ⟨rfl, ((Below.refl _ _).alloc (by simp) _).alloc (by simp) _⟩
    · obtain ⟨q, u, rfl, hb, hc, hr⟩ := hr
      have f1 := typeOfP
      have f2 := assignPN
      have f3 := noAsP
      have f4 := hasU1P
      have mU := methodUnwrap
      have HC := Lib.hid hc
      clear hc hhi hb hq hx ht hf ht' hf'
      have hs : some? (End.need a b) qs := .inr (by intro h; cases h)
      obtain ⟨T, y, rfl⟩ := hr.iface hs
      go_wp2_with (go_at_call 171; refine (unwrap_any _ _ _ _ HC.out).mono ?_; rintro e w' ⟨rfl, rfl⟩)
      go_roundg qs.length
      case measure => have := HK.out; simp at this; omega
      case rel => exact ⟨qs, rfl, rfl, hr, hs⟩

set_option maxHeartbeats 1000000 in
theorem asN_nil (ps : List ByteArray) (v : Value)  (hi t x : Nat) (w : World) (he : Err w hi End.nil ps v) (hs : some? End.nil ps) (hhi : hi ≤ w.heap.size)
    :
    Calls Tryz.prog 73 #[v, .iface 96 (.pointer (some ⟨t, 0, none⟩)), .agg #[.pointer (some ⟨5, 96, none⟩), .pointer (some ⟨x, 0, none⟩), .int .u64 150], .iface 156 (.agg #[.pointer (some ⟨5, 35, none⟩)])] w
      fun e w' => e = .returned (.bool false) ∧ Below w.heap.size w w' := by
  have mA := methodAssignableTo
  go_enter Tryz.func73, Tryz.ntmps73
  go_wp2
  go_loopg [0] ps.length (fun k u wr => ∃ qs, qs.length = k ∧ wr = w.alloc (.cells #[.pointer (some ⟨5, 96, none⟩), .pointer (some ⟨x, 0, none⟩), .int .u64 150] 107) ∧ Err wr hi End.nil qs u ∧ some? End.nil qs)
  case atStart => exact ⟨ps, rfl, rfl, he.below ((Below.refl _ w).alloc (Nat.le_refl _) _) hhi, hs⟩
  case round =>
    obtain ⟨qs, hk, rfl, hr, hq⟩ := hrel
    have HK := Lib.hid hk
    clear hk he hs
    rcases qs with _ | ⟨p, qs⟩
    · rcases hq with h | h <;> exact absurd rfl h
    · obtain ⟨q, u, rfl, hb, hc, hr⟩ := hr
      have f1 := typeOfP
      have f2 := assignPN
      have f3 := noAsP
      have f4 := hasU1P
      have mU := methodUnwrap
      have HC := Lib.hid hc
      clear hc hhi hb hq
      rcases qs with _ | ⟨p', qs⟩
      · obtain rfl : u = .nilIface := hr
        clear HK
        go_wp2_with (go_at_call 171; refine (unwrap_any _ _ _ _ HC.out).mono ?_; rintro e w' ⟨rfl, rfl⟩)
        go_ret
        exact ⟨rfl, (Below.refl _ w).alloc (Nat.le_refl _) _⟩
      · have hs : some? End.nil (p' :: qs) := .inl (by simp)
        obtain ⟨T, y, rfl⟩ := hr.iface hs
        go_wp2_with (go_at_call 171; refine (unwrap_any _ _ _ _ HC.out).mono ?_; rintro e w' ⟨rfl, rfl⟩)
        go_roundg (qs.length + 1)
        case measure => have := HK.out; simp at this; omega
        case rel => exact ⟨p' :: qs, rfl, rfl, hr, hs⟩

set_option maxHeartbeats 1000000 in
theorem asP_hit (c t x : Nat) (o1 : Value) (w : World) (hx : w.cell? ⟨x, 0, none⟩ = some (.pointer (some ⟨t, 0, none⟩))) (ht : w.cell? ⟨t, 0, none⟩ = some o1) (hf : w.frozen? ⟨t, 0, none⟩ = false) :
    Calls Tryz.prog 73 #[.iface 117 (.pointer (some ⟨c, 0, none⟩)), .iface 118 (.pointer (some ⟨t, 0, none⟩)), .agg #[.pointer (some ⟨5, 118, none⟩), .pointer (some ⟨x, 0, none⟩), .int .u64 150], .iface 156 (.agg #[.pointer (some ⟨5, 117, none⟩)])] w
      fun e w' => e = .returned (.bool true) ∧ Below w.heap.size (w.setCell ⟨t, 0, none⟩ (.pointer (some ⟨c, 0, none⟩))) w' := by
  have mA := methodAssignableTo
  have f1 := typeOfP
  have f2 := assignPP
  have f3 := valueOfP
  have hx1 := cell_alloc hx (.cells #[.pointer (some ⟨5, 118, none⟩), .pointer (some ⟨x, 0, none⟩), .int .u64 150] 107)
  have el := elemVP ⟨x, 0, none⟩ ⟨t, 0, none⟩ _ hx1
  have ht1 := cell_alloc ht (.cells #[.pointer (some ⟨5, 118, none⟩), .pointer (some ⟨x, 0, none⟩), .int .u64 150] 107)
  have hf1 := frozen_alloc ht (.cells #[.pointer (some ⟨5, 118, none⟩), .pointer (some ⟨x, 0, none⟩), .int .u64 150] 107) hf
  have st := setP t (w.heap.size + 1) ⟨c, 0, none⟩ o1 ((w.alloc (.cells #[.pointer (some ⟨5, 118, none⟩), .pointer (some ⟨x, 0, none⟩), .int .u64 150] 107)).alloc (.cells #[.pointer (some ⟨c, 0, none⟩)] 117)) (by simp) (cell_alloc ht1 _) (frozen_alloc ht1 _ hf1)
  clear hx1 ht1 hf1 hx hf
  have htl : t < w.heap.size := World.block_lt_of_cell? w _ ht
  clear ht
  go_enter Tryz.func73, Tryz.ntmps73
  go_wp2
  refine wp_loop_rounds 1 ?_
  rw [rounds_succ]
  go_wp2
  go_ret
  exact ⟨rfl, ((Below.refl _ _).alloc (by simp) _).alloc (by simp) _⟩

set_option maxHeartbeats 1000000 in
theorem asP_num (n : Int) (t x : Nat) (w : World) :
    Calls Tryz.prog 73 #[.iface 33 (.int .i64 n), .iface 118 (.pointer (some ⟨t, 0, none⟩)), .agg #[.pointer (some ⟨5, 118, none⟩), .pointer (some ⟨x, 0, none⟩), .int .u64 150], .iface 156 (.agg #[.pointer (some ⟨5, 117, none⟩)])] w
      fun e w' => e = .returned (.bool false) ∧ Below w.heap.size w w' := by
  have mA := methodAssignableTo
  have f1 := typeOfE
  have f2 := assignEP
  have f3 := noAsE
  have f4 := noU1E
  have f5 := noU2E
  go_enter Tryz.func73, Tryz.ntmps73
  go_wp2
  refine wp_loop_rounds 1 ?_
  rw [rounds_succ]
  go_wp2
  go_ret
  exact ⟨rfl, (Below.refl _ w).alloc (Nat.le_refl _) _⟩

set_option maxHeartbeats 1000000 in
theorem asP_need (a b : ByteArray) (t x : Nat) (w : World) :
    Calls Tryz.prog 73 #[.iface 35 (.agg #[.string a, .string b]), .iface 118 (.pointer (some ⟨t, 0, none⟩)), .agg #[.pointer (some ⟨5, 118, none⟩), .pointer (some ⟨x, 0, none⟩), .int .u64 150], .iface 156 (.agg #[.pointer (some ⟨5, 117, none⟩)])] w
      fun e w' => e = .returned (.bool false) ∧ Below w.heap.size w w' := by
  have mA := methodAssignableTo
  have f1 := typeOfN
  have f2 := assignNP
  have f3 := noAsN
  have f4 := noU1N
  have f5 := noU2N
  go_enter Tryz.func73, Tryz.ntmps73
  go_wp2
  refine wp_loop_rounds 1 ?_
  rw [rounds_succ]
  go_wp2
  go_ret
  exact ⟨rfl, (Below.refl _ w).alloc (Nat.le_refl _) _⟩

end Go.Proofs.YtidomoibhjgkjaaGreatDoor
