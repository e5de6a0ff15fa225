import Derived.Test.YtfpjepeikjfkpaaGreatDoorZC20
import Derived.Shelf.Strconv.Itoa3
import Derived.Deep.LoopGhost
import Derived.Laws.NewBlocks
import Derived.Defers
import Derived.Recover
import Derived.Laws.Pointers
/-
  Errors in memory: what an error is made of (places around a number, a need or nothing), where it lies, and what stays of it behind a call; what the package-level variables hold.
-/
namespace Go.Proofs.YtfpjepeikjfkpaaGreatDoor
open Go.RowKit

/-- What stands at an error's end: nothing; a number; a need. -/
def End : Type := Option (Int ⊕ Empty)
def End.nil : End := none
def End.num (n : Int) : End := some (.inl n)
def endVal : End → Value
  | none => .nilIface
  | some (.inl n) => .iface 25 (.int .i64 n)
  | some (.inr x) => x.elim

/-- v is an error of the places ps, the outermost first, around the end e; its blocks lie below hi. -/
def Err (w : World) (hi : Nat) (e : End) : List ByteArray → Value → Prop
  | [], v => v = endVal e
  | p :: ps, v => ∃ b u, v = .iface 90 (.pointer (some ⟨b, 0, none⟩)) ∧ b < hi ∧ w.heap[b]? = some (.cells #[.string p, u] 92 (0, 0)) ∧ Err w hi e ps u

/-- Is it an error at all? -/
def some? (e : End) (ps : List ByteArray) : Prop := ps ≠ [] ∨ e ≠ End.nil

theorem Err.keep {w w' : World} {hi : Nat} {e : End} (hk : ∀ k, k < hi → w'.heap[k]? = w.heap[k]?) : ∀ {ps : List ByteArray} {v : Value}, Err w hi e ps v → Err w' hi e ps v
  | [], _, h => h
  | _ :: _, _, ⟨b, u, hv, hb, hc, hr⟩ => ⟨b, u, hv, hb, (hk b hb).trans hc, hr.keep hk⟩
theorem Err.below {w w' : World} {hi B : Nat} {e : End} {ps : List ByteArray} {v : Value} (h : Err w hi e ps v) (hb : Below B w w') (hB : hi ≤ B) : Err w' hi e ps v := h.keep fun k hk => hb.block k (by omega)
theorem Err.wide {w : World} {hi hi' : Nat} {e : End} (hw : hi ≤ hi') : ∀ {ps : List ByteArray} {v : Value}, Err w hi e ps v → Err w hi' e ps v
  | [], _, h => h
  | _ :: _, _, ⟨b, u, hv, hb, hc, hr⟩ => ⟨b, u, hv, by omega, hc, hr.wide hw⟩

/-- What the package-level variables that are read hold. -/
structure Glob (w : World) : Prop where
  et : w.cell? ⟨1, 0, none⟩ = some (.iface 136 (.agg #[.pointer (some ⟨8, 34, none⟩)]))
  tab : ∃ t fz, w.heap[2]? = some (.cells (Lib.pow10Tab.map fun z => Value.int .u64 z).toArray t fz)
  big : 8 ≤ w.heap.size

theorem Glob.keep {w w' : World} (h : Glob w) (hs : w.heap.size ≤ w'.heap.size) (hk : ∀ k, k < 8 → w'.heap[k]? = w.heap[k]?) : Glob w' := by
  refine ⟨?_, ?_, Nat.le_trans h.big hs⟩
  · rw [World.cell?_of_block (w := w) (hk 1 (by omega))]; exact h.et
  · obtain ⟨t, fz, ht⟩ := h.tab
    exact ⟨t, fz, (hk 2 (by omega)).trans ht⟩
theorem Glob.below {w w' : World} {B : Nat} (h : Glob w) (hb : Below B w w') (hB : 8 ≤ B) : Glob w' := h.keep hb.size fun k hk => hb.block k (by omega)

end Go.Proofs.YtfpjepeikjfkpaaGreatDoor

/-
  errors.as, the library's own loop, at the three targets of package fault (a number, a need, a Fault), of any error that is made of places around an end: by walking its text.
-/
namespace Go.Proofs.YtfpjepeikjfkpaaGreatDoor
open Go.RowKit

theorem unwrap_any (b : Nat) (p : ByteArray) (u : Value) (w : World) (h : w.heap[b]? = some (.cells #[.string p, u] 92 (0, 0))) :
    Calls Tryz.prog 176 #[.pointer (some ⟨b, 0, none⟩)] w fun e w' => e = .returned u ∧ w = w' := by
  have hc : w.cell? ⟨b, 1, none⟩ = some u := by simp [World.cell?, h]
  clear h
  go_enter Tryz.func176, Tryz.ntmps176
  go_wp2
  go_ret
  exact ⟨rfl, rfl⟩

/-- An error is a value of an interface. -/
theorem Err.iface {w : World} {hi : Nat} {e : End} {ps : List ByteArray} {v : Value} (h : Err w hi e ps v) (hs : some? e ps) : ∃ t x, v = .iface t x := by
  rcases ps with _ | ⟨p, ps⟩
  · rcases e with _ | n | x
    · rcases hs with hs | hs
      · exact absurd rfl hs
      · exact absurd rfl hs
    · exact ⟨_, _, h⟩
    · exact x.elim
  · obtain ⟨b, u, rfl, _⟩ := h
    exact ⟨_, _, rfl⟩

theorem cell_alloc {w : World} {b k : Nat} {v : Value} (h : w.cell? ⟨b, k, none⟩ = some v) (o : Obj) : (w.alloc o).cell? ⟨b, k, none⟩ = some v := by
  rw [World.cell?_alloc_lt _ _ ⟨b, k, none⟩ (World.block_lt_of_cell? w _ h)]; exact h
theorem frozen_alloc {w : World} {b k : Nat} {v : Value} (h : w.cell? ⟨b, k, none⟩ = some v) (o : Obj) (hf : w.frozen? ⟨b, k, none⟩ = false) : (w.alloc o).frozen? ⟨b, k, none⟩ = false := by
  rw [World.frozen?_alloc_old _ _ ⟨b, k, none⟩ (Nat.ne_of_lt (World.block_lt_of_cell? w _ h))]; exact hf

/-- A store that both worlds have. -/
theorem below_set {B : Nat} {w w' : World} (h : Below B w w') (a : Addr) (v : Value) : Below B (w.setCell a v) (w'.setCell a v) :=
  ⟨h.os, h.tape, h.output, by simpa [World.setCell] using h.size, fun k hk => by
    have := h.block k hk
    simp only [World.setCell, Array.getElem?_modify]
    rw [this]⟩

set_option maxHeartbeats 1000000 in
theorem asE_num (ps : List ByteArray) (v : Value) (n : Int) (hi t x : Nat) (o1 : Value) (w : World) (he : Err w hi (End.num n) ps v) (hs : some? (End.num n) ps) (hhi : hi ≤ w.heap.size)
    (hx : w.cell? ⟨x, 0, none⟩ = some (.pointer (some ⟨t, 0, none⟩))) (ht : w.cell? ⟨t, 0, none⟩ = some o1) (hf : w.frozen? ⟨t, 0, none⟩ = false) :
    Calls Tryz.prog 74 #[v, .iface 71 (.pointer (some ⟨t, 0, none⟩)), .agg #[.pointer (some ⟨8, 71, none⟩), .pointer (some ⟨x, 0, none⟩), .int .u64 150], .iface 136 (.agg #[.pointer (some ⟨8, 25, none⟩)])] w
      fun e w' => e = .returned (.bool true) ∧ Below w.heap.size (w.setCell ⟨t, 0, none⟩ (.int .i64 n)) w' := by
  have mA := methodAssignableTo
  go_enter Tryz.func74, Tryz.ntmps74
  go_wp2
  go_loopg [0] ps.length (fun k u wr => ∃ qs, qs.length = k ∧ wr = w.alloc (.cells #[.pointer (some ⟨8, 71, none⟩), .pointer (some ⟨x, 0, none⟩), .int .u64 150] 96) ∧ Err wr hi (End.num n) qs u ∧ some? (End.num n) qs)
  case atStart => exact ⟨ps, rfl, rfl, he.below ((Below.refl _ w).alloc (Nat.le_refl _) _) hhi, hs⟩
  case round =>
    obtain ⟨qs, hk, rfl, hr, hq⟩ := hrel
    have HK := Lib.hid hk
    clear hk he hs
    rcases qs with _ | ⟨p, qs⟩
    · obtain rfl : u0 = .iface 25 (.int .i64 n) := hr
      have f1 := typeOfE
      have f2 := assignEE
      have f3 := valueOfE
      have hx1 := cell_alloc hx (.cells #[.pointer (some ⟨8, 71, none⟩), .pointer (some ⟨x, 0, none⟩), .int .u64 150] 96)
      have el := elemVE ⟨x, 0, none⟩ ⟨t, 0, none⟩ _ hx1
      have ht1 := cell_alloc ht (.cells #[.pointer (some ⟨8, 71, none⟩), .pointer (some ⟨x, 0, none⟩), .int .u64 150] 96)
      have hf1 := frozen_alloc ht (.cells #[.pointer (some ⟨8, 71, none⟩), .pointer (some ⟨x, 0, none⟩), .int .u64 150] 96) hf
      have st := setE t (w.heap.size + 1) n o1 ((w.alloc (.cells #[.pointer (some ⟨8, 71, none⟩), .pointer (some ⟨x, 0, none⟩), .int .u64 150] 96)).alloc (.cells #[.int .i64 n] 25)) (by simp) (cell_alloc ht1 _) (frozen_alloc ht1 _ hf1)
      clear hx1 ht1 hf1 HK hx hf hhi hq
      have htl : t < w.heap.size := World.block_lt_of_cell? w _ ht
      clear ht
      go_wp2
      go_ret
      exact ⟨rfl, ((Below.refl _ _).alloc (by simp) _).alloc (by simp) _⟩
    · obtain ⟨q, u, rfl, hb, hc, hr⟩ := hr
      have f1 := typeOfP
      have f2 := assignPE
      have f3 := noAsP
      have f4 := hasU1P
      have mU := methodUnwrap
      have HC := Lib.hid hc
      clear hc hhi hb hq hx ht hf
      have hs : some? (End.num n) qs := .inr (by intro h; cases h)
      obtain ⟨T, y, rfl⟩ := hr.iface hs
      go_wp2_with (go_at_call 176; refine (unwrap_any _ _ _ _ HC.out).mono ?_; rintro e w' ⟨rfl, rfl⟩)
      go_roundg qs.length
      case measure => have := HK.out; simp at this; omega
      case rel => exact ⟨qs, rfl, rfl, hr, hs⟩

set_option maxHeartbeats 1000000 in
theorem asE_nil (ps : List ByteArray) (v : Value)  (hi t x : Nat) (w : World) (he : Err w hi End.nil ps v) (hs : some? End.nil ps) (hhi : hi ≤ w.heap.size)
    :
    Calls Tryz.prog 74 #[v, .iface 71 (.pointer (some ⟨t, 0, none⟩)), .agg #[.pointer (some ⟨8, 71, none⟩), .pointer (some ⟨x, 0, none⟩), .int .u64 150], .iface 136 (.agg #[.pointer (some ⟨8, 25, none⟩)])] w
      fun e w' => e = .returned (.bool false) ∧ Below w.heap.size w w' := by
  have mA := methodAssignableTo
  go_enter Tryz.func74, Tryz.ntmps74
  go_wp2
  go_loopg [0] ps.length (fun k u wr => ∃ qs, qs.length = k ∧ wr = w.alloc (.cells #[.pointer (some ⟨8, 71, none⟩), .pointer (some ⟨x, 0, none⟩), .int .u64 150] 96) ∧ Err wr hi End.nil qs u ∧ some? End.nil qs)
  case atStart => exact ⟨ps, rfl, rfl, he.below ((Below.refl _ w).alloc (Nat.le_refl _) _) hhi, hs⟩
  case round =>
    obtain ⟨qs, hk, rfl, hr, hq⟩ := hrel
    have HK := Lib.hid hk
    clear hk he hs
    rcases qs with _ | ⟨p, qs⟩
    · rcases hq with h | h <;> exact absurd rfl h
    · obtain ⟨q, u, rfl, hb, hc, hr⟩ := hr
      have f1 := typeOfP
      have f2 := assignPE
      have f3 := noAsP
      have f4 := hasU1P
      have mU := methodUnwrap
      have HC := Lib.hid hc
      clear hc hhi hb hq
      rcases qs with _ | ⟨p', qs⟩
      · obtain rfl : u = .nilIface := hr
        clear HK
        go_wp2_with (go_at_call 176; refine (unwrap_any _ _ _ _ HC.out).mono ?_; rintro e w' ⟨rfl, rfl⟩)
        go_ret
        exact ⟨rfl, (Below.refl _ w).alloc (Nat.le_refl _) _⟩
      · have hs : some? End.nil (p' :: qs) := .inl (by simp)
        obtain ⟨T, y, rfl⟩ := hr.iface hs
        go_wp2_with (go_at_call 176; refine (unwrap_any _ _ _ _ HC.out).mono ?_; rintro e w' ⟨rfl, rfl⟩)
        go_roundg (qs.length + 1)
        case measure => have := HK.out; simp at this; omega
        case rel => exact ⟨p' :: qs, rfl, rfl, hr, hs⟩

set_option maxHeartbeats 1000000 in
theorem asP_hit (c t x : Nat) (o1 : Value) (w : World) (hx : w.cell? ⟨x, 0, none⟩ = some (.pointer (some ⟨t, 0, none⟩))) (ht : w.cell? ⟨t, 0, none⟩ = some o1) (hf : w.frozen? ⟨t, 0, none⟩ = false) :
    Calls Tryz.prog 74 #[.iface 90 (.pointer (some ⟨c, 0, none⟩)), .iface 106 (.pointer (some ⟨t, 0, none⟩)), .agg #[.pointer (some ⟨8, 106, none⟩), .pointer (some ⟨x, 0, none⟩), .int .u64 150], .iface 136 (.agg #[.pointer (some ⟨8, 90, none⟩)])] w
      fun e w' => e = .returned (.bool true) ∧ Below w.heap.size (w.setCell ⟨t, 0, none⟩ (.pointer (some ⟨c, 0, none⟩))) w' := by
  have mA := methodAssignableTo
  have f1 := typeOfP
  have f2 := assignPP
  have f3 := valueOfP
  have hx1 := cell_alloc hx (.cells #[.pointer (some ⟨8, 106, none⟩), .pointer (some ⟨x, 0, none⟩), .int .u64 150] 96)
  have el := elemVP ⟨x, 0, none⟩ ⟨t, 0, none⟩ _ hx1
  have ht1 := cell_alloc ht (.cells #[.pointer (some ⟨8, 106, none⟩), .pointer (some ⟨x, 0, none⟩), .int .u64 150] 96)
  have hf1 := frozen_alloc ht (.cells #[.pointer (some ⟨8, 106, none⟩), .pointer (some ⟨x, 0, none⟩), .int .u64 150] 96) hf
  have st := setP t (w.heap.size + 1) ⟨c, 0, none⟩ o1 ((w.alloc (.cells #[.pointer (some ⟨8, 106, none⟩), .pointer (some ⟨x, 0, none⟩), .int .u64 150] 96)).alloc (.cells #[.pointer (some ⟨c, 0, none⟩)] 90)) (by simp) (cell_alloc ht1 _) (frozen_alloc ht1 _ hf1)
  clear hx1 ht1 hf1 hx hf
  have htl : t < w.heap.size := World.block_lt_of_cell? w _ ht
  clear ht
  go_enter Tryz.func74, Tryz.ntmps74
  go_wp2
  refine wp_loop_rounds 1 ?_
  rw [rounds_succ]
  go_wp2
  go_ret
  exact ⟨rfl, ((Below.refl _ _).alloc (by simp) _).alloc (by simp) _⟩

set_option maxHeartbeats 1000000 in
theorem asP_num (n : Int) (t x : Nat) (w : World) :
    Calls Tryz.prog 74 #[.iface 25 (.int .i64 n), .iface 106 (.pointer (some ⟨t, 0, none⟩)), .agg #[.pointer (some ⟨8, 106, none⟩), .pointer (some ⟨x, 0, none⟩), .int .u64 150], .iface 136 (.agg #[.pointer (some ⟨8, 90, none⟩)])] w
      fun e w' => e = .returned (.bool false) ∧ Below w.heap.size w w' := by
  have mA := methodAssignableTo
  have f1 := typeOfE
  have f2 := assignEP
  have f3 := noAsE
  have f4 := noU1E
  have f5 := noU2E
  go_enter Tryz.func74, Tryz.ntmps74
  go_wp2
  refine wp_loop_rounds 1 ?_
  rw [rounds_succ]
  go_wp2
  go_ret
  exact ⟨rfl, (Below.refl _ w).alloc (Nat.le_refl _) _⟩

end Go.Proofs.YtfpjepeikjfkpaaGreatDoor

/-
  errors.As at the three targets of package fault (a number, a need, a Fault), of any error that is made of places around an end.
-/
namespace Go.Proofs.YtfpjepeikjfkpaaGreatDoor
open Go.RowKit

/-- errors.As of no error. -/
theorem As_none (t : Value) (w : World) : Calls Tryz.prog 40 #[.nilIface, t] w fun e w' => e = .returned (.bool false) ∧ w = w' := by
  go_enter Tryz.func40, Tryz.ntmps40
  go_wp2
  go_ret
  exact ⟨rfl, rfl⟩

set_option maxHeartbeats 1000000 in
/-- errors.As is what errors.as is, behind two new blocks. -/
theorem frontE (T : TypeId) (y : Value) (t : Nat) (w : World) (R : Ending → World → Prop) (hG : Glob w) (hR : ∀ e w', R e w' → ∃ b, e = .returned (.bool b))
    (H : Calls Tryz.prog 74 #[.iface T y, .iface 71 (.pointer (some ⟨t, 0, none⟩)), .agg #[.pointer (some ⟨8, 71, none⟩), .pointer (some ⟨w.heap.size, 0, none⟩), .int .u64 150], .iface 136 (.agg #[.pointer (some ⟨8, 25, none⟩)])] ((w.alloc (.cells #[.pointer (some ⟨t, 0, none⟩)] 71)).alloc (.cells #[.pointer (some ⟨8, 71, none⟩), .pointer (some ⟨w.heap.size, 0, none⟩), .int .u64 150] 96)) R) :
    Calls Tryz.prog 40 #[.iface T y, .iface 71 (.pointer (some ⟨t, 0, none⟩))] w R := by
  have f1 := valueOfTE
  have f2 := typeTE
  have f3 := methodKind
  have f4 := kindTE
  have f5 := isNilTE ⟨w.heap.size, 0, none⟩ ⟨t, 0, none⟩ ((w.alloc (.cells #[.pointer (some ⟨t, 0, none⟩)] 71)).alloc (.cells #[.pointer (some ⟨8, 71, none⟩), .pointer (some ⟨w.heap.size, 0, none⟩), .int .u64 150] 96)) (by simp)
  have f6 := methodElem
  have f7 := elemTE
  have f8 := kindE
  have f9 := methodImplements
  have f10 := implementsE
  have f11 := cell_alloc (cell_alloc hG.et (.cells #[.pointer (some ⟨t, 0, none⟩)] 71)) (.cells #[.pointer (some ⟨8, 71, none⟩), .pointer (some ⟨w.heap.size, 0, none⟩), .int .u64 150] 96)
  have H' := Lib.hid H
  have HR := Lib.hid hR
  clear hG H hR
  go_enter Tryz.func40, Tryz.ntmps40
  go_wp2_with (go_at_call 74; refine (H'.out).mono ?_; intro e w' hq; obtain ⟨b, rfl⟩ := HR.out _ _ hq)
  exact hq

set_option maxHeartbeats 1000000 in
/-- errors.As is what errors.as is, behind two new blocks. -/
theorem frontP (T : TypeId) (y : Value) (t : Nat) (w : World) (R : Ending → World → Prop) (hG : Glob w) (hR : ∀ e w', R e w' → ∃ b, e = .returned (.bool b))
    (H : Calls Tryz.prog 74 #[.iface T y, .iface 106 (.pointer (some ⟨t, 0, none⟩)), .agg #[.pointer (some ⟨8, 106, none⟩), .pointer (some ⟨w.heap.size, 0, none⟩), .int .u64 150], .iface 136 (.agg #[.pointer (some ⟨8, 90, none⟩)])] ((w.alloc (.cells #[.pointer (some ⟨t, 0, none⟩)] 106)).alloc (.cells #[.pointer (some ⟨8, 106, none⟩), .pointer (some ⟨w.heap.size, 0, none⟩), .int .u64 150] 96)) R) :
    Calls Tryz.prog 40 #[.iface T y, .iface 106 (.pointer (some ⟨t, 0, none⟩))] w R := by
  have f1 := valueOfTP
  have f2 := typeTP
  have f3 := methodKind
  have f4 := kindTP
  have f5 := isNilTP ⟨w.heap.size, 0, none⟩ ⟨t, 0, none⟩ ((w.alloc (.cells #[.pointer (some ⟨t, 0, none⟩)] 106)).alloc (.cells #[.pointer (some ⟨8, 106, none⟩), .pointer (some ⟨w.heap.size, 0, none⟩), .int .u64 150] 96)) (by simp)
  have f6 := methodElem
  have f7 := elemTP
  have f8 := kindP
  have f9 := methodImplements
  have f10 := implementsP
  have f11 := cell_alloc (cell_alloc hG.et (.cells #[.pointer (some ⟨t, 0, none⟩)] 106)) (.cells #[.pointer (some ⟨8, 106, none⟩), .pointer (some ⟨w.heap.size, 0, none⟩), .int .u64 150] 96)
  have H' := Lib.hid H
  have HR := Lib.hid hR
  clear hG H hR
  go_enter Tryz.func40, Tryz.ntmps40
  go_wp2_with (go_at_call 74; refine (H'.out).mono ?_; intro e w' hq; obtain ⟨b, rfl⟩ := HR.out _ _ hq)
  exact hq

theorem AsE_num (ps : List ByteArray) (v : Value) (n : Int) (hi t : Nat) (o1 : Value) (w : World) (he : Err w hi (End.num n) ps v) (hhi : hi ≤ w.heap.size) (hG : Glob w) (ht : w.cell? ⟨t, 0, none⟩ = some o1) (hf : w.frozen? ⟨t, 0, none⟩ = false) :
    Calls Tryz.prog 40 #[v, .iface 71 (.pointer (some ⟨t, 0, none⟩))] w fun e w' => e = .returned (.bool true) ∧ Below w.heap.size (w.setCell ⟨t, 0, none⟩ (.int .i64 n)) w' := by
  have hs : some? (End.num n) ps := .inr (by intro h; cases h)
  obtain ⟨T, y, rfl⟩ := he.iface hs
  have HE := he.below (((Below.refl _ w).alloc (Nat.le_refl _) (.cells #[.pointer (some ⟨t, 0, none⟩)] 71)).alloc (by simp) (.cells #[.pointer (some ⟨8, 71, none⟩), .pointer (some ⟨w.heap.size, 0, none⟩), .int .u64 150] 96)) hhi
  have t1 := cell_alloc (cell_alloc ht (.cells #[.pointer (some ⟨t, 0, none⟩)] 71)) (.cells #[.pointer (some ⟨8, 71, none⟩), .pointer (some ⟨w.heap.size, 0, none⟩), .int .u64 150] 96)
  have g1 := frozen_alloc (cell_alloc ht _) (.cells #[.pointer (some ⟨8, 71, none⟩), .pointer (some ⟨w.heap.size, 0, none⟩), .int .u64 150] 96) (frozen_alloc ht (.cells #[.pointer (some ⟨t, 0, none⟩)] 71) hf)
  refine frontE T y t w _ hG (fun e w' h => ⟨_, h.1⟩) ((asE_num ps _ n hi t _ o1 _ HE hs (by simp; omega) (by simp) t1 g1).mono ?_)
  rintro e w' ⟨he, hb⟩
  exact ⟨he, Below.trans (b := ((w.alloc (.cells #[.pointer (some ⟨t, 0, none⟩)] 71)).alloc (.cells #[.pointer (some ⟨8, 71, none⟩), .pointer (some ⟨w.heap.size, 0, none⟩), .int .u64 150] 96)).setCell ⟨t, 0, none⟩ (.int .i64 n)) (below_set (((Below.refl _ w).alloc (Nat.le_refl _) _).alloc (by simp) _) _ _) (hb.mono (by simp; omega))⟩

theorem AsE_nil (ps : List ByteArray) (v : Value)  (hi t : Nat) (w : World) (he : Err w hi End.nil ps v) (hs : some? End.nil ps) (hhi : hi ≤ w.heap.size) (hG : Glob w) :
    Calls Tryz.prog 40 #[v, .iface 71 (.pointer (some ⟨t, 0, none⟩))] w fun e w' => e = .returned (.bool false) ∧ Below w.heap.size w w' := by
  obtain ⟨T, y, rfl⟩ := he.iface hs
  have HE := he.below (((Below.refl _ w).alloc (Nat.le_refl _) (.cells #[.pointer (some ⟨t, 0, none⟩)] 71)).alloc (by simp) (.cells #[.pointer (some ⟨8, 71, none⟩), .pointer (some ⟨w.heap.size, 0, none⟩), .int .u64 150] 96)) hhi
  refine frontE T y t w _ hG (fun e w' h => ⟨_, h.1⟩) ((asE_nil ps _ hi t _ _ HE hs (by simp; omega)).mono ?_)
  rintro e w' ⟨he, hb⟩
  exact ⟨he, (((Below.refl _ w).alloc (Nat.le_refl _) _).alloc (by simp) _).trans (hb.mono (by simp; omega))⟩

theorem AsP_hit (c t : Nat) (o1 : Value) (w : World) (hG : Glob w) (ht : w.cell? ⟨t, 0, none⟩ = some o1) (hf : w.frozen? ⟨t, 0, none⟩ = false) :
    Calls Tryz.prog 40 #[.iface 90 (.pointer (some ⟨c, 0, none⟩)), .iface 106 (.pointer (some ⟨t, 0, none⟩))] w fun e w' => e = .returned (.bool true) ∧ Below w.heap.size (w.setCell ⟨t, 0, none⟩ (.pointer (some ⟨c, 0, none⟩))) w' := by
  have t1 := cell_alloc (cell_alloc ht (.cells #[.pointer (some ⟨t, 0, none⟩)] 106)) (.cells #[.pointer (some ⟨8, 106, none⟩), .pointer (some ⟨w.heap.size, 0, none⟩), .int .u64 150] 96)
  have g1 := frozen_alloc (cell_alloc ht _) (.cells #[.pointer (some ⟨8, 106, none⟩), .pointer (some ⟨w.heap.size, 0, none⟩), .int .u64 150] 96) (frozen_alloc ht (.cells #[.pointer (some ⟨t, 0, none⟩)] 106) hf)
  refine frontP _ _ t w _ hG (fun e w' h => ⟨_, h.1⟩) ((asP_hit c t _ o1 _ (by simp) t1 g1).mono ?_)
  rintro e w' ⟨he, hb⟩
  exact ⟨he, Below.trans (b := ((w.alloc (.cells #[.pointer (some ⟨t, 0, none⟩)] 106)).alloc (.cells #[.pointer (some ⟨8, 106, none⟩), .pointer (some ⟨w.heap.size, 0, none⟩), .int .u64 150] 96)).setCell ⟨t, 0, none⟩ (.pointer (some ⟨c, 0, none⟩))) (below_set (((Below.refl _ w).alloc (Nat.le_refl _) _).alloc (by simp) _) _ _) (hb.mono (by simp; omega))⟩

theorem AsP_num (n : Int) (t : Nat) (w : World) (hG : Glob w) :
    Calls Tryz.prog 40 #[.iface 25 (.int .i64 n), .iface 106 (.pointer (some ⟨t, 0, none⟩))] w fun e w' => e = .returned (.bool false) ∧ Below w.heap.size w w' := by
  refine frontP _ _ t w _ hG (fun e w' h => ⟨_, h.1⟩) ((asP_num n t _ _).mono ?_)
  rintro e w' ⟨he, hb⟩
  exact ⟨he, (((Below.refl _ w).alloc (Nat.le_refl _) _).alloc (by simp) _).trans (hb.mono (by simp; omega))⟩

end Go.Proofs.YtfpjepeikjfkpaaGreatDoor

/-
  safely of package fault (a call under a deferred recover), and Code, Needed and Is, of any error that is made of places around an end.
-/
namespace Go.Proofs.YtfpjepeikjfkpaaGreatDoor
open Go.RowKit

theorem catch_idle (w : World) : CallsD Tryz.prog 70 #[] .returning w fun e u' w' => e = .returned (.tuple #[]) ∧ u' = .returning ∧ w' = w := by
  refine callsD_of_wpS Tryz.func70 rfl fun c₀ cs hu => ?_
  apply wpS_region
  simp [wpOpsS, go_sem, recoverD, hu, Tryz.ntmps70]
  cases c₀
  simp_all [bodyPostS, results, Tryz.results70]

theorem safely_of (k : FuncId) (caps : Array Value) (w : World) (R : World → Prop) (hk : (callFunc k caps).run Tryz.prog w = .ok (.enter k caps) w)
    (H : Calls Tryz.prog k caps w fun e w' => e = .returned (.tuple #[]) ∧ R w') :
    Calls Tryz.prog 38 #[.func (.func k) #[] caps] w fun e w' => e = .returned (.tuple #[]) ∧ R w' := by
  have H' := Lib.hid H
  clear H
  go_enter_defers Tryz.func38, Tryz.ntmps38
  go_wp2_with (refine (H'.out).mono ?_; rintro e w' ⟨rfl, hq⟩)
  refine leaves_cons (f := 70) (args := #[]) (by simp) (by simp [go_sem]) ?_
  refine (catch_idle _).mono ?_
  rintro e u' w'' ⟨rfl, rfl, rfl⟩
  exact ⟨_, results_none rfl _ _ _, rfl, hq⟩

/-- The number of an error that is one. -/
def codeOf : End → Int
  | none => 20
  | some (.inl n) => n
  | some (.inr x) => x.elim

theorem bcell {B : Nat} {w w1 : World} (hb : Below B w w1) {b k : Nat} {v : Value} (hB : b < B) (h : w.cell? ⟨b, k, none⟩ = some v) : w1.cell? ⟨b, k, none⟩ = some v := (hb.cell (p := ⟨b, k, none⟩) hB).trans h
theorem bfrozen {B : Nat} {w w1 : World} (hb : Below B w w1) {b k : Nat} (hB : b < B) (h : w.frozen? ⟨b, k, none⟩ = false) : w1.frozen? ⟨b, k, none⟩ = false := (hb.frozen (p := ⟨b, k, none⟩) hB).trans h

set_option maxHeartbeats 1000000 in
theorem code1_num (ps : List ByteArray) (v : Value) (n : Int) (hi pe pc : Nat) (o : Value) (w : World) (he : Err w hi (End.num n) ps v) (hhi : hi ≤ w.heap.size) (hG : Glob w)
    (hv : w.cell? ⟨pe, 0, none⟩ = some v) (hc : w.cell? ⟨pc, 0, none⟩ = some o) (hf : w.frozen? ⟨pc, 0, none⟩ = false) :
    Calls Tryz.prog 39 #[.pointer (some ⟨pe, 0, none⟩), .pointer (some ⟨pc, 0, none⟩)] w fun e w' => e = .returned (.tuple #[]) ∧ Below w.heap.size (w.setCell ⟨pc, 0, none⟩ (.int .i64 n)) w' := by
  have hv1 := cell_alloc hv (.cells #[.int .i64 0] 25)
  have hc1 := Lib.hid (cell_alloc hc (.cells #[.int .i64 n] 25))
  have hf1 := Lib.hid (frozen_alloc hc (.cells #[.int .i64 n] 25) hf)
  have hlt : pc < w.heap.size := World.block_lt_of_cell? w _ hc
  have HB : Below w.heap.size w (w.alloc (.cells #[.int .i64 0] 25)) := (Below.refl _ w).alloc (Nat.le_refl _) _
  have HE := Lib.hid (he.below HB hhi)
  have HG := Lib.hid (hG.below HB hG.big)
  clear he hG hv hc hf HB
  go_enter Tryz.func39, Tryz.ntmps39
  go_wp2_with fail
  refine (AsE_num ps v n hi w.heap.size (.int .i64 0) _ HE.out (by simp; omega) HG.out (by simp) (by simp)).mono ?_
  rintro e w' ⟨rfl, hb⟩
  have h1 : Below (w.heap.size + 1) (w.alloc (.cells #[.int .i64 n] 25)) w' := by simpa [World.setCell_alloc_at] using hb
  clear hb
  have c1 := bcell h1 (by omega) (show (w.alloc (.cells #[.int .i64 n] 25)).cell? ⟨w.heap.size, 0, none⟩ = some (.int .i64 n) by simp)
  have c2 := bcell h1 (by omega) hc1.out
  have c3 := bfrozen h1 (by omega) hf1.out
  have H1 := Lib.hid (((Below.refl _ w).alloc (Nat.le_refl _) _).trans (h1.mono (by omega)))
  clear h1 hv1
  go_wp2_with fail
  go_end0
  exact ⟨rfl, below_set H1.out _ _⟩

set_option maxHeartbeats 1000000 in
theorem code1_nil (ps : List ByteArray) (v : Value) (hi pe pc : Nat) (o : Value) (w : World) (he : Err w hi End.nil ps v) (hs : some? End.nil ps) (hhi : hi ≤ w.heap.size) (hG : Glob w)
    (hv : w.cell? ⟨pe, 0, none⟩ = some v) (hc : w.cell? ⟨pc, 0, none⟩ = some o) (hf : w.frozen? ⟨pc, 0, none⟩ = false) :
    Calls Tryz.prog 39 #[.pointer (some ⟨pe, 0, none⟩), .pointer (some ⟨pc, 0, none⟩)] w fun e w' => e = .returned (.tuple #[]) ∧ Below w.heap.size w w' := by
  have hv1 := cell_alloc hv (.cells #[.int .i64 0] 25)
  have hc1 := Lib.hid (cell_alloc hc (.cells #[.int .i64 0] 25))
  have hf1 := Lib.hid (frozen_alloc hc (.cells #[.int .i64 0] 25) hf)
  have hlt : pc < w.heap.size := World.block_lt_of_cell? w _ hc
  have HB : Below w.heap.size w (w.alloc (.cells #[.int .i64 0] 25)) := (Below.refl _ w).alloc (Nat.le_refl _) _
  have HE := Lib.hid (he.below HB hhi)
  have HG := Lib.hid (hG.below HB hG.big)
  clear he hG hv hc hf HB
  go_enter Tryz.func39, Tryz.ntmps39
  go_wp2_with fail
  refine (AsE_nil ps v hi w.heap.size _ HE.out hs (by simp; omega) HG.out).mono ?_
  rintro e w' ⟨rfl, hb⟩
  have H1 := Lib.hid (((Below.refl _ w).alloc (Nat.le_refl _) _).trans (hb.mono (by simp)))
  clear hb hv1
  go_wp2_with fail
  go_end0
  exact ⟨rfl, H1.out⟩

theorem code_none (w : World) : Calls Tryz.prog 20 #[.nilIface] w fun e w' => e = .returned (.int .i64 0) ∧ Below w.heap.size w w' := by
  go_enter Tryz.func20, Tryz.ntmps20
  go_wp2
  go_ret
  exact ⟨rfl, (Below.refl _ w).alloc (Nat.le_refl _) _⟩

set_option maxHeartbeats 1000000 in
theorem code_any (ps : List ByteArray) (v : Value) (e : End) (hi : Nat) (w : World) (he : Err w hi e ps v) (hs : some? e ps) (hhi : hi ≤ w.heap.size) (hG : Glob w) :
    Calls Tryz.prog 20 #[v] w fun r w' => r = .returned (.int .i64 (codeOf e)) ∧ Below w.heap.size w w' := by
  have hmf : ∀ (fn : Fn) (first cap : Array Value) (w : World), (Instr.makeFunc fn first cap).run Tryz.prog w = .ok (.func fn first cap) w := fun _ _ _ _ => rfl
  have HB : Below w.heap.size w ((w.alloc (.cells #[v] 34)).alloc (.cells #[.int .i64 20] 25)) := ((Below.refl _ w).alloc (Nat.le_refl _) _).alloc (by simp) _
  have HE := he.below HB hhi
  have HG := hG.below HB hG.big
  have H := Lib.hid (show Calls Tryz.prog 39 #[.pointer (some ⟨w.heap.size, 0, none⟩), .pointer (some ⟨w.heap.size + 1, 0, none⟩)] ((w.alloc (.cells #[v] 34)).alloc (.cells #[.int .i64 20] 25))
      fun r w' => r = .returned (.tuple #[]) ∧ Below (w.heap.size + 2) ((w.alloc (.cells #[v] 34)).alloc (.cells #[.int .i64 (codeOf e)] 25)) w' from by
    rcases e with _ | n | x
    · refine (code1_nil ps v hi _ _ (.int .i64 20) _ HE hs (by simp; omega) HG (by simp) (by simp) (by simp)).mono ?_
      rintro r w' ⟨rfl, hb⟩
      exact ⟨rfl, by simpa [codeOf] using hb⟩
    · refine (code1_num ps v n hi _ _ (.int .i64 20) _ HE (by simp; omega) HG (by simp) (by simp) (by simp)).mono ?_
      rintro r w' ⟨rfl, hb⟩
      refine ⟨rfl, ?_⟩
      simpa [World.setCell_alloc_at, codeOf] using hb
    · exact x.elim)
  obtain ⟨T, y, rfl⟩ := he.iface hs
  clear he hG HB HE HG hs
  go_enter Tryz.func20, Tryz.ntmps20
  go_wp2_with fail
  refine (safely_of 39 _ _ (fun w' => Below (w.heap.size + 2) ((w.alloc (.cells #[.iface T y] 34)).alloc (.cells #[.int .i64 (codeOf e)] 25)) w') (by kernel_rfl) (H.out)).mono ?_
  rintro r w' ⟨rfl, hb⟩
  have c1 := bcell hb (by omega) (show ((w.alloc (.cells #[.iface T y] 34)).alloc (.cells #[.int .i64 (codeOf e)] 25)).cell? ⟨w.heap.size + 1, 0, none⟩ = some (.int .i64 (codeOf e)) by simp)
  have H1 := Lib.hid ((((Below.refl _ w).alloc (Nat.le_refl _) _).alloc (by simp) _).trans (hb.mono (by omega)))
  clear hb H
  go_wp2_with fail
  go_ret
  exact ⟨rfl, H1.out⟩
end Go.Proofs.YtfpjepeikjfkpaaGreatDoor
