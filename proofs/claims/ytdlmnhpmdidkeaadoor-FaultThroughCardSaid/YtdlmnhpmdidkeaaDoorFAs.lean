/-
  errors.as, the library's own loop, at the three targets of package fault (a number, a need, a Fault), of any error that is made of places around an end: by walking its text.
-/
import Derived.Test.YtdlmnhpmdidkeaaDoorFBase
import Derived.Deep.LoopGhost
import Derived.Laws.NewBlocks
namespace Go.Proofs.YtdlmnhpmdidkeaaDoor
open Go.RowKit

theorem unwrap_any (b : Nat) (p : ByteArray) (u : Value) (w : World) (h : w.heap[b]? = some (.cells #[.string p, u] 51 (0, 0))) :
    Calls Tryd.prog 22 #[.pointer (some ⟨b, 0, none⟩)] w fun e w' => e = .returned u ∧ w = w' := by
  have hc : w.cell? ⟨b, 1, none⟩ = some u := by simp [World.cell?, h]
  clear h
  go_enter Tryd.func22, Tryd.ntmps22
  go_wp2
  go_ret
  exact ⟨rfl, rfl⟩

/-- An error is a value of an interface. -/
theorem Err.iface {w : World} {hi : Nat} {e : End} {ps : List ByteArray} {v : Value} (h : Err w hi e ps v) (hs : some? e ps) : ∃ t x, v = .iface t x := by
  rcases ps with _ | ⟨p, ps⟩
  · rcases e with _ | n | ⟨x, y⟩
    · rcases hs with hs | hs
      · exact absurd rfl hs
      · exact absurd rfl hs
    · exact ⟨_, _, h⟩
    · exact ⟨_, _, h⟩
  · obtain ⟨b, u, rfl, _⟩ := h
    exact ⟨_, _, rfl⟩

theorem cell_alloc {w : World} {b k : Nat} {v : Value} (h : w.cell? ⟨b, k, none⟩ = some v) (o : Obj) : (w.alloc o).cell? ⟨b, k, none⟩ = some v := by
  rw [World.cell?_alloc_lt _ _ ⟨b, k, none⟩ (World.block_lt_of_cell? w _ h)]; exact h
theorem frozen_alloc {w : World} {b k : Nat} {v : Value} (h : w.cell? ⟨b, k, none⟩ = some v) (o : Obj) (hf : w.frozen? ⟨b, k, none⟩ = false) : (w.alloc o).frozen? ⟨b, k, none⟩ = false := by
  rw [World.frozen?_alloc_old _ _ ⟨b, k, none⟩ (Nat.ne_of_lt (World.block_lt_of_cell? w _ h))]; exact hf

/-- A store that both worlds have. -/
theorem below_set {B : Nat} {w w' : World} (h : Below B w w') (a : Addr) (v : Value) : Below B (w.setCell a v) (w'.setCell a v) :=
  ⟨h.os, h.tape, h.output, by simpa [World.setCell] using h.size, fun k hk => by
    have := h.block k hk
    simp only [World.setCell, Array.getElem?_modify]
    rw [this]⟩

set_option maxHeartbeats 1000000 in
theorem asE_num (ps : List ByteArray) (v : Value) (n : Int) (hi t x : Nat) (o1 : Value) (w : World) (he : Err w hi (End.num n) ps v) (hs : some? (End.num n) ps) (hhi : hi ≤ w.heap.size)
    (hx : w.cell? ⟨x, 0, none⟩ = some (.pointer (some ⟨t, 0, none⟩))) (ht : w.cell? ⟨t, 0, none⟩ = some o1) (hf : w.frozen? ⟨t, 0, none⟩ = false) :
    Calls Tryd.prog 42 #[v, .iface 62 (.pointer (some ⟨t, 0, none⟩)), .agg #[.pointer (some ⟨5, 62, none⟩), .pointer (some ⟨x, 0, none⟩), .int .u64 150], .iface 94 (.agg #[.pointer (some ⟨5, 29, none⟩)])] w
      fun e w' => e = .returned (.bool true) ∧ Below w.heap.size (w.setCell ⟨t, 0, none⟩ (.int .i64 n)) w' := by
  have mA := methodAssignableTo
  go_enter Tryd.func42, Tryd.ntmps42
  go_wp2
  go_loopg [0] ps.length (fun k u wr => ∃ qs, qs.length = k ∧ wr = w.alloc (.cells #[.pointer (some ⟨5, 62, none⟩), .pointer (some ⟨x, 0, none⟩), .int .u64 150] 72) ∧ Err wr hi (End.num n) qs u ∧ some? (End.num n) qs)
  case atStart => exact ⟨ps, rfl, rfl, he.below ((Below.refl _ w).alloc (Nat.le_refl _) _) hhi, hs⟩
  case round =>
    obtain ⟨qs, hk, rfl, hr, hq⟩ := hrel
    have HK := Lib.hid hk
    clear hk he hs
    rcases qs with _ | ⟨p, qs⟩
    · obtain rfl : u0 = .iface 29 (.int .i64 n) := hr
      have f1 := typeOfE
      have f2 := assignEE
      have f3 := valueOfE
      have hx1 := cell_alloc hx (.cells #[.pointer (some ⟨5, 62, none⟩), .pointer (some ⟨x, 0, none⟩), .int .u64 150] 72)
      have el := elemVE ⟨x, 0, none⟩ ⟨t, 0, none⟩ _ hx1
      have ht1 := cell_alloc ht (.cells #[.pointer (some ⟨5, 62, none⟩), .pointer (some ⟨x, 0, none⟩), .int .u64 150] 72)
      have hf1 := frozen_alloc ht (.cells #[.pointer (some ⟨5, 62, none⟩), .pointer (some ⟨x, 0, none⟩), .int .u64 150] 72) hf
      have st := setE t (w.heap.size + 1) n o1 ((w.alloc (.cells #[.pointer (some ⟨5, 62, none⟩), .pointer (some ⟨x, 0, none⟩), .int .u64 150] 72)).alloc (.cells #[.int .i64 n] 29)) (by simp) (cell_alloc ht1 _) (frozen_alloc ht1 _ hf1)
      clear hx1 ht1 hf1 HK hx hf hhi hq
      have htl : t < w.heap.size := World.block_lt_of_cell? w _ ht
      clear ht
      go_wp2
      go_ret
      exact ⟨rfl, ((Below.refl _ _).alloc (by simp) _).alloc (by simp) _⟩
    · obtain ⟨q, u, rfl, hb, hc, hr⟩ := hr
      have f1 := typeOfP
      have f2 := assignPE
      have f3 := noAsP
      have f4 := hasU1P
      have mU := methodUnwrap
      have HC := Lib.hid hc
      clear hc hhi hb hq hx ht hf
      have hs : some? (End.num n) qs := .inr (by intro h; cases h)
      obtain ⟨T, y, rfl⟩ := hr.iface hs
      go_wp2_with (go_at_call 22; refine (unwrap_any _ _ _ _ HC.out).mono ?_; rintro e w' ⟨rfl, rfl⟩)
      go_roundg qs.length
      case measure => have := HK.out; simp at this; omega
      case rel => exact ⟨qs, rfl, rfl, hr, hs⟩

set_option maxHeartbeats 1000000 in
theorem asE_need (ps : List ByteArray) (v : Value) (a b : ByteArray) (hi t x : Nat) (w : World) (he : Err w hi (End.need a b) ps v) (hs : some? (End.need a b) ps) (hhi : hi ≤ w.heap.size)
    :
    Calls Tryd.prog 42 #[v, .iface 62 (.pointer (some ⟨t, 0, none⟩)), .agg #[.pointer (some ⟨5, 62, none⟩), .pointer (some ⟨x, 0, none⟩), .int .u64 150], .iface 94 (.agg #[.pointer (some ⟨5, 29, none⟩)])] w
      fun e w' => e = .returned (.bool false) ∧ Below w.heap.size w w' := by
  have mA := methodAssignableTo
  go_enter Tryd.func42, Tryd.ntmps42
  go_wp2
  go_loopg [0] ps.length (fun k u wr => ∃ qs, qs.length = k ∧ wr = w.alloc (.cells #[.pointer (some ⟨5, 62, none⟩), .pointer (some ⟨x, 0, none⟩), .int .u64 150] 72) ∧ Err wr hi (End.need a b) qs u ∧ some? (End.need a b) qs)
  case atStart => exact ⟨ps, rfl, rfl, he.below ((Below.refl _ w).alloc (Nat.le_refl _) _) hhi, hs⟩
  case round =>
    obtain ⟨qs, hk, rfl, hr, hq⟩ := hrel
    have HK := Lib.hid hk
    clear hk he hs
    rcases qs with _ | ⟨p, qs⟩
    · obtain rfl : u0 = .iface 31 (.agg #[.string a, .string b]) := hr
      have f1 := typeOfN
      have f2 := assignNE
      have f3 := noAsN
      have f4 := noU1N
      have f5 := noU2N
      clear HK hhi hq
      go_wp2
      go_ret
      exact ⟨rfl, (Below.refl _ w).alloc (Nat.le_refl _) _⟩
    · obtain ⟨q, u, rfl, hb, hc, hr⟩ := hr
      have f1 := typeOfP
      have f2 := assignPE
      have f3 := noAsP
      have f4 := hasU1P
      have mU := methodUnwrap
      have HC := Lib.hid hc
      clear hc hhi hb hq
      have hs : some? (End.need a b) qs := .inr (by intro h; cases h)
      obtain ⟨T, y, rfl⟩ := hr.iface hs
      go_wp2_with (go_at_call 22; refine (unwrap_any _ _ _ _ HC.out).mono ?_; rintro e w' ⟨rfl, rfl⟩)
      go_roundg qs.length
      case measure => have := HK.out; simp at this; omega
      case rel => exact ⟨qs, rfl, rfl, hr, hs⟩

set_option maxHeartbeats 1000000 in
theorem asE_nil (ps : List ByteArray) (v : Value)  (hi t x : Nat) (w : World) (he : Err w hi End.nil ps v) (hs : some? End.nil ps) (hhi : hi ≤ w.heap.size)
    :
    Calls Tryd.prog 42 #[v, .iface 62 (.pointer (some ⟨t, 0, none⟩)), .agg #[.pointer (some ⟨5, 62, none⟩), .pointer (some ⟨x, 0, none⟩), .int .u64 150], .iface 94 (.agg #[.pointer (some ⟨5, 29, none⟩)])] w
      fun e w' => e = .returned (.bool false) ∧ Below w.heap.size w w' := by
  have mA := methodAssignableTo
  go_enter Tryd.func42, Tryd.ntmps42
  go_wp2
  go_loopg [0] ps.length (fun k u wr => ∃ qs, qs.length = k ∧ wr = w.alloc (.cells #[.pointer (some ⟨5, 62, none⟩), .pointer (some ⟨x, 0, none⟩), .int .u64 150] 72) ∧ Err wr hi End.nil qs u ∧ some? End.nil qs)
  case atStart => exact ⟨ps, rfl, rfl, he.below ((Below.refl _ w).alloc (Nat.le_refl _) _) hhi, hs⟩
  case round =>
    obtain ⟨qs, hk, rfl, hr, hq⟩ := hrel
    have HK := Lib.hid hk
    clear hk he hs
    rcases qs with _ | ⟨p, qs⟩
    · rcases hq with h | h <;> exact absurd rfl h
    · obtain ⟨q, u, rfl, hb, hc, hr⟩ := hr
      have f1 := typeOfP
      have f2 := assignPE
      have f3 := noAsP
      have f4 := hasU1P
      have mU := methodUnwrap
      have HC := Lib.hid hc
      clear hc hhi hb hq
      rcases qs with _ | ⟨p', qs⟩
      · obtain rfl : u = .nilIface := hr
        clear HK
        go_wp2_with (go_at_call 22; refine (unwrap_any _ _ _ _ HC.out).mono ?_; rintro e w' ⟨rfl, rfl⟩)
        go_ret
        exact ⟨rfl, (Below.refl _ w).alloc (Nat.le_refl _) _⟩
      · have hs : some? End.nil (p' :: qs) := .inl (by simp)
        obtain ⟨T, y, rfl⟩ := hr.iface hs
        go_wp2_with (go_at_call 22; refine (unwrap_any _ _ _ _ HC.out).mono ?_; rintro e w' ⟨rfl, rfl⟩)
        go_roundg (qs.length + 1)
        case measure => have := HK.out; simp at this; omega
        case rel => exact ⟨p' :: qs, rfl, rfl, hr, hs⟩

set_option maxHeartbeats 1000000 in
theorem asN_num (ps : List ByteArray) (v : Value) (n : Int) (hi t x : Nat) (w : World) (he : Err w hi (End.num n) ps v) (hs : some? (End.num n) ps) (hhi : hi ≤ w.heap.size)
    :
    Calls Tryd.prog 42 #[v, .iface 61 (.pointer (some ⟨t, 0, none⟩)), .agg #[.pointer (some ⟨5, 61, none⟩), .pointer (some ⟨x, 0, none⟩), .int .u64 150], .iface 94 (.agg #[.pointer (some ⟨5, 31, none⟩)])] w
      fun e w' => e = .returned (.bool false) ∧ Below w.heap.size w w' := by
  have mA := methodAssignableTo
  go_enter Tryd.func42, Tryd.ntmps42
  go_wp2
  go_loopg [0] ps.length (fun k u wr => ∃ qs, qs.length = k ∧ wr = w.alloc (.cells #[.pointer (some ⟨5, 61, none⟩), .pointer (some ⟨x, 0, none⟩), .int .u64 150] 72) ∧ Err wr hi (End.num n) qs u ∧ some? (End.num n) qs)
  case atStart => exact ⟨ps, rfl, rfl, he.below ((Below.refl _ w).alloc (Nat.le_refl _) _) hhi, hs⟩
  case round =>
    obtain ⟨qs, hk, rfl, hr, hq⟩ := hrel
    have HK := Lib.hid hk
    clear hk he hs
    rcases qs with _ | ⟨p, qs⟩
    · obtain rfl : u0 = .iface 29 (.int .i64 n) := hr
      have f1 := typeOfE
      have f2 := assignEN
      have f3 := noAsE
      have f4 := noU1E
      have f5 := noU2E
      clear HK hhi hq
      go_wp2
      go_ret
      exact ⟨rfl, (Below.refl _ w).alloc (Nat.le_refl _) _⟩
    · obtain ⟨q, u, rfl, hb, hc, hr⟩ := hr
      have f1 := typeOfP
      have f2 := assignPN
      have f3 := noAsP
      have f4 := hasU1P
      have mU := methodUnwrap
      have HC := Lib.hid hc
      clear hc hhi hb hq
      have hs : some? (End.num n) qs := .inr (by intro h; cases h)
      obtain ⟨T, y, rfl⟩ := hr.iface hs
      go_wp2_with (go_at_call 22; refine (unwrap_any _ _ _ _ HC.out).mono ?_; rintro e w' ⟨rfl, rfl⟩)
      go_roundg qs.length
      case measure => have := HK.out; simp at this; omega
      case rel => exact ⟨qs, rfl, rfl, hr, hs⟩

set_option maxHeartbeats 1000000 in
theorem asN_need (ps : List ByteArray) (v : Value) (a b : ByteArray) (hi t x : Nat) (o1 o2 : Value) (w : World) (he : Err w hi (End.need a b) ps v) (hs : some? (End.need a b) ps) (hhi : hi ≤ w.heap.size)
    (hx : w.cell? ⟨x, 0, none⟩ = some (.pointer (some ⟨t, 0, none⟩))) (ht : w.cell? ⟨t, 0, none⟩ = some o1) (ht' : w.cell? ⟨t, 1, none⟩ = some o2) (hf : w.frozen? ⟨t, 0, none⟩ = false) (hf' : w.frozen? ⟨t, 1, none⟩ = false) :
    Calls Tryd.prog 42 #[v, .iface 61 (.pointer (some ⟨t, 0, none⟩)), .agg #[.pointer (some ⟨5, 61, none⟩), .pointer (some ⟨x, 0, none⟩), .int .u64 150], .iface 94 (.agg #[.pointer (some ⟨5, 31, none⟩)])] w
      fun e w' => e = .returned (.bool true) ∧ Below w.heap.size ((w.setCell ⟨t, 0, none⟩ (.string a)).setCell ⟨t, 1, none⟩ (.string b)) w' := by
  have mA := methodAssignableTo
  go_enter Tryd.func42, Tryd.ntmps42
  go_wp2
  go_loopg [0] ps.length (fun k u wr => ∃ qs, qs.length = k ∧ wr = w.alloc (.cells #[.pointer (some ⟨5, 61, none⟩), .pointer (some ⟨x, 0, none⟩), .int .u64 150] 72) ∧ Err wr hi (End.need a b) qs u ∧ some? (End.need a b) qs)
  case atStart => exact ⟨ps, rfl, rfl, he.below ((Below.refl _ w).alloc (Nat.le_refl _) _) hhi, hs⟩
  case round =>
    obtain ⟨qs, hk, rfl, hr, hq⟩ := hrel
    have HK := Lib.hid hk
    clear hk he hs
    rcases qs with _ | ⟨p, qs⟩
    · obtain rfl : u0 = .iface 31 (.agg #[.string a, .string b]) := hr
      have f1 := typeOfN
      have f2 := assignNN
      have f3 := valueOfN
      have hx1 := cell_alloc hx (.cells #[.pointer (some ⟨5, 61, none⟩), .pointer (some ⟨x, 0, none⟩), .int .u64 150] 72)
      have el := elemVN ⟨x, 0, none⟩ ⟨t, 0, none⟩ _ hx1
      have ht1 := cell_alloc ht (.cells #[.pointer (some ⟨5, 61, none⟩), .pointer (some ⟨x, 0, none⟩), .int .u64 150] 72)
      have hf1 := frozen_alloc ht (.cells #[.pointer (some ⟨5, 61, none⟩), .pointer (some ⟨x, 0, none⟩), .int .u64 150] 72) hf
      have ht2 := cell_alloc ht' (.cells #[.pointer (some ⟨5, 61, none⟩), .pointer (some ⟨x, 0, none⟩), .int .u64 150] 72)
      have hf2 := frozen_alloc ht' (.cells #[.pointer (some ⟨5, 61, none⟩), .pointer (some ⟨x, 0, none⟩), .int .u64 150] 72) hf'
      have st := setN t (w.heap.size + 1) a b o1 o2 ((w.alloc (.cells #[.pointer (some ⟨5, 61, none⟩), .pointer (some ⟨x, 0, none⟩), .int .u64 150] 72)).alloc (.cells #[.string a, .string b] 31)) (by simp) (by simp) (cell_alloc ht1 _) (cell_alloc ht2 _) (frozen_alloc ht1 _ hf1) (frozen_alloc ht2 _ hf2)
      clear hx1 ht1 hf1 HK hx hf hhi hq ht2 hf2 hf'
      have htl : t < w.heap.size := World.block_lt_of_cell? w _ ht
      clear ht ht'
      go_wp2
      go_ret
      exact ⟨rfl, ((Below.refl _ _).alloc (by simp) _).alloc (by simp) _⟩
    · obtain ⟨q, u, rfl, hb, hc, hr⟩ := hr
      have f1 := typeOfP
      have f2 := assignPN
      have f3 := noAsP
      have f4 := hasU1P
      have mU := methodUnwrap
      have HC := Lib.hid hc
      clear hc hhi hb hq hx ht hf ht' hf'
      have hs : some? (End.need a b) qs := .inr (by intro h; cases h)
      obtain ⟨T, y, rfl⟩ := hr.iface hs
      go_wp2_with (go_at_call 22; refine (unwrap_any _ _ _ _ HC.out).mono ?_; rintro e w' ⟨rfl, rfl⟩)
      go_roundg qs.length
      case measure => have := HK.out; simp at this; omega
      case rel => exact ⟨qs, rfl, rfl, hr, hs⟩

set_option maxHeartbeats 1000000 in
theorem asN_nil (ps : List ByteArray) (v : Value)  (hi t x : Nat) (w : World) (he : Err w hi End.nil ps v) (hs : some? End.nil ps) (hhi : hi ≤ w.heap.size)
    :
    Calls Tryd.prog 42 #[v, .iface 61 (.pointer (some ⟨t, 0, none⟩)), .agg #[.pointer (some ⟨5, 61, none⟩), .pointer (some ⟨x, 0, none⟩), .int .u64 150], .iface 94 (.agg #[.pointer (some ⟨5, 31, none⟩)])] w
      fun e w' => e = .returned (.bool false) ∧ Below w.heap.size w w' := by
  have mA := methodAssignableTo
  go_enter Tryd.func42, Tryd.ntmps42
  go_wp2
  go_loopg [0] ps.length (fun k u wr => ∃ qs, qs.length = k ∧ wr = w.alloc (.cells #[.pointer (some ⟨5, 61, none⟩), .pointer (some ⟨x, 0, none⟩), .int .u64 150] 72) ∧ Err wr hi End.nil qs u ∧ some? End.nil qs)
  case atStart => exact ⟨ps, rfl, rfl, he.below ((Below.refl _ w).alloc (Nat.le_refl _) _) hhi, hs⟩
  case round =>
    obtain ⟨qs, hk, rfl, hr, hq⟩ := hrel
    have HK := Lib.hid hk
    clear hk he hs
    rcases qs with _ | ⟨p, qs⟩
    · rcases hq with h | h <;> exact absurd rfl h
    · obtain ⟨q, u, rfl, hb, hc, hr⟩ := hr
      have f1 := typeOfP
      have f2 := assignPN
      have f3 := noAsP
      have f4 := hasU1P
      have mU := methodUnwrap
      have HC := Lib.hid hc
      clear hc hhi hb hq
      rcases qs with _ | ⟨p', qs⟩
      · obtain rfl : u = .nilIface := hr
        clear HK
        go_wp2_with (go_at_call 22; refine (unwrap_any _ _ _ _ HC.out).mono ?_; rintro e w' ⟨rfl, rfl⟩)
        go_ret
        exact ⟨rfl, (Below.refl _ w).alloc (Nat.le_refl _) _⟩
      · have hs : some? End.nil (p' :: qs) := .inl (by simp)
        obtain ⟨T, y, rfl⟩ := hr.iface hs
        go_wp2_with (go_at_call 22; refine (unwrap_any _ _ _ _ HC.out).mono ?_; rintro e w' ⟨rfl, rfl⟩)
        go_roundg (qs.length + 1)
        case measure => have := HK.out; simp at this; omega
        case rel => exact ⟨p' :: qs, rfl, rfl, hr, hs⟩

set_option maxHeartbeats 1000000 in
theorem asP_hit (c t x : Nat) (o1 : Value) (w : World) (hx : w.cell? ⟨x, 0, none⟩ = some (.pointer (some ⟨t, 0, none⟩))) (ht : w.cell? ⟨t, 0, none⟩ = some o1) (hf : w.frozen? ⟨t, 0, none⟩ = false) :
    Calls Tryd.prog 42 #[.iface 49 (.pointer (some ⟨c, 0, none⟩)), .iface 82 (.pointer (some ⟨t, 0, none⟩)), .agg #[.pointer (some ⟨5, 82, none⟩), .pointer (some ⟨x, 0, none⟩), .int .u64 150], .iface 94 (.agg #[.pointer (some ⟨5, 49, none⟩)])] w
      fun e w' => e = .returned (.bool true) ∧ Below w.heap.size (w.setCell ⟨t, 0, none⟩ (.pointer (some ⟨c, 0, none⟩))) w' := by
  have mA := methodAssignableTo
  have f1 := typeOfP
  have f2 := assignPP
  have f3 := valueOfP
  have hx1 := cell_alloc hx (.cells #[.pointer (some ⟨5, 82, none⟩), .pointer (some ⟨x, 0, none⟩), .int .u64 150] 72)
  have el := elemVP ⟨x, 0, none⟩ ⟨t, 0, none⟩ _ hx1
  have ht1 := cell_alloc ht (.cells #[.pointer (some ⟨5, 82, none⟩), .pointer (some ⟨x, 0, none⟩), .int .u64 150] 72)
  have hf1 := frozen_alloc ht (.cells #[.pointer (some ⟨5, 82, none⟩), .pointer (some ⟨x, 0, none⟩), .int .u64 150] 72) hf
  have st := setP t (w.heap.size + 1) ⟨c, 0, none⟩ o1 ((w.alloc (.cells #[.pointer (some ⟨5, 82, none⟩), .pointer (some ⟨x, 0, none⟩), .int .u64 150] 72)).alloc (.cells #[.pointer (some ⟨c, 0, none⟩)] 49)) (by simp) (cell_alloc ht1 _) (frozen_alloc ht1 _ hf1)
  clear hx1 ht1 hf1 hx hf
  have htl : t < w.heap.size := World.block_lt_of_cell? w _ ht
  clear ht
  go_enter Tryd.func42, Tryd.ntmps42
  go_wp2
  refine wp_loop_rounds 1 ?_
  rw [rounds_succ]
  go_wp2
  go_ret
  exact ⟨rfl, ((Below.refl _ _).alloc (by simp) _).alloc (by simp) _⟩

set_option maxHeartbeats 1000000 in
theorem asP_num (n : Int) (t x : Nat) (w : World) :
    Calls Tryd.prog 42 #[.iface 29 (.int .i64 n), .iface 82 (.pointer (some ⟨t, 0, none⟩)), .agg #[.pointer (some ⟨5, 82, none⟩), .pointer (some ⟨x, 0, none⟩), .int .u64 150], .iface 94 (.agg #[.pointer (some ⟨5, 49, none⟩)])] w
      fun e w' => e = .returned (.bool false) ∧ Below w.heap.size w w' := by
  have mA := methodAssignableTo
  have f1 := typeOfE
  have f2 := assignEP
  have f3 := noAsE
  have f4 := noU1E
  have f5 := noU2E
  go_enter Tryd.func42, Tryd.ntmps42
  go_wp2
  refine wp_loop_rounds 1 ?_
  rw [rounds_succ]
  go_wp2
  go_ret
  exact ⟨rfl, (Below.refl _ w).alloc (Nat.le_refl _) _⟩

set_option maxHeartbeats 1000000 in
theorem asP_need (a b : ByteArray) (t x : Nat) (w : World) :
    Calls Tryd.prog 42 #[.iface 31 (.agg #[.string a, .string b]), .iface 82 (.pointer (some ⟨t, 0, none⟩)), .agg #[.pointer (some ⟨5, 82, none⟩), .pointer (some ⟨x, 0, none⟩), .int .u64 150], .iface 94 (.agg #[.pointer (some ⟨5, 49, none⟩)])] w
      fun e w' => e = .returned (.bool false) ∧ Below w.heap.size w w' := by
  have mA := methodAssignableTo
  have f1 := typeOfN
  have f2 := assignNP
  have f3 := noAsN
  have f4 := noU1N
  have f5 := noU2N
  go_enter Tryd.func42, Tryd.ntmps42
  go_wp2
  refine wp_loop_rounds 1 ?_
  rw [rounds_succ]
  go_wp2
  go_ret
  exact ⟨rfl, (Below.refl _ w).alloc (Nat.le_refl _) _⟩

end Go.Proofs.YtdlmnhpmdidkeaaDoor
