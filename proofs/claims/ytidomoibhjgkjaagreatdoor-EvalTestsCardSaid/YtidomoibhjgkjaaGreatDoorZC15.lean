import Derived.Test.YtidomoibhjgkjaaGreatDoorZC10
import Derived.Test.YtidomoibhjgkjaaGreatDoorZC11
import Derived.Test.YtidomoibhjgkjaaGreatDoorZC14
import Derived.Test.YtidomoibhjgkjaaGreatDoorZC01
import Derived.WalkKit
import Derived.RowKitTokens
import Derived.Lib.Hide
import Derived.Laws.AppendOwnNone
import Derived.Deep.RegionLaw
import Derived.Lib.SmallJoins
import Derived.Test.YtidomoibhjgkjaaGreatDoorZC08
/-
  Package eval: a run in memory: the values that came, in a slice of its own.
-/
namespace Go.Proofs.YtidomoibhjgkjaaGreatDoor
open Go.RowKit

/-! ### the cells of values -/
def cellV (v : V) : List Value := [.int .i64 v.k, .int .i64 v.n, .string v.s]
theorem cells3_cons (x : V) (l : List V) : cells3 (x :: l) = cellV x ++ cells3 l := by simp [cells3, cellV]
theorem cells3_append (a b : List V) : cells3 (a ++ b) = cells3 a ++ cells3 b := by simp [cells3]
theorem cells3_one (x : V) : cells3 [x] = cellV x := by simp [cells3, cellV]
theorem cells3_len (l : List V) : (cells3 l).length = l.length * 3 := by
  induction l with
  | nil => rfl
  | cons x l ih => rw [cells3_cons, List.length_append, ih, List.length_cons]; simp [cellV]; omega
theorem cellV_one (x : V) : ∀ v ∈ cellV x, v.oneCell' = true := by
  intro v hv
  simp only [cellV, List.mem_cons, List.not_mem_nil, or_false] at hv
  rcases hv with rfl | rfl | rfl <;> rfl
theorem cells3_at : ∀ (l : List V) (j : Nat) (h : j < l.length), (cells3 l)[j * 3]? = some (.int .i64 (l[j]'h).k) ∧ (cells3 l)[j * 3 + 1]? = some (.int .i64 (l[j]'h).n) ∧ (cells3 l)[j * 3 + 2]? = some (.string (l[j]'h).s)
  | [], _, h => absurd h (by simp)
  | x :: l, 0, _ => by simp [cells3_cons, cellV]
  | x :: l, j + 1, h => by
    have ih := cells3_at l j (by simpa using h)
    have e : ∀ k, (cells3 (x :: l))[(j + 1) * 3 + k]? = (cells3 l)[j * 3 + k]? := fun k => by
      rw [cells3_cons, List.getElem?_append_right (by simp [cellV]; omega)]
      congr 1
      simp [cellV]
      omega
    have e0 := e 0
    simp only [Nat.add_zero] at e0
    rw [e0, e 1, e 2]
    exact ih
theorem cells3_take (l : List V) (n : Nat) : (cells3 l).take (n * 3) = cells3 (l.take n) := by
  induction l generalizing n with
  | nil => simp [cells3]
  | cons x l ih =>
    cases n with
    | zero => simp [cells3]
    | succ n =>
      rw [List.take_succ_cons, cells3_cons, cells3_cons, ← ih, List.take_append]
      have hl : (cellV x).length = 3 := rfl
      rw [hl, List.take_of_length_le (by rw [hl]; omega)]
      congr 2
      omega
theorem infoVal : ∃ i z, Tryz.prog.info? 27 = some i ∧ i.zero = some z ∧ z.cells.size = 3 ∧ i.size = 3 ∧ i.bytes = 32 := by
  have h : (Tryz.prog.info? 27).map (fun i => (i.zero.map (fun z => z.cells.size), i.size, i.bytes)) = some (some 3, 3, 32) := by kernel_rfl
  obtain ⟨i, hi, hz⟩ := Option.map_eq_some_iff.1 h
  simp only [Prod.mk.injEq] at hz
  obtain ⟨z, hz0, hz1⟩ := Option.map_eq_some_iff.1 hz.1
  exact ⟨i, z, hi, hz0, hz1, hz.2.1, hz.2.2⟩

/-- The cells of a value stand at a place. -/
def ValAt (w : World) (b o : Nat) (x : V) : Prop := w.cell? ⟨b, o, none⟩ = some (.int .i64 x.k) ∧ w.cell? ⟨b, o + 1, none⟩ = some (.int .i64 x.n) ∧ w.cell? ⟨b, o + 2, none⟩ = some (.string x.s)

/-! ### slices of the call's own -/
/-- A slice of these values, in a block from lo on that nothing else has. -/
def OwnV (w : World) (lo : Nat) (v : Value) (l : List V) : Prop := w.ownsRow lo 27 3 v l.length (cells3 l)
theorem OwnV.nil (w : World) (lo : Nat) : OwnV w lo (.slice none 0 0) [] := World.ownsRow_nil _ _ _ _
theorem OwnV.keep {w w' : World} {lo lo' : Nat} {v : Value} {l : List V} (h : OwnV w lo v l) (hk : ∀ g, v.ownBlock = some g → g < w.heap.size → w'.heap[g]? = w.heap[g]?) (hlo : lo' ≤ lo) : OwnV w' lo' v l := by
  refine ⟨h.1, ?_⟩
  rcases h.2 with h2 | ⟨g, cap, cur, hv, hb, hg, r⟩
  · exact .inl h2
  · refine .inr ⟨g, cap, cur, hv, by omega, ?_, r⟩
    rw [hk g (by rw [hv]; rfl) (Array.getElem?_eq_some_iff.1 hg).1]
    exact hg
theorem OwnV.lt {w : World} {lo : Nat} {v : Value} {l : List V} (h : OwnV w lo v l) : ∀ g, v.ownBlock = some g → lo ≤ g ∧ g < w.heap.size := fun g hg => World.ownsRow.lt h g hg
theorem OwnV.at_ {w : World} {lo : Nat} {A : Option Addr} {n c : Nat} {l : List V} (h : OwnV w lo (.slice A n c) l) (j : Nat) (hj : j < l.length) : ∃ g, A = some ⟨g, 0, none⟩ ∧ lo ≤ g ∧ g < w.heap.size ∧ n = l.length ∧ l.length ≤ c ∧ ValAt w g (j * 3) (l[j]'hj) := by
  rcases h.2 with ⟨hv, hn⟩ | ⟨g, cap, cur, hv, hb, hg, hcap, _⟩
  · omega
  · injection hv with e1 e2 e3
    subst e1 e2 e3
    refine ⟨g, rfl, hb, (Array.getElem?_eq_some_iff.1 hg).1, rfl, hcap, ?_⟩
    have hc := h.cells (g := g) rfl
    obtain ⟨t0, t1, t2⟩ := cells3_at l j hj
    have add : ∀ k, (⟨g, 0, none⟩ : Addr).add k = ⟨g, k, none⟩ := fun k => by unfold Addr.add; split <;> simp_all
    have c0 := hc _ _ t0
    have c1 := hc _ _ t1
    have c2 := hc _ _ t2
    rw [add] at c0 c1 c2
    exact ⟨c0, c1, c2⟩
/-- Less of it, with the same room. -/
theorem OwnV.cut {w : World} {lo n c : Nat} {A : Option Addr} {l : List V} (h : OwnV w lo (.slice A n c) l) (k : Nat) (hk : k ≤ l.length) (hn : 0 < l.length) : OwnV w lo (.slice A k c) (l.take k) := by
  have hl := cells3_len (l.take k)
  rcases h.2 with ⟨hv, h0⟩ | ⟨g, cap, cur, hv, hb, hg, hcap, hm, hcs, htk⟩
  · omega
  · injection hv with e1 e2 e3
    subst e1 e2 e3
    have hlk : (l.take k).length = k := by rw [List.length_take]; omega
    refine ⟨hl, .inr ⟨g, c, cur, by rw [hlk], hb, hg, by omega, hm, hcs, ?_⟩⟩
    rw [hlk, ← cells3_take, ← htk, List.take_take, Nat.min_eq_left (by omega)]
theorem OwnV.set {w : World} {lo b o : Nat} {v u : Value} {l : List V} (h : OwnV w lo v l) (hb : b < lo) : OwnV (w.setCell ⟨b, o, none⟩ u) lo v l := ownsRow_setCell_below h hb u
theorem OwnV.allocs {w : World} {lo : Nat} {v : Value} {l : List V} (h : OwnV w lo v l) (o : Obj) : OwnV (w.alloc o) lo v l := World.ownsRow.alloc h o

/-! ### a run -/
def RunC (w : World) (b : Nat) (gv sv : Value) : Prop := w.heap[b]? = some (.cells #[gv, sv] 91 (0, 0))
section
variable {w : World} {b : Nat} {gv sv : Value}
theorem RunC.c0 (h : RunC w b gv sv) : w.cell? ⟨b, 0, none⟩ = some gv := by unfold RunC at h; simp [World.cell?, h]
theorem RunC.c1 (h : RunC w b gv sv) : w.cell? ⟨b, 1, none⟩ = some sv := by unfold RunC at h; simp [World.cell?, h]
theorem RunC.fz (h : RunC w b gv sv) (o : Nat) : w.frozen? ⟨b, o, none⟩ = false := by unfold RunC at h; simp [World.frozen?, h]
theorem RunC.lt (h : RunC w b gv sv) : b < w.heap.size := (Array.getElem?_eq_some_iff.1 h).1
theorem RunC.set1 (h : RunC w b gv sv) (x : Value) : RunC (w.setCell ⟨b, 1, none⟩ x) b gv x := by unfold RunC; rw [heap_setCell_same w b 1 _ _ _ h]; rfl
theorem RunC.keep (h : RunC w b gv sv) {w' : World} (hk : w'.heap[b]? = w.heap[b]?) : RunC w' b gv sv := hk.trans h
theorem RunC.alloc (h : RunC w b gv sv) (o : Obj) : RunC (w.alloc o) b gv sv := h.keep (Below.heap_alloc _ _ _ h.lt)
end
/-- A run at block b has these values, the last one first; its slice lies from lo on. -/
structure RunM (w : World) (b lo : Nat) (gv : Value) (st : List V) : Prop where
  ex : ∃ A c, RunC w b gv (.slice A st.length c) ∧ OwnV w lo (.slice A st.length c) st.reverse
  lo1 : b < lo
  lo2 : lo ≤ w.heap.size
theorem RunM.below {w w' : World} {b lo : Nat} {gv : Value} {st : List V} (h : RunM w b lo gv st) (hb : Below w.heap.size w w') : RunM w' b lo gv st := by
  obtain ⟨⟨A, c, h1, h2⟩, h5, h6⟩ := h
  exact ⟨⟨A, c, h1.keep (hb.block _ h1.lt), h2.keep (fun g _ hg => hb.block g hg) (Nat.le_refl _)⟩, h5, Nat.le_trans h6 hb.size⟩
theorem RunM.alloc {w : World} {b lo : Nat} {gv : Value} {st : List V} (h : RunM w b lo gv st) (o : Obj) : RunM (w.alloc o) b lo gv st := h.below ((Below.refl _ w).alloc (Nat.le_refl _) o)

theorem Foot.less {b lo lo' : Nat} {x y : World} (h : Foot b lo' x y) (hl : lo ≤ lo') : Foot b lo x y := ⟨h.os, h.tape, h.output, h.size, fun k h1 h2 => h.block k (by omega) h2⟩
theorem RunC.other {w : World} {b s o : Nat} {gv sv u : Value} (h : RunC w b gv sv) (hs : s ≠ b) : RunC (w.setCell ⟨s, o, none⟩ u) b gv sv := h.keep (Below.heap_setCell _ _ _ _ (fun e => hs e.symm))
/-- The last value is taken. -/
theorem RunM.less {w : World} {b lo : Nat} {gv : Value} {v : V} {st : List V} (h : RunM w b lo gv (v :: st)) :
    ∃ g c, RunC w b gv (.slice (some ⟨g, 0, none⟩) (st.length + 1) c) ∧ ValAt w g (st.length * 3) v ∧ lo ≤ g ∧ g < w.heap.size ∧ st.length + 1 ≤ c ∧
      ∀ w', RunC w' b gv (.slice (some ⟨g, 0, none⟩) st.length c) → Foot b w.heap.size w w' → RunM w' b lo gv st := by
  obtain ⟨⟨A, c, h1, h2⟩, h5, h6⟩ := h
  have hlen : (v :: st).reverse.length = st.length + 1 := by simp
  obtain ⟨g, rfl, hg1, hg2, _, hc, hv⟩ := h2.at_ st.length (by simp)
  have e : ((v :: st).reverse[st.length]'(by simp)) = v := by simp
  rw [e] at hv
  rw [hlen] at hc
  have hcut := h2.cut st.length (by simp) (by simp)
  have hrt : ((v :: st).reverse).take st.length = st.reverse := by rw [List.reverse_cons]; exact List.take_left' (by simp)
  rw [hrt] at hcut
  refine ⟨g, c, h1, hv, hg1, hg2, hc, fun w' hc' hf => ⟨⟨_, c, hc', hcut.keep (fun k hk hlt => hf.block k hlt (fun e => ?_)) (Nat.le_refl _)⟩, h5, Nat.le_trans h6 hf.size⟩⟩
  have := (h2.lt k (by simpa [Value.ownBlock] using hk)).1
  omega
theorem RunM.heap {w w' : World} {b lo : Nat} {gv : Value} {st : List V} (h : RunM w b lo gv st) (e : w'.heap = w.heap) : RunM w' b lo gv st := by
  obtain ⟨⟨A, c, h1, h2⟩, h5, h6⟩ := h
  exact ⟨⟨A, c, h1.keep (by rw [e]), h2.keep (fun g _ _ => by rw [e]) (Nat.le_refl _)⟩, h5, by rw [e]; exact h6⟩
/-- In any world that has sv in the run, and else what the world w has below, there is a run of these values. -/
def Runs (w : World) (b lo : Nat) (gv : Value) (st : List V) (sv : Value) : Prop := ∀ w'', RunC w'' b gv sv → Foot b w.heap.size w w'' → RunM w'' b lo gv st
theorem RunM.runs {w : World} {b lo : Nat} {gv : Value} {st : List V} (h : RunM w b lo gv st) : ∃ sv, RunC w b gv sv ∧ Runs w b lo gv st sv := by
  obtain ⟨⟨A, c, h1, h2⟩, h5, h6⟩ := h
  refine ⟨_, h1, fun w'' r f => ⟨⟨A, c, r, h2.keep (fun k hk hlt => f.block k hlt (fun e => ?_)) (Nat.le_refl _)⟩, h5, Nat.le_trans h6 f.size⟩⟩
  have := (h2.lt k hk).1
  omega
theorem RunC.same {w : World} {b : Nat} {gv sv sv' : Value} (h : RunC w b gv sv) (h' : RunC w b gv sv') : sv = sv' := by
  have e := h.c1.symm.trans h'.c1
  injection e
theorem set_back {w : World} {b : Nat} {gv sv s' : Value} (h : RunC w b gv s') : w.heap = ((w.setCell ⟨b, 1, none⟩ sv).setCell ⟨b, 1, none⟩ s').heap := by
  apply Array.ext_getElem?
  intro k
  by_cases hk : k = b
  · subst hk
    exact h.trans ((h.set1 sv).set1 s').symm
  · rw [Below.heap_setCell _ _ _ _ hk, Below.heap_setCell _ _ _ _ hk]
theorem Runs.less {w0 w : World} {b lo : Nat} {gv sv : Value} {v : V} {st : List V} (hR : Runs w0 b lo gv (v :: st) sv) (hc : RunC w b gv sv) (hf : Foot b w0.heap.size w0 w) :
    ∃ g c, sv = .slice (some ⟨g, 0, none⟩) (st.length + 1) c ∧ ValAt w g (st.length * 3) v ∧ lo ≤ g ∧ g < w.heap.size ∧ st.length + 1 ≤ c ∧ Runs w0 b lo gv st (.slice (some ⟨g, 0, none⟩) st.length c) := by
  obtain ⟨g, c, h1, hv, hg1, hg2, hcc, _⟩ := (hR w hc hf).less
  refine ⟨g, c, hc.same h1, hv, hg1, hg2, hcc, fun w'' r f => ?_⟩
  have r3 := r.set1 sv
  have m3 := hR _ r3 (f.setCell (p := ⟨b, 1, none⟩) (.inl rfl) sv)
  obtain ⟨g', c', h1', _, _, _, _, fin⟩ := m3.less
  have e := (hc.same h1).symm.trans (r3.same h1')
  injection e with e1 e2 e3
  injection e1 with e1
  injection e1 with e1 _ _
  subst e1 e3
  have m4 := fin _ (r3.set1 _) ((Foot.refl b _ _).setCell (p := ⟨b, 1, none⟩) (.inl rfl) _)
  exact m4.heap (set_back r)
/-- One value more. -/
theorem RunM.more {w w1 : World} {b lo : Nat} {gv : Value} {v : V} {st : List V} {A A1 : Option Addr} {c cap1 : Nat} (h1 : RunC w b gv (.slice A st.length c)) (h2 : OwnV w lo (.slice A st.length c) st.reverse) (h5 : b < lo) (h6 : lo ≤ w.heap.size)
    (hown : w1.ownsRow lo 27 3 (.slice A1 (st.length + 1) cap1) (st.length + 1) (cells3 st.reverse ++ cellV v)) (hg : w.grownBy w1 (Value.slice A st.length c).ownBlock) :
    RunM (w1.setCell ⟨b, 1, none⟩ (.slice A1 (st.length + 1) cap1)) b lo gv (v :: st) ∧ Foot b lo w (w1.setCell ⟨b, 1, none⟩ (.slice A1 (st.length + 1) cap1)) := by
  have hne : some b ≠ (Value.slice A st.length c).ownBlock := fun e => by
    have := (h2.lt b e.symm).1
    omega
  have s1 := h1.keep (hg.block b h1.lt hne)
  have ho : OwnV w1 lo (.slice A1 (st.length + 1) cap1) (v :: st).reverse := by
    unfold OwnV
    rw [List.reverse_cons, cells3_append, cells3_one, List.length_append, List.length_reverse]
    exact hown
  refine ⟨⟨⟨_, cap1, s1.set1 _, ho.set h5⟩, h5, ?_⟩, ((Foot.refl b lo w).grown hg h6 fun k hk => (h2.lt k hk).1).setCell (p := ⟨b, 1, none⟩) (.inl rfl) _⟩
  have := hg.size
  show lo ≤ (w1.heap.modify _ _).size
  rw [Array.size_modify]
  omega
end Go.Proofs.YtidomoibhjgkjaaGreatDoor

/-
  errors.Is of two numbers, and Is of package fault.
-/
namespace Go.Proofs.YtidomoibhjgkjaaGreatDoor
open Go.RowKit

theorem eqlE (a b : Int) (w : World) : (binOp .eql 29 (.iface 33 (.int .i64 a)) (.iface 33 (.int .i64 b))).run Tryz.prog w = .ok (.bool (a == b)) w := by kernel_rfl

set_option maxHeartbeats 1000000 in
theorem is_any (a b : Int) (w : World) : Calls Tryz.prog 88 #[.iface 33 (.int .i64 a), .iface 33 (.int .i64 b), .bool true] w fun e w' => e = .returned (.bool (a == b)) ∧ w = w' := by
  have f1 := eqlE
  have f2 := noIsE
  have f3 := noU1E
  have f4 := noU2E
  by_cases h : a = b
  · have hb : (a == b) = true := by simpa using h
    go_enter Tryz.func88, Tryz.ntmps88
    go_wp2
    refine wp_loop_rounds 1 ?_
    rw [rounds_succ]
    go_wp2
    go_ret
    exact ⟨by rw [hb]; rfl, rfl⟩
  · have hb : (a == b) = false := by simpa using h
    go_enter Tryz.func88, Tryz.ntmps88
    go_wp2
    refine wp_loop_rounds 1 ?_
    rw [rounds_succ]
    go_wp2
    go_ret
    exact ⟨by rw [hb]; rfl, rfl⟩

theorem Is_lib (a b : Int) (w : World) : Calls Tryz.prog 53 #[.iface 33 (.int .i64 a), .iface 33 (.int .i64 b)] w fun e w' => e = .returned (.bool (a == b)) ∧ w = w' := by
  have f1 := typeOfE
  have f2 := methodComparable
  have f3 := comparableE
  go_enter Tryz.func53, Tryz.ntmps53
  go_wp2_with (go_at_call 88; refine (is_any a b _).mono ?_; rintro e w' ⟨rfl, rfl⟩)
  go_ret
  exact ⟨rfl, rfl⟩

theorem is_of (v : Value) (n c : Int) (w : World) (H : Calls Tryz.prog 13 #[v] w fun r w' => r = .returned (.int .i64 n) ∧ Below w.heap.size w w') :
    Calls Tryz.prog 25 #[v, .int .i64 c] w fun r w' => r = .returned (.bool (n == c)) ∧ Below w.heap.size w w' := by
  have H' := Lib.hid H
  clear H
  go_enter Tryz.func25, Tryz.ntmps25
  go_wp2_with (first | (go_at_call 13; refine (H'.out).mono ?_; rintro e w' ⟨rfl, hb⟩) | (go_at_call 53; refine (Is_lib _ _ _).mono ?_; rintro e w' ⟨rfl, rfl⟩))
  go_ret
  exact ⟨rfl, hb⟩
theorem is_any' (ps : List ByteArray) (v : Value) (e : End) (hi : Nat) (c : Int) (w : World) (he : Err w hi e ps v) (hs : some? e ps) (hhi : hi ≤ w.heap.size) (hG : GlobW w) :
    Calls Tryz.prog 25 #[v, .int .i64 c] w fun r w' => r = .returned (.bool (codeOf e == c)) ∧ Below w.heap.size w w' := is_of v _ c w (code_any ps v e hi w he hs hhi hG)
theorem is_none (c : Int) (w : World) :
    Calls Tryz.prog 25 #[.nilIface, .int .i64 c] w fun r w' => r = .returned (.bool (0 == c)) ∧ Below w.heap.size w w' := is_of .nilIface 0 c w (code_none w)
end Go.Proofs.YtidomoibhjgkjaaGreatDoor

/-
  Slices of texts: rows of a call's own, what they read as, and appends of one to another.
-/
namespace Go.Proofs.YtidomoibhjgkjaaGreatDoor
open Go.RowKit

theorem addr_at (b o j : Nat) : (⟨b, o, none⟩ : Addr).add j = ⟨b, o + j, none⟩ := by
  unfold Addr.add
  split
  · next h => subst h; rfl
  · rfl

theorem ownF_below {w w' : World} {B B' e size n : Nat} {v : Value} {xs : List Value} (h : w.ownsRow B e size v n xs) (hk : ∀ g, B ≤ g → g < w.heap.size → w'.heap[g]? = w.heap[g]?) (hB : B' ≤ B) : w'.ownsRow B' e size v n xs := by
  obtain ⟨h1, h2⟩ := h
  refine ⟨h1, ?_⟩
  rcases h2 with h2 | ⟨g, cap, cur, hv, hg, hh, r⟩
  · exact .inl h2
  · exact .inr ⟨g, cap, cur, hv, by omega, by rw [hk g hg (Array.getElem?_eq_some_iff.1 hh).1]; exact hh, r⟩

theorem own_row {w : World} {base e size n : Nat} {v : Value} {xs : List Value} (h : w.ownsRow base e size v n xs) : ∀ k, v.ownBlock = some k → base ≤ k := by
  intro k hk
  rcases h.2 with ⟨rfl, _⟩ | ⟨g, cap, cur, rfl, hb, _⟩
  · cases hk
  · obtain rfl : g = k := by simpa [Value.ownBlock] using hk
    exact hb

/-- An append onto a row of the call's own, as one step of a region that draws its order. -/
theorem step_append_own {P : Program} {ops : Array Oper} {o : Oper} {a : Act} {w : World} {K : Act → World → Prop} {Q : Exit → Act → World → Prop} {E : Prop} (hgd : o.guard = none) (s x : Operand) (t : TypeId)
    (ho : o.op = .call { callee := .builtin .append, args := #[s, x], argTypes := #[t, t] })
    (base : Nat) (e : TypeId) (i : TypeInfo) (z : Value) (size bytes : Nat) (ht : P.underlying t = some (.slice e)) (hi : P.info? e = some i) (hz : i.zero = some z)
    (hsize : i.size = size) (hby : i.bytes = bytes) (hzs : z.cells.size = size) (hsz : 0 < size)
    (v : Value) (n : Nat) (xs : List Value) (hs : a.eval s = v) (hown : w.ownsRow base e size v n xs)
    (ad : Addr) (m c : Nat) (news : List Value) (hx : a.eval x = .slice (some ad) m c) (hl : news.length = m * size) (hnews : ∀ j u, news[j]? = some u → w.cell? (ad.add j) = some u) (h1 : ∀ u ∈ news, u.oneCell' = true)
    (h63 : n + m ≤ maxLen) (hbytes : (n + m) * bytes ≤ 140737488355328) (hbase : base ≤ w.heap.size)
    (h : ∀ v' w', w'.ownsRow base e size v' (n + m) (xs ++ news) → w.grownBy w' v.ownBlock → K (a.put o.dst v') w') : if Region.wanted o (yielded ops a.tmps) = true then Oper.wp P o a w K Q else E := by
  rw [if_pos (by simp [Region.wanted, hgd])]
  exact wp_append_own w s x t ho base e i z size bytes ht hi hz hsize hby hzs hsz v n xs hs hown ad m c news hx hl hnews h1 h63 hbytes hbase fun v' w' a b _ => h v' w' a b

theorem infoStr : ∃ i, Tryz.prog.info? 9 = some i ∧ i.zero = some (.string ⟨#[]⟩) ∧ i.size = 1 ∧ i.bytes = 16 := by
  have h : (Tryz.prog.info? 9).map (fun i => (i.zero, i.size, i.bytes)) = some (some (.string ⟨#[]⟩), 1, 16) := by kernel_rfl
  obtain ⟨i, hi, hz⟩ := Option.map_eq_some_iff.1 h
  simp only [Prod.mk.injEq] at hz
  exact ⟨i, hi, hz.1, hz.2.1, hz.2.2⟩

/-- A slice at A reads as the texts l, in a block from lo on and below hi; of an empty one nothing is asked. -/
def RowS (w : World) (lo hi : Nat) (A : Option Addr) (l : List ByteArray) : Prop :=
  0 < l.length → ∃ b o, A = some ⟨b, o, none⟩ ∧ lo ≤ b ∧ b < hi ∧ ∀ j (h : j < l.length), w.cell? ⟨b, o + j, none⟩ = some (.string (l[j]'h))

theorem RowS.below {w w' : World} {lo hi B : Nat} {A : Option Addr} {l : List ByteArray} (h : RowS w lo hi A l) (hb : Below B w w') (hB : hi ≤ B) : RowS w' lo hi A l := fun hn => by
  obtain ⟨b, o, e, h1, h2, hc⟩ := h hn
  exact ⟨b, o, e, h1, h2, fun j hj => (hb.cell (p := ⟨b, o + j, none⟩) (Nat.lt_of_lt_of_le h2 hB)).trans (hc j hj)⟩
theorem RowS.wide {w : World} {lo hi lo' hi' : Nat} {A : Option Addr} {l : List ByteArray} (h : RowS w lo hi A l) (h1 : lo' ≤ lo) (h2 : hi ≤ hi') : RowS w lo' hi' A l := fun hn => by
  obtain ⟨b, o, e, h3, h4, hc⟩ := h hn
  exact ⟨b, o, e, by omega, by omega, hc⟩
theorem RowS.at_ {w : World} {lo hi k : Nat} {A : Option Addr} {l : List ByteArray} (h : RowS w lo hi A l) (hk : k < l.length) : ∃ b o, A = some ⟨b, o, none⟩ ∧ w.cell? ⟨b, o + k, none⟩ = some (.string (l[k]'hk)) := by
  obtain ⟨b, o, e, _, _, hc⟩ := h (by omega)
  exact ⟨b, o, e, hc k hk⟩

/-- A row of the call's own reads as its texts. -/
theorem RowS.own {w : World} {base n : Nat} {v : Value} {l : List ByteArray} (h : w.ownsRow base 9 1 v n (l.map Value.string)) :
    ∃ A c, v = .slice A n c ∧ n = l.length ∧ n ≤ c ∧ (A = none → c = 0) ∧ RowS w base w.heap.size A l := by
  have hl := h.1
  rw [List.length_map, Nat.mul_one] at hl
  rcases h.2 with ⟨hv, hn⟩ | ⟨g, cap, cur, hv, hb, hg, hc, hcm, _⟩
  · subst hn
    exact ⟨none, 0, hv, hl.symm, Nat.le_refl _, fun _ => rfl, fun hp => by omega⟩
  · refine ⟨_, cap, hv, hl.symm, hc, fun h => (by cases h), fun _ => ⟨g, 0, rfl, hb, (Array.getElem?_eq_some_iff.1 hg).1, fun j hj => ?_⟩⟩
    have := h.cells (g := g) (by rw [hv]; rfl) j (.string (l[j]'hj)) (by simp [hj])
    rwa [addr_at] at this

/-- A new block of one text. -/
theorem RowS.one (w : World) (e : TypeId) (x : ByteArray) : RowS (w.alloc (.cells #[.string x] e)) w.heap.size (w.heap.size + 1) (some ⟨w.heap.size, 0, none⟩) [x] := fun _ => by
  refine ⟨w.heap.size, 0, rfl, Nat.le_refl _, by omega, fun j hj => ?_⟩
  have h0 : j = 0 := by simpa using hj
  subst h0
  simp

theorem own_one (w : World) (x : ByteArray) : (w.alloc (.cells #[.string x] 9)).ownsRow w.heap.size 9 1 (.slice (some ⟨w.heap.size, 0, none⟩) 1 1) 1 ([x].map Value.string) :=
  ⟨rfl, .inr ⟨w.heap.size, 1, #[.string x], rfl, Nat.le_refl _, heap_alloc_new w _, Nat.le_refl _, by decide, rfl, rfl⟩⟩

/-- An append of texts that are read, onto a row of the call's own: the source is nil, empty, or not. -/
theorem append_strs {P : Program} (w : World) {ops : Array Oper} {rest : List Oper} {o : Oper} {a : Act} {Q : Exit → Act → World → Prop} (hgd : o.guard = none) (s x : Operand) (t : TypeId)
    (ho : o.op = .call { callee := .builtin .append, args := #[s, x], argTypes := #[t, t] })
    (base : Nat) (e : TypeId) (i : TypeInfo) (z : Value) (ht : P.underlying t = some (.slice e)) (hi : P.info? e = some i) (hz : i.zero = some z)
    (hsize : i.size = 1) (hby : i.bytes = 16) (hzs : z.cells.size = 1)
    (v : Value) (n : Nat) (l : List ByteArray) (hs : a.eval s = v) (hown : w.ownsRow base e 1 v n (l.map Value.string))
    (lo up : Nat) (A : Option Addr) (m c : Nat) (m' : List ByteArray) (hx : a.eval x = .slice A m c) (hm : m = m'.length) (hnil : A = none → c = 0) (hr : RowS w lo up A m')
    (hbig : l.length + m'.length ≤ 2000000) (hbase : base ≤ w.heap.size)
    (h : ∀ v' w', w'.ownsRow base e 1 v' (n + m) ((l ++ m').map Value.string) → w.grownBy w' v.ownBlock → wpList P ops Q rest (a.put o.dst v') w') : wpList P ops Q (o :: rest) a w := by
  subst hm
  have hn : n = l.length := by have := hown.1; rw [List.length_map] at this; omega
  rcases A with _ | ad
  · have h0 : m' = [] := by
      rcases Nat.eq_zero_or_pos m'.length with h0 | h0
      · exact List.eq_nil_of_length_eq_zero h0
      · obtain ⟨b, o, hA, _⟩ := hr h0
        cases hA
    subst h0
    obtain rfl := hnil rfl
    refine wpList_append_own_none hgd s x t ho base e i 1 ht hi v n (l.map Value.string) hs hown hx ?_
    exact h v w (by simpa using hown) ⟨rfl, rfl, rfl, Nat.le_refl _, fun _ _ _ => rfl⟩
  · refine wpList_append_own w hgd s x t ho base e i z 1 16 ht hi hz hsize hby hzs (by omega) v n (l.map Value.string) hs hown ad m'.length c (m'.map Value.string) hx (by simp) ?_ ?_ (by unfold maxLen; omega) (by omega) hbase ?_
    · intro j u hu
      simp only [List.getElem?_map, Option.map_eq_some_iff] at hu
      obtain ⟨y, hy, rfl⟩ := hu
      obtain ⟨hj, rfl⟩ := List.getElem?_eq_some_iff.1 hy
      obtain ⟨b, o, hA, _, _, hc⟩ := hr (by omega)
      injection hA with hA
      subst hA
      rw [addr_at]
      exact hc j hj
    · intro u hu
      simp only [List.mem_map] at hu
      obtain ⟨y, _, rfl⟩ := hu
      rfl
    · intro v' w' h1 h2 _
      exact h v' w' (by rw [List.map_append]; exact h1) h2
end Go.Proofs.YtidomoibhjgkjaaGreatDoor

/-
  Slices of texts beside errors: see Strs.
-/
