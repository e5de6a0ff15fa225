import Derived.Test.YtidomoibhjgkjaaDoorZC10
import Derived.Test.YtidomoibhjgkjaaDoorZC02
import Derived.WalkKit
import Derived.RowKitTokens
import Derived.Lib.Hide
import Derived.Laws.AppendOwnNone
import Derived.Deep.RegionLaw
import Derived.Lib.SmallJoins
import Derived.Test.YtidomoibhjgkjaaDoorZC09
import Derived.Test.YtidomoibhjgkjaaDoorZC15
/-
  errors.Is of two numbers, and Is of package fault.
-/
namespace Go.Proofs.YtidomoibhjgkjaaDoor
open Go.RowKit

theorem eqlE (a b : Int) (w : World) : (binOp .eql 37 (.iface 25 (.int .i64 a)) (.iface 25 (.int .i64 b))).run Tryd.prog w = .ok (.bool (a == b)) w := by kernel_rfl

set_option maxHeartbeats 1000000 in
theorem is_any (a b : Int) (w : World) : Calls Tryd.prog 67 #[.iface 25 (.int .i64 a), .iface 25 (.int .i64 b), .bool true] w fun e w' => e = .returned (.bool (a == b)) ∧ w = w' := by
  have f1 := eqlE
  have f2 := noIsE
  have f3 := noU1E
  have f4 := noU2E
  by_cases h : a = b
  · have hb : (a == b) = true := by simpa using h
    go_enter Tryd.func67, Tryd.ntmps67
    go_wp2
    refine wp_loop_rounds 1 ?_
    rw [rounds_succ]
    go_wp2
    go_ret
    exact ⟨by rw [hb]; rfl, rfl⟩
  · have hb : (a == b) = false := by simpa using h
    go_enter Tryd.func67, Tryd.ntmps67
    go_wp2
    refine wp_loop_rounds 1 ?_
    rw [rounds_succ]
    go_wp2
    go_ret
    exact ⟨by rw [hb]; rfl, rfl⟩

theorem Is_lib (a b : Int) (w : World) : Calls Tryd.prog 51 #[.iface 25 (.int .i64 a), .iface 25 (.int .i64 b)] w fun e w' => e = .returned (.bool (a == b)) ∧ w = w' := by
  have f1 := typeOfE
  have f2 := methodComparable
  have f3 := comparableE
  go_enter Tryd.func51, Tryd.ntmps51
  go_wp2_with (go_at_call 67; refine (is_any a b _).mono ?_; rintro e w' ⟨rfl, rfl⟩)
  go_ret
  exact ⟨rfl, rfl⟩

end Go.Proofs.YtidomoibhjgkjaaDoor

/-
  Slices of texts: rows of a call's own, what they read as, and appends of one to another.
-/
namespace Go.Proofs.YtidomoibhjgkjaaDoor
open Go.RowKit

theorem addr_at (b o j : Nat) : (⟨b, o, none⟩ : Addr).add j = ⟨b, o + j, none⟩ := by
  unfold Addr.add
  split
  · next h => subst h; rfl
  · rfl

theorem ownF_below {w w' : World} {B B' e size n : Nat} {v : Value} {xs : List Value} (h : w.ownsRow B e size v n xs) (hk : ∀ g, B ≤ g → g < w.heap.size → w'.heap[g]? = w.heap[g]?) (hB : B' ≤ B) : w'.ownsRow B' e size v n xs := by
  obtain ⟨h1, h2⟩ := h
  refine ⟨h1, ?_⟩
  rcases h2 with h2 | ⟨g, cap, cur, hv, hg, hh, r⟩
  · exact .inl h2
  · exact .inr ⟨g, cap, cur, hv, by omega, by rw [hk g hg (Array.getElem?_eq_some_iff.1 hh).1]; exact hh, r⟩

theorem own_row {w : World} {base e size n : Nat} {v : Value} {xs : List Value} (h : w.ownsRow base e size v n xs) : ∀ k, v.ownBlock = some k → base ≤ k := by
  intro k hk
  rcases h.2 with ⟨rfl, _⟩ | ⟨g, cap, cur, rfl, hb, _⟩
  · cases hk
  · obtain rfl : g = k := by simpa [Value.ownBlock] using hk
    exact hb

/-- An append onto a row of the call's own, as one step of a region that draws its order. -/
theorem step_append_own {P : Program} {ops : Array Oper} {o : Oper} {a : Act} {w : World} {K : Act → World → Prop} {Q : Exit → Act → World → Prop} {E : Prop} (hgd : o.guard = none) (s x : Operand) (t : TypeId)
    (ho : o.op = .call { callee := .builtin .append, args := #[s, x], argTypes := #[t, t] })
    (base : Nat) (e : TypeId) (i : TypeInfo) (z : Value) (size bytes : Nat) (ht : P.underlying t = some (.slice e)) (hi : P.info? e = some i) (hz : i.zero = some z)
    (hsize : i.size = size) (hby : i.bytes = bytes) (hzs : z.cells.size = size) (hsz : 0 < size)
    (v : Value) (n : Nat) (xs : List Value) (hs : a.eval s = v) (hown : w.ownsRow base e size v n xs)
    (ad : Addr) (m c : Nat) (news : List Value) (hx : a.eval x = .slice (some ad) m c) (hl : news.length = m * size) (hnews : ∀ j u, news[j]? = some u → w.cell? (ad.add j) = some u) (h1 : ∀ u ∈ news, u.oneCell' = true)
    (h63 : n + m ≤ maxLen) (hbytes : (n + m) * bytes ≤ 140737488355328) (hbase : base ≤ w.heap.size)
    (h : ∀ v' w', w'.ownsRow base e size v' (n + m) (xs ++ news) → w.grownBy w' v.ownBlock → K (a.put o.dst v') w') : if Region.wanted o (yielded ops a.tmps) = true then Oper.wp P o a w K Q else E := by
  rw [if_pos (by simp [Region.wanted, hgd])]
  exact wp_append_own w s x t ho base e i z size bytes ht hi hz hsize hby hzs hsz v n xs hs hown ad m c news hx hl hnews h1 h63 hbytes hbase fun v' w' a b _ => h v' w' a b

theorem infoStr : ∃ i, Tryd.prog.info? 9 = some i ∧ i.zero = some (.string ⟨#[]⟩) ∧ i.size = 1 ∧ i.bytes = 16 := by
  have h : (Tryd.prog.info? 9).map (fun i => (i.zero, i.size, i.bytes)) = some (some (.string ⟨#[]⟩), 1, 16) := by kernel_rfl
  obtain ⟨i, hi, hz⟩ := Option.map_eq_some_iff.1 h
  simp only [Prod.mk.injEq] at hz
  exact ⟨i, hi, hz.1, hz.2.1, hz.2.2⟩

/-- A slice at A reads as the texts l, in a block from lo on and below hi; of an empty one nothing is asked. -/
def RowS (w : World) (lo hi : Nat) (A : Option Addr) (l : List ByteArray) : Prop :=
  0 < l.length → ∃ b o, A = some ⟨b, o, none⟩ ∧ lo ≤ b ∧ b < hi ∧ ∀ j (h : j < l.length), w.cell? ⟨b, o + j, none⟩ = some (.string (l[j]'h))

theorem RowS.below {w w' : World} {lo hi B : Nat} {A : Option Addr} {l : List ByteArray} (h : RowS w lo hi A l) (hb : Below B w w') (hB : hi ≤ B) : RowS w' lo hi A l := fun hn => by
  obtain ⟨b, o, e, h1, h2, hc⟩ := h hn
  exact ⟨b, o, e, h1, h2, fun j hj => (hb.cell (p := ⟨b, o + j, none⟩) (Nat.lt_of_lt_of_le h2 hB)).trans (hc j hj)⟩
theorem RowS.wide {w : World} {lo hi lo' hi' : Nat} {A : Option Addr} {l : List ByteArray} (h : RowS w lo hi A l) (h1 : lo' ≤ lo) (h2 : hi ≤ hi') : RowS w lo' hi' A l := fun hn => by
  obtain ⟨b, o, e, h3, h4, hc⟩ := h hn
  exact ⟨b, o, e, by omega, by omega, hc⟩
theorem RowS.at_ {w : World} {lo hi k : Nat} {A : Option Addr} {l : List ByteArray} (h : RowS w lo hi A l) (hk : k < l.length) : ∃ b o, A = some ⟨b, o, none⟩ ∧ w.cell? ⟨b, o + k, none⟩ = some (.string (l[k]'hk)) := by
  obtain ⟨b, o, e, _, _, hc⟩ := h (by omega)
  exact ⟨b, o, e, hc k hk⟩

/-- A row of the call's own reads as its texts. -/
theorem RowS.own {w : World} {base n : Nat} {v : Value} {l : List ByteArray} (h : w.ownsRow base 9 1 v n (l.map Value.string)) :
    ∃ A c, v = .slice A n c ∧ n = l.length ∧ n ≤ c ∧ (A = none → c = 0) ∧ RowS w base w.heap.size A l := by
  have hl := h.1
  rw [List.length_map, Nat.mul_one] at hl
  rcases h.2 with ⟨hv, hn⟩ | ⟨g, cap, cur, hv, hb, hg, hc, hcm, _⟩
  · subst hn
    exact ⟨none, 0, hv, hl.symm, Nat.le_refl _, fun _ => rfl, fun hp => by omega⟩
  · refine ⟨_, cap, hv, hl.symm, hc, fun h => (by cases h), fun _ => ⟨g, 0, rfl, hb, (Array.getElem?_eq_some_iff.1 hg).1, fun j hj => ?_⟩⟩
    have := h.cells (g := g) (by rw [hv]; rfl) j (.string (l[j]'hj)) (by simp [hj])
    rwa [addr_at] at this

/-- A new block of one text. -/
theorem RowS.one (w : World) (e : TypeId) (x : ByteArray) : RowS (w.alloc (.cells #[.string x] e)) w.heap.size (w.heap.size + 1) (some ⟨w.heap.size, 0, none⟩) [x] := fun _ => by
  refine ⟨w.heap.size, 0, rfl, Nat.le_refl _, by omega, fun j hj => ?_⟩
  have h0 : j = 0 := by simpa using hj
  subst h0
  simp

theorem own_one (w : World) (x : ByteArray) : (w.alloc (.cells #[.string x] 9)).ownsRow w.heap.size 9 1 (.slice (some ⟨w.heap.size, 0, none⟩) 1 1) 1 ([x].map Value.string) :=
  ⟨rfl, .inr ⟨w.heap.size, 1, #[.string x], rfl, Nat.le_refl _, heap_alloc_new w _, Nat.le_refl _, by decide, rfl, rfl⟩⟩

/-- An append of texts that are read, onto a row of the call's own: the source is nil, empty, or not. -/
theorem append_strs {P : Program} (w : World) {ops : Array Oper} {rest : List Oper} {o : Oper} {a : Act} {Q : Exit → Act → World → Prop} (hgd : o.guard = none) (s x : Operand) (t : TypeId)
    (ho : o.op = .call { callee := .builtin .append, args := #[s, x], argTypes := #[t, t] })
    (base : Nat) (e : TypeId) (i : TypeInfo) (z : Value) (ht : P.underlying t = some (.slice e)) (hi : P.info? e = some i) (hz : i.zero = some z)
    (hsize : i.size = 1) (hby : i.bytes = 16) (hzs : z.cells.size = 1)
    (v : Value) (n : Nat) (l : List ByteArray) (hs : a.eval s = v) (hown : w.ownsRow base e 1 v n (l.map Value.string))
    (lo up : Nat) (A : Option Addr) (m c : Nat) (m' : List ByteArray) (hx : a.eval x = .slice A m c) (hm : m = m'.length) (hnil : A = none → c = 0) (hr : RowS w lo up A m')
    (hbig : l.length + m'.length ≤ 2000000) (hbase : base ≤ w.heap.size)
    (h : ∀ v' w', w'.ownsRow base e 1 v' (n + m) ((l ++ m').map Value.string) → w.grownBy w' v.ownBlock → wpList P ops Q rest (a.put o.dst v') w') : wpList P ops Q (o :: rest) a w := by
  subst hm
  have hn : n = l.length := by have := hown.1; rw [List.length_map] at this; omega
  rcases A with _ | ad
  · have h0 : m' = [] := by
      rcases Nat.eq_zero_or_pos m'.length with h0 | h0
      · exact List.eq_nil_of_length_eq_zero h0
      · obtain ⟨b, o, hA, _⟩ := hr h0
        cases hA
    subst h0
    obtain rfl := hnil rfl
    refine wpList_append_own_none hgd s x t ho base e i 1 ht hi v n (l.map Value.string) hs hown hx ?_
    exact h v w (by simpa using hown) ⟨rfl, rfl, rfl, Nat.le_refl _, fun _ _ _ => rfl⟩
  · refine wpList_append_own w hgd s x t ho base e i z 1 16 ht hi hz hsize hby hzs (by omega) v n (l.map Value.string) hs hown ad m'.length c (m'.map Value.string) hx (by simp) ?_ ?_ (by unfold maxLen; omega) (by omega) hbase ?_
    · intro j u hu
      simp only [List.getElem?_map, Option.map_eq_some_iff] at hu
      obtain ⟨y, hy, rfl⟩ := hu
      obtain ⟨hj, rfl⟩ := List.getElem?_eq_some_iff.1 hy
      obtain ⟨b, o, hA, _, _, hc⟩ := hr (by omega)
      injection hA with hA
      subst hA
      rw [addr_at]
      exact hc j hj
    · intro u hu
      simp only [List.mem_map] at hu
      obtain ⟨y, _, rfl⟩ := hu
      rfl
    · intro v' w' h1 h2 _
      exact h v' w' (by rw [List.map_append]; exact h1) h2
end Go.Proofs.YtidomoibhjgkjaaDoor

/-
  Slices of texts beside errors: see Strs.
-/

/-
  gather and Trail of package fault, of any error that is made of places around an end: the places, in order, as a new slice.
-/
namespace Go.Proofs.YtidomoibhjgkjaaDoor
open Go.RowKit

theorem neqPP (a : Addr) (w : World) : (binOp .neq 37 (.iface 124 (.pointer (some a))) (.iface 124 (.pointer (some a)))).run Tryd.prog w = .ok (.bool false) w := by
  have h1 : (Tryd.prog.info? 124).map (·.comparable) = some true := by kernel_rfl
  have h2 : (Tryd.prog.info? 126).map (fun _ => ()) = some () := by kernel_rfl
  obtain ⟨i, hi, hc⟩ := Option.map_eq_some_iff.1 h1
  obtain ⟨j, hj, _⟩ := Option.map_eq_some_iff.1 h2
  simp only [binOp]
  simp [Op.equal, Op.maxDepth, run_equalIn_iface_ptr_same w 9998 a Tryd.underlying37 Tryd.underlying124 hi hc hj]

theorem endVal_cases (e : End) : endVal e = .nilIface ∨ ∃ n, endVal e = .iface 25 (.int .i64 n) := by
  rcases e with _ | n | x
  · exact .inl rfl
  · exact .inr ⟨n, rfl⟩
  · exact x.elim

/-- What holds at the head of gather's loop, when k places are still to come: those that were passed are gathered. -/
def Gath (ps : List ByteArray) (e : End) (hi pp : Nat) (w : World) (k : Nat) (u : Value) (wr : World) : Prop :=
  ∃ done rest sv nv, done ++ rest = ps ∧ rest.length = k ∧ Err wr hi e rest u ∧ wr.cell? ⟨pp, 0, none⟩ = some sv ∧ wr.frozen? ⟨pp, 0, none⟩ = false ∧ wr.ownsRow (w.heap.size + 1) 9 1 sv done.length (done.map Value.string)
    ∧ wr.cell? ⟨w.heap.size, 0, none⟩ = some (.pointer nv) ∧ wr.frozen? ⟨w.heap.size, 0, none⟩ = false ∧ Below pp w wr ∧ w.heap.size + 1 ≤ wr.heap.size ∧ GlobW wr

theorem gather_step {ps done rest : List ByteArray} {q : ByteArray} {e : End} {hi pp g cap : Nat} {w w2 w3 : World} {sv u : Value} {nv : Option Addr} (hd : done ++ q :: rest = ps) (hr : Err w2 hi e rest u)
    (h1 : w2.cell? ⟨pp, 0, none⟩ = some sv) (h2 : w2.frozen? ⟨pp, 0, none⟩ = false) (h4 : w2.cell? ⟨w.heap.size, 0, none⟩ = some (.pointer nv)) (h5 : w2.frozen? ⟨w.heap.size, 0, none⟩ = false)
    (h6 : Below pp w w2) (h7 : w.heap.size + 1 ≤ w2.heap.size) (h8 : GlobW w2) (hhi : hi ≤ pp) (hp : pp < w.heap.size) (hGp : 1 ≤ pp)
    (h9 : w3.ownsRow (w.heap.size + 1) 9 1 (.slice (some ⟨g, 0, none⟩) (done.length + 1) cap) (done.length + 1) (done.map Value.string ++ [Value.string q]) ∧ Below (w.heap.size + 1) w2 w3) :
    Gath ps e hi pp w rest.length u (w3.setCell ⟨pp, 0, none⟩ (.slice (some ⟨g, 0, none⟩) (done.length + 1) cap)) := by
  obtain ⟨ho, hb⟩ := h9
  have hb' : Below pp w2 (w3.setCell ⟨pp, 0, none⟩ (.slice (some ⟨g, 0, none⟩) (done.length + 1) cap)) := (hb.mono (B' := pp) (by omega)).setCell (Nat.le_refl _) _
  have c := bcell hb (by omega) h1
  refine ⟨done ++ [q], rest, _, nv, by simp [← hd], rfl, hr.below hb' hhi, World.cell?_setCell_same _ _ _ c, ?_, ?_, ?_, ?_, h6.trans hb', ?_, h8.below hb' hGp⟩
  · rw [World.frozen?_setCell]; exact bfrozen hb (by omega) h2
  · have h := ownsRow_setCell_below ho (a := ⟨pp, 0, none⟩) (by show pp < w.heap.size + 1; omega) (.slice (some ⟨g, 0, none⟩) (done.length + 1) cap)
    simpa using h
  · rw [World.cell?_setCell_other _ _ _ _ (by intro h; injection h; omega)]; exact bcell hb (by omega) h4
  · rw [World.frozen?_setCell]; exact bfrozen hb (by omega) h5
  · have := hb.size; simp [World.setCell]; omega

/-- A call has made a new slice of these texts, and has changed nothing that was there. -/
def RetS (l : List ByteArray) (w : World) (r : Ending) (w' : World) : Prop :=
  ∃ sv, r = .returned sv ∧ w'.ownsRow w.heap.size 9 1 sv l.length (l.map Value.string) ∧ Below w.heap.size w w'

theorem Err.nil_or {w : World} {hi : Nat} {e : End} {ps : List ByteArray} {v : Value} (h : Err w hi e ps v) : v = .nilIface ∨ ∃ t x, v = .iface t x := by
  rcases ps with _ | ⟨p, ps⟩
  · rcases e with _ | n | x
    · exact .inl h
    · exact .inr ⟨_, _, h⟩
    · exact x.elim
  · obtain ⟨b, u, rfl, _⟩ := h
    exact .inr ⟨_, _, rfl⟩

end Go.Proofs.YtidomoibhjgkjaaDoor

/-
  Of and Wrap of package fault.
-/
namespace Go.Proofs.YtidomoibhjgkjaaDoor
open Go.RowKit

theorem of_zero (w : World) : Calls Tryd.prog 48 #[.int .i64 0] w fun r w' => r = .returned .nilIface ∧ w = w' := by
  go_enter Tryd.func48, Tryd.ntmps48
  go_wp2
  go_ret
  exact ⟨rfl, rfl⟩
theorem of_num (n : Int) (w : World) (hn : n ≠ 0) : Calls Tryd.prog 48 #[.int .i64 n] w fun r w' => r = .returned (.iface 25 (.int .i64 n)) ∧ w = w' := by
  have h : (n == 0) = false := by simpa using hn
  clear hn
  go_enter Tryd.func48, Tryd.ntmps48
  go_wp2
  go_ret
  exact ⟨rfl, rfl⟩
theorem wrap_none (p : ByteArray) (w : World) : Calls Tryd.prog 79 #[.string p, .nilIface] w fun r w' => r = .returned .nilIface ∧ w = w' := by
  go_enter Tryd.func79, Tryd.ntmps79
  go_wp2
  go_ret
  exact ⟨rfl, rfl⟩
theorem wrap_raw (p : ByteArray) (T : TypeId) (y : Value) (w : World) : Calls Tryd.prog 79 #[.string p, .iface T y] w
    fun r w' => r = .returned (.iface 124 (.pointer (some ⟨w.heap.size, 0, none⟩))) ∧ w.alloc (.cells #[.string p, .iface T y] 126) = w' := by
  go_enter Tryd.func79, Tryd.ntmps79
  go_wp2
  go_ret
  exact ⟨rfl, rfl⟩

def RetE (e : End) (ps : List ByteArray) (w : World) (r : Ending) (w' : World) : Prop := ∃ v, r = .returned v ∧ Err w' w'.heap.size e ps v ∧ Below w.heap.size w w'

theorem wrap_any (p : ByteArray) (ps : List ByteArray) (v : Value) (e : End) (hi : Nat) (w : World) (he : Err w hi e ps v) (hs : some? e ps) (hhi : hi ≤ w.heap.size) :
    Calls Tryd.prog 79 #[.string p, v] w (RetE e (p :: ps) w) := by
  obtain ⟨T, y, rfl⟩ := he.iface hs
  refine (wrap_raw p T y w).mono ?_
  rintro r w' ⟨rfl, rfl⟩
  have hb : Below w.heap.size w (w.alloc (.cells #[.string p, .iface T y] 126)) := (Below.refl _ w).alloc (Nat.le_refl _) _
  exact ⟨_, rfl, ⟨w.heap.size, _, rfl, by simp, heap_alloc_new w _, (he.below hb hhi).wide (by simp; omega)⟩, hb⟩

end Go.Proofs.YtidomoibhjgkjaaDoor

/-
  An error, or none: its number, its places, its text, what must be read.
-/
namespace Go.Proofs.YtidomoibhjgkjaaDoor
open Go.RowKit

/-- u is this error, or there is none. -/
def ErrO (w : World) (o : Option Er) (u : Value) : Prop := match o with
  | none => u = .nilIface
  | some (e, ps) => Err w w.heap.size e ps u ∧ some? e ps
def codeO : Option Er → Int
  | none => 0
  | some (e, _) => codeOf e
def placesO : Option Er → List ByteArray
  | none => []
  | some (_, ps) => ps
theorem ErrO.below {w w' : World} {o : Option Er} {u : Value} (h : ErrO w o u) (hb : Below w.heap.size w w') : ErrO w' o u := by
  rcases o with _ | ⟨e, ps⟩
  · exact h
  · exact ⟨(h.1.below hb (Nat.le_refl _)).wide hb.size, h.2⟩
theorem ErrO.nil {w : World} {u : Value} (h : ErrO w none u) : u = .nilIface := h
theorem ErrO.iface {w : World} {x : Er} {u : Value} (h : ErrO w (some x) u) : ∃ T y, u = .iface T y := h.1.iface h.2
theorem codeO_er (c : Int) (p : List ByteArray) : codeO (erOf c p) = c := by
  unfold erOf
  split
  · next h => exact h.symm
  · rfl
theorem codeO_any (o : Option Er) (u : Value) (w : World) (h : ErrO w o u) (hG : GlobW w) : Calls Tryd.prog 13 #[u] w fun r w' => r = .returned (.int .i64 (codeO o)) ∧ Below w.heap.size w w' := by
  rcases o with _ | ⟨e, ps⟩
  · obtain rfl : u = .nilIface := h
    exact code_none w
  · exact code_any ps u e _ w h.1 h.2 (Nat.le_refl _) hG
end Go.Proofs.YtidomoibhjgkjaaDoor

/-
  Package eval: what a run does with a term: the last value is taken.
-/
namespace Go.Proofs.YtidomoibhjgkjaaDoor
open Go.RowKit

/-- What take gives: the last value; and in any world that has what it left, a run of the others. -/
def RetTk (b lo : Nat) (gv : Value) (v : V) (st : List V) (w0 w : World) (r : Ending) (w' : World) : Prop :=
  ∃ sv, r = .returned v.val ∧ RunC w' b gv sv ∧ Foot b w.heap.size w w' ∧ Runs w0 b lo gv st sv

set_option maxRecDepth 100000 in
set_option maxHeartbeats 4000000 in
theorem gTake_any (b lo : Nat) (gv : Value) (v : V) (st : List V) (w0 w : World) (sv : Value) (hR : Runs w0 b lo gv (v :: st) sv) (hrc : RunC w b gv sv) (hrf : Foot b w0.heap.size w0 w) (hs : st.length ≤ 100000) :
    Calls Tryd.prog 52 #[.pointer (some ⟨b, 0, none⟩)] w (RetTk b lo gv v st w0 w) := by
  obtain ⟨g, c, rfl, ⟨v0, v1, v2⟩, hg1, hg2, hc, fin⟩ := hR.less hrc hrf
  have h1 := hrc
  have hM := hR w hrc hrf
  have hbl := h1.lt
  have hlo := hM.lo2
  clear hR hrc hrf
  have hb0 := hM.lo1
  have HFin := Lib.hid fin
  obtain ⟨k, n, s⟩ := v
  simp only at v0 v1 v2
  -- the world with both boxes
  have A1 := h1.alloc (.cells #[.int .i64 0, .int .i64 0, .string ⟨#[]⟩] 23)
  have A2 := A1.alloc (.cells #[.int .i64 k, .int .i64 n, .string s] 23)
  have hB1 := box_below w #[.int .i64 0, .int .i64 0, .string ⟨#[]⟩] 23
  have e0 := (hB1.cell (p := ⟨g, st.length * 3, none⟩) hg2).trans v0
  have e1 := (hB1.cell (p := ⟨g, st.length * 3 + 1, none⟩) hg2).trans v1
  have e2 := (hB1.cell (p := ⟨g, st.length * 3 + 2, none⟩) hg2).trans v2
  have x1 := A1.c1
  have x2 := A2.c1
  have fz2 := A2.fz 1
  have q0 : ((st.length + 1 : Nat) : Int) - 1 = (st.length : Int) := by omega
  clear fin
  go_enter Tryd.func52, Tryd.ntmps52
  go_upto_region 4 with fail
  -- the world behind it
  obtain ⟨w3, hw3⟩ : ∃ y, ((w.setCell ⟨b, 1, none⟩ (.slice (some ⟨g, 0, none⟩) st.length c)).alloc (.cells #[.int .i64 0, .int .i64 0, .string ⟨#[]⟩] 23)).alloc (.cells #[.int .i64 k, .int .i64 n, .string s] 23) = y := ⟨_, rfl⟩
  have hss : (w.setCell ⟨b, 1, none⟩ (.slice (some ⟨g, 0, none⟩) st.length c)).heap.size = w.heap.size := by simp [World.setCell]
  have F3 : Foot b w.heap.size w w3 := by
    rw [← hw3]
    exact (((Foot.refl b w.heap.size w).setCell (p := ⟨b, 1, none⟩) (.inl rfl) _).alloc (by rw [hss]; exact Nat.le_refl _) _).alloc (by simp [hss]) _
  have R3 : RunC w3 b gv (.slice (some ⟨g, 0, none⟩) st.length c) := by
    rw [← hw3]
    exact ((h1.set1 _).alloc _).alloc _
  have X3 : Boxed w3 w.heap.size ⟨0, 0, ⟨#[]⟩⟩ := by
    have h := Boxed.new (w.setCell ⟨b, 1, none⟩ (.slice (some ⟨g, 0, none⟩) st.length c)) 0 0 ⟨#[]⟩
    rw [hss] at h
    rw [← hw3]
    exact h.below (box_below _ _ _)
  have Y3 : Boxed w3 (w.heap.size + 1) ⟨k, n, s⟩ := by
    have h := Boxed.new ((w.setCell ⟨b, 1, none⟩ (.slice (some ⟨g, 0, none⟩) st.length c)).alloc (.cells #[.int .i64 0, .int .i64 0, .string ⟨#[]⟩] 23)) k n s
    rw [← hw3]
    simpa [hss] using h
  rw [hw3]
  obtain ⟨r0, r1, r2⟩ := X3.cells
  obtain ⟨y0, y1, y2⟩ := Y3.cells
  simp only at y0 y1 y2
  have z0 := X3.frozen 0
  have z1 := X3.frozen 1
  have z2 := X3.frozen 2
  obtain ⟨t0, t1, t2⟩ := (X3.set3' k n s).cells
  have hne : w.heap.size ≠ b := by omega
  have RF := Lib.hid (((R3.other (o := 0) (u := .int .i64 k) hne).other (o := 1) (u := .int .i64 n) hne).other (o := 2) (u := .string s) hne)
  have FF := Lib.hid (((F3.setCell (p := ⟨w.heap.size, 0, none⟩) (.inr (Nat.le_refl _)) (.int .i64 k)).setCell (p := ⟨w.heap.size, 1, none⟩) (.inr (Nat.le_refl _)) (.int .i64 n)).setCell (p := ⟨w.heap.size, 2, none⟩) (.inr (Nat.le_refl _)) (.string s))
  clear hw3 hss F3 R3 X3 Y3 A1 A2 hB1 h1 hM v0 v1 v2 e0 e1 e2 x1 x2 fz2 q0
  go_wp2
  refine bodyPost_ret (v := .agg #[.int .i64 k, .int .i64 n, .string s]) (by simp [results, Tryd.results52, go_sem, t0, t1, t2]) rfl ⟨_, rfl, RF.out, FF.out, HFin.out⟩
end Go.Proofs.YtidomoibhjgkjaaDoor
