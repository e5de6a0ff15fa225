import Derived.Test.YtooegjdppeiccaaZC01
import Derived.OwnWalk
import Derived.ArgAppend
import Derived.Deep.RegionLawGrows
import Derived.Test.YtooegjdppeiccaaZC08
import Derived.Maps.AppendAt
import Derived.Test.YtooegjdppeiccaaZC16
import Derived.Lib.SlBytesConst
/-
  Rows of elements of k cells, more: a row that is made with room, an append within the room, an append onto a row of another's that has no room.
-/
namespace Go.Proofs.Ytooegjdppeiccaa
open Go.RowKit

section
variable {α : Type} {k : Nat} {cs : α → List Value}
/-- 'make([]T, 0, n)'. -/
theorem make_row {P : Program} (w : World) {ops : Array Oper} {rest : List Oper} {o : Oper} {a : Act} {Q : Exit → Act → World → Prop} (hgd : o.guard = none) (l c : Operand) (t e : TypeId) (bytes : Nat)
    (hI : InfoG P e k bytes) (ht : P.underlying t = some (.slice e)) (ho : o.op = .makeSlice t l c)
    (n : Nat) (kl kc : IntKind) (C : Int) (hl : a.eval l = .int kl 0) (hc : a.eval c = .int kc C) (hC : C = (n : Int)) (hn : n ≤ maxLen) (hb : bytes * n ≤ 281474976710656)
    (h : ∀ w', OwnG e k cs w' w.heap.size (.slice (some ⟨w.heap.size, 0, none⟩) 0 n) ([] : List α) → w.grownBy w' none → wpList P ops Q rest (a.put o.dst (.slice (some ⟨w.heap.size, 0, none⟩) 0 n)) w') : wpList P ops Q (o :: rest) a w := by
  obtain ⟨i, z, hi0, hz0, hzs, hz2, hz3⟩ := hI
  refine wpList_make_own w hgd l c t ho w.heap.size e i z k ht hi0 hz0 hz2 kl kc C n hl hc hC (by rw [hz3]; exact hb) hn (Nat.le_refl _) ?_
  intro w' h1 h2
  exact h w' h1 h2

/-- An append within the room. -/
theorem append_fits_row {P : Program} (w : World) {ops : Array Oper} {rest : List Oper} {o : Oper} {a : Act} {Q : Exit → Act → World → Prop} (hgd : o.guard = none) (s x : Operand) (t e : TypeId) (bytes : Nat)
    (hF : Fixed k cs) (hI : InfoG P e k bytes) (ht : P.underlying t = some (.slice e)) (ho : o.op = .call { callee := .builtin .append, args := #[s, x], argTypes := #[t, t] })
    (base g n cap : Nat) (l : List α) (hs : a.eval s = .slice (some ⟨g, 0, none⟩) n cap) (hn : n = l.length) (hown : OwnG e k cs w base (.slice (some ⟨g, 0, none⟩) n cap) l)
    (lo up : Nat) (ad : Addr) (m c : Nat) (m' : List α) (hx : a.eval x = .slice (some ad) m c) (hm : m = m'.length) (hr : RowG cs w lo up (some ad) m')
    (hroom : n + m ≤ cap)
    (h : ∀ w', OwnG e k cs w' base (.slice (some ⟨g, 0, none⟩) (n + m) cap) (l ++ m') → w.grownBy w' (some g) → wpList P ops Q rest (a.put o.dst (.slice (some ⟨g, 0, none⟩) (n + m) cap)) w') : wpList P ops Q (o :: rest) a w := by
  subst hm hn
  obtain ⟨i, z, hi0, hz0, hzs, hz2, hz3⟩ := hI
  refine wpList_append_fits w hgd s x t ho base e i k ht hi0 hz2 g l.length cap (flatG cs l) hs hown ad m'.length c (flatG cs m') hx (hF.flat_len m') ?_ (hF.flat_one m') hroom ?_
  · intro j u hu
    have h0 : 0 < m'.length := by
      have h1 := (List.getElem?_eq_some_iff.1 hu).1
      rw [hF.flat_len] at h1
      exact Nat.pos_of_ne_zero fun h => by rw [h] at h1; omega
    obtain ⟨b, o', hA, _, _, hc⟩ := hr h0
    injection hA with hA
    subst hA
    rw [addr_add]
    exact hc j u hu
  · intro w' h1 h2
    refine h w' ?_ h2
    unfold OwnG
    rw [List.length_append, flatG_append]
    exact h1

/-- An append onto a row of another's, which has no room behind it: a row of the call's own. -/
theorem append_full_row {P : Program} (w : World) {ops : Array Oper} {rest : List Oper} {o : Oper} {a : Act} {Q : Exit → Act → World → Prop} (hgd : o.guard = none) (s x : Operand) (t e : TypeId) (bytes : Nat)
    (hF : Fixed k cs) (hI : InfoG P e k bytes) (ht : P.underlying t = some (.slice e)) (ho : o.op = .call { callee := .builtin .append, args := #[s, x], argTypes := #[t, t] })
    (ao : Option Addr) (n cap lo up : Nat) (l : List α) (hs : a.eval s = .slice ao n cap) (hn : n = l.length) (hnone : ao = none → cap = 0) (hrow : RowG cs w lo up ao l)
    (lo' up' : Nat) (ad : Addr) (m c : Nat) (m' : List α) (hx : a.eval x = .slice (some ad) m c) (hm : m = m'.length) (hr : RowG cs w lo' up' (some ad) m')
    (hfull : cap < n + m) (h63 : l.length + m'.length ≤ maxLen) (hby : (l.length + m'.length) * bytes ≤ 140737488355328)
    (h : ∀ v' w', OwnG e k cs w' w.heap.size v' (l ++ m') → w.grownBy w' none → wpList P ops Q rest (a.put o.dst v') w') : wpList P ops Q (o :: rest) a w := by
  subst hm hn
  obtain ⟨i, z, hi0, hz0, hzs, hz2, hz3⟩ := hI
  refine wpList_append_grows w hgd s x t ho e i z k bytes ht hi0 hz0 hz2 hz3 hzs hF.pos ao l.length cap (flatG cs l) hs ?_ (hF.flat_len l) ?_ ad m'.length c (flatG cs m') hx (hF.flat_len m') ?_ (hF.flat_one m') hfull h63 hby ?_
  · intro e
    refine ⟨?_, hnone e⟩
    rcases Nat.eq_zero_or_pos l.length with h0 | h0
    · exact h0
    · obtain ⟨b, o, hA, _⟩ := hrow h0
      rw [hA] at e
      cases e
  · intro b hb j u hu
    have h0 : 0 < l.length := by
      have h1 := (List.getElem?_eq_some_iff.1 hu).1
      rw [hF.flat_len] at h1
      exact Nat.pos_of_ne_zero fun h => by rw [h] at h1; omega
    obtain ⟨b', o', hA, _, _, hc⟩ := hrow h0
    rw [hb] at hA
    injection hA with hA
    subst hA
    rw [addr_add]
    exact hc j u hu
  · intro j u hu
    have h0 : 0 < m'.length := by
      have h1 := (List.getElem?_eq_some_iff.1 hu).1
      rw [hF.flat_len] at h1
      exact Nat.pos_of_ne_zero fun h => by rw [h] at h1; omega
    obtain ⟨b, o', hA, _, _, hc⟩ := hr h0
    injection hA with hA
    subst hA
    rw [addr_add]
    exact hc j u hu
  · intro v' w' h1 h2
    refine h v' w' ?_ h2
    unfold OwnG
    rw [List.length_append, flatG_append]
    exact h1

/-- The same, in a region that draws. -/
theorem step_append_full_row {P : Program} {ops : Array Oper} {o : Oper} {a : Act} {w : World} {K : Act → World → Prop} {Q : Exit → Act → World → Prop} {E : Prop} (hgd : o.guard = none) (s x : Operand) (t e : TypeId) (bytes : Nat)
    (hF : Fixed k cs) (hI : InfoG P e k bytes) (ht : P.underlying t = some (.slice e)) (ho : o.op = .call { callee := .builtin .append, args := #[s, x], argTypes := #[t, t] })
    (ao : Option Addr) (n cap lo up : Nat) (l : List α) (hs : a.eval s = .slice ao n cap) (hn : n = l.length) (hnone : ao = none → cap = 0) (hrow : RowG cs w lo up ao l)
    (lo' up' : Nat) (ad : Addr) (m c : Nat) (m' : List α) (hx : a.eval x = .slice (some ad) m c) (hm : m = m'.length) (hr : RowG cs w lo' up' (some ad) m')
    (hfull : cap < n + m) (h63 : l.length + m'.length ≤ maxLen) (hby : (l.length + m'.length) * bytes ≤ 140737488355328)
    (h : ∀ v' w', OwnG e k cs w' w.heap.size v' (l ++ m') → w.grownBy w' none → K (a.put o.dst v') w') : if Region.wanted o (yielded ops a.tmps) = true then Oper.wp P o a w K Q else E := by
  subst hm hn
  obtain ⟨i, z, hi0, hz0, hzs, hz2, hz3⟩ := hI
  refine step_append_grows hgd s x t ho e i z k bytes ht hi0 hz0 hz2 hz3 hzs hF.pos ao l.length cap (flatG cs l) hs ?_ (hF.flat_len l) ?_ ad m'.length c (flatG cs m') hx (hF.flat_len m') ?_ (hF.flat_one m') hfull h63 hby ?_
  · intro e
    refine ⟨?_, hnone e⟩
    rcases Nat.eq_zero_or_pos l.length with h0 | h0
    · exact h0
    · obtain ⟨b, o, hA, _⟩ := hrow h0
      rw [hA] at e
      cases e
  · intro b hb j u hu
    have h0 : 0 < l.length := by
      have h1 := (List.getElem?_eq_some_iff.1 hu).1
      rw [hF.flat_len] at h1
      exact Nat.pos_of_ne_zero fun h => by rw [h] at h1; omega
    obtain ⟨b', o', hA, _, _, hc⟩ := hrow h0
    rw [hb] at hA
    injection hA with hA
    subst hA
    rw [addr_add]
    exact hc j u hu
  · intro j u hu
    have h0 : 0 < m'.length := by
      have h1 := (List.getElem?_eq_some_iff.1 hu).1
      rw [hF.flat_len] at h1
      exact Nat.pos_of_ne_zero fun h => by rw [h] at h1; omega
    obtain ⟨b, o', hA, _, _, hc⟩ := hr h0
    injection hA with hA
    subst hA
    rw [addr_add]
    exact hc j u hu
  · intro v' w' h1 h2
    refine h v' w' ?_ h2
    unfold OwnG
    rw [List.length_append, flatG_append]
    exact h1
end
end Go.Proofs.Ytooegjdppeiccaa

/-
  An append, and where the row lies then; bytes that lie in blocks of a set. No Go function is named here.
-/
namespace Go.Proofs.Ytooegjdppeiccaa
open Go.RowKit

section
variable {α : Type} {k : Nat} {cs : α → List Value}
/-- append_row, and where the row lies then. -/
theorem append_row_at {P : Program} (w : World) {ops : Array Oper} {rest : List Oper} {o : Oper} {a : Act} {Q : Exit → Act → World → Prop} (hgd : o.guard = none) (s x : Operand) (t e : TypeId) (bytes : Nat)
    (hF : Fixed k cs) (hI : InfoG P e k bytes) (ht : P.underlying t = some (.slice e)) (ho : o.op = .call { callee := .builtin .append, args := #[s, x], argTypes := #[t, t] })
    (base : Nat) (v : Value) (l : List α) (hs : a.eval s = v) (hown : OwnG e k cs w base v l)
    (lo up : Nat) (ad : Addr) (m c : Nat) (m' : List α) (hx : a.eval x = .slice (some ad) m c) (hm : m = m'.length) (hr : RowG cs w lo up (some ad) m')
    (h63 : l.length + m'.length ≤ maxLen) (hby : (l.length + m'.length) * bytes ≤ 140737488355328) (hbase : base ≤ w.heap.size)
    (h : ∀ v' w', OwnG e k cs w' base v' (l ++ m') → w.grownBy w' v.ownBlock → (v'.ownBlock = v.ownBlock ∨ v'.ownBlock = some w.heap.size) → wpList P ops Q rest (a.put o.dst v') w') : wpList P ops Q (o :: rest) a w := by
  subst hm
  obtain ⟨i, z, hi0, hz0, hzs, hz2, hz3⟩ := hI
  refine wpList_append_own_at (P := P) (w := w) hgd s x t ho base e i z k bytes ht hi0 hz0 hz2 hz3 hzs hF.pos v l.length (flatG cs l) hs hown ad m'.length c (flatG cs m') hx (hF.flat_len m') ?_ (hF.flat_one m') h63 hby hbase ?_
  · intro j u hu
    have h0 : 0 < m'.length := by
      have h1 := (List.getElem?_eq_some_iff.1 hu).1
      rw [hF.flat_len] at h1
      exact Nat.pos_of_ne_zero fun h => by rw [h] at h1; omega
    obtain ⟨b, o', hA, _, _, hc⟩ := hr h0
    injection hA with hA
    subst hA
    rw [addr_add]
    exact hc j u hu
  · intro v' w' h1 h2 _ h4
    refine h v' w' ?_ h2 h4
    unfold OwnG
    rw [List.length_append, flatG_append]
    exact h1
/-- The same as an equation. -/
theorem run_append_at {P : Program} (w : World) (t ty e : TypeId) (bytes : Nat) (hF : Fixed k cs) (hI : InfoG P e k bytes) (ht : P.underlying t = some (.slice e))
    (base : Nat) (v : Value) (l : List α) (hown : OwnG e k cs w base v l) (lo up : Nat) (ad : Addr) (c : Nat) (m' : List α) (hr : RowG cs w lo up (some ad) m')
    (h63 : l.length + m'.length ≤ maxLen) (hby : (l.length + m'.length) * bytes ≤ 140737488355328) (hbase : base ≤ w.heap.size) :
    ∃ v' w', (Builtin.append_ #[t, t] ty #[v, .slice (some ad) m'.length c]).run P w = .ok v' w' ∧ OwnG e k cs w' base v' (l ++ m') ∧ w.grownBy w' v.ownBlock ∧ (v'.ownBlock = v.ownBlock ∨ v'.ownBlock = some w.heap.size) := by
  obtain ⟨i, z, hi0, hz0, hzs, hz2, hz3⟩ := hI
  obtain ⟨v', w', h1, h2, h3, _, h5⟩ := run_append_own_at (P := P) w base t ty e i z k bytes ht hi0 hz0 hz2 hz3 hzs hF.pos v l.length (flatG cs l) hown ad m'.length c (flatG cs m') (hF.flat_len m') (by
    intro j u hu
    have h0 : 0 < m'.length := by
      have h1 := (List.getElem?_eq_some_iff.1 hu).1
      rw [hF.flat_len] at h1
      exact Nat.pos_of_ne_zero fun h => by rw [h] at h1; omega
    obtain ⟨b, o', hA, _, _, hc⟩ := hr h0
    injection hA with hA
    subst hA
    rw [addr_add]
    exact hc j u hu) (hF.flat_one m') h63 hby hbase
  refine ⟨v', w', h1, ?_, h3, h5⟩
  unfold OwnG
  rw [List.length_append, flatG_append]
  exact h2
end
/-- An append of which the outcome is known. -/
theorem wpList_append_eq {P : Program} {w w' : World} {ops : Array Oper} {rest : List Oper} {o : Oper} {a : Act} {Q : Exit → Act → World → Prop} (hgd : o.guard = none) (s x : Operand) (t : TypeId)
    (ho : o.op = .call { callee := .builtin .append, args := #[s, x], argTypes := #[t, t] }) (va vx v' : Value) (hs : a.eval s = va) (hx : a.eval x = vx) (hr : (Builtin.append_ #[t, t] o.type #[va, vx]).run P w = .ok v' w')
    (h : wpList P ops Q rest (a.put o.dst v') w') : wpList P ops Q (o :: rest) a w := by
  refine wpList_plain hgd fun K hK => ?_
  unfold Oper.wp execOp
  simp only [ho, resolve, invoke, builtin, Sem.run_bind, Sem.run_pure, Result.andThen_ok, List.map_toArray, List.map_cons, List.map_nil, hs, hx, hr]
  exact hK _ _ h
/-- Bytes that lie in a block of D. -/
def RdD (w : World) (D : Nat → Prop) (A : Option Addr) (l : List UInt8) : Prop :=
  0 < l.length → ∃ b o, A = some ⟨b, o, none⟩ ∧ D b ∧ ∀ j (hj : j < l.length), w.cell? ⟨b, o + j, none⟩ = some (.int .u8 ((l[j]'hj).toNat : Int))
def SlD (w : World) (D : Nat → Prop) (A : Option Addr) (c : Nat) (l : List UInt8) : Prop := l.length ≤ c ∧ c ≤ maxLen ∧ (A = none → c = 0) ∧ RdD w D A l
section
variable {w w' : World} {D D' : Nat → Prop} {A : Option Addr} {c lo hi : Nat} {l : List UInt8}
theorem SlD.step (h : SlD w D A c l) (hk : ∀ b, D b → w'.heap[b]? = w.heap[b]? ∧ D' b) : SlD w' D' A c l :=
  ⟨h.1, h.2.1, h.2.2.1, fun hn => by
    obtain ⟨b, o, e, h1, h2⟩ := h.2.2.2 hn
    exact ⟨b, o, e, (hk b h1).2, fun j hj => (World.cell?_of_block (a := ⟨b, o + j, none⟩) (hk b h1).1).trans (h2 j hj)⟩⟩
theorem SlI.slD (h : SlI w lo hi A c l) (hd : ∀ b, lo ≤ b → b < hi → D b) : SlD w D A c l :=
  ⟨h.1, h.2.1, h.2.2.1, fun hn => by
    obtain ⟨b, o, e, h1, h2, h3⟩ := h.2.2.2 hn
    exact ⟨b, o, e, hd b h1 h2, h3⟩⟩
theorem SlD.slI (h : SlD w D A c l) (hd : ∀ b, D b → lo ≤ b ∧ b < hi) : SlI w lo hi A c l :=
  ⟨h.1, h.2.1, h.2.2.1, fun hn => by
    obtain ⟨b, o, e, h1, h2⟩ := h.2.2.2 hn
    exact ⟨b, o, e, (hd b h1).1, (hd b h1).2, h2⟩⟩
end
end Go.Proofs.Ytooegjdppeiccaa

/-
  What package chain has to answer, as contracts; and the chapter's example.
-/
namespace Go.Proofs.Ytooegjdppeiccaa
open Go.RowKit

/-- Chains of a length that the contracts speak of. -/
def okLen (l : List Ver) : Prop := l.length ≤ 4294967296 ∧ sizeH l ≤ 4294967296
end Go.Proofs.Ytooegjdppeiccaa
