import Derived.Test.YtdpbllacfljmoaaGreatRows
import Derived.WalkKit
import Derived.Lib.Hide
import Derived.Laws.IdiomStrings
import Derived.Laws.AppendOwnNone
import Derived.Deep.Draws
import Derived.Laws.AppendOwn
import Derived.Deep.AppendLies
import Derived.Deep.Slices
import Derived.Deep.Fields
set_option maxRecDepth 100000
set_option maxHeartbeats 16000000
set_option linter.unusedVariables false
namespace Go.Proofs.YtdpbllacfljmoaaGreat
open Go.RowKit
theorem qh {p : Prop} (h : p) : Hid p := h
def bvs (l : List UInt8) : List Value := l.map fun b => Value.int .u8 (b.toNat : Int)
theorem q4Z (l : List UInt8) : (bvs l).length = l.length := by simp [bvs]
theorem qbp (a b : List UInt8) : bvs (a ++ b) = bvs a ++ bvs b := by simp [bvs]
theorem qfU (l : List UInt8) : ∀ u ∈ bvs l, u.oneCell' = true := by
 intro u hu
 simp only [bvs, List.mem_map] at hu
 obtain ⟨b, _, rfl⟩ := hu
 rfl
theorem qgC (l : List UInt8) (j : Nat) (u : Value) (h : (bvs l)[j]? = some u) : ∃ hj : j < l.length, u = Value.int .u8 ((l[j]'hj).toNat : Int) := by
 simp only [bvs, List.getElem?_map, Option.map_eq_some_iff] at h
 obtain ⟨b, hb, rfl⟩ := h
 obtain ⟨hj, rfl⟩ := List.getElem?_eq_some_iff.1 hb
 exact ⟨hj, rfl⟩
theorem q0Q (b o j : Nat) : (⟨b, o, none⟩ : Addr).add j = ⟨b, o + j, none⟩ := by
 unfold Addr.add
 split
 ·next h => subst h; rfl
 ·rfl
def Rd (w : World) (lo hi : Nat) (A : Option Addr) (l : List UInt8) : Prop :=
 0 < l.length → ∃ b o, A = some ⟨b, o, none⟩ ∧ lo ≤ b ∧ b < hi ∧ ∀ j (h : j < l.length), w.cell? ⟨b, o + j, none⟩ = some (.int .u8 ((l[j]'h).toNat : Int))
section
variable {w w' : World} {lo hi lo' hi' : Nat} {A : Option Addr} {l : List UInt8}
theorem Rd.nil_ : Rd w lo hi A [] := fun h => absurd h (by simp)
theorem Rd.keep (h : Rd w lo hi A l) (hk : ∀ p : Addr, lo ≤ p.block → p.block < hi → w'.cell? p = w.cell? p) : Rd w' lo hi A l := fun hn => by
 obtain ⟨b, o, e, h1, h2, hc⟩ := h hn
 exact ⟨b, o, e, h1, h2, fun j hj => (hk _ h1 h2).trans (hc j hj)⟩
theorem Rd.wide (h : Rd w lo hi A l) (h1 : lo' ≤ lo) (h2 : hi ≤ hi') : Rd w lo' hi' A l := fun hn => by
 obtain ⟨b, o, e, h3, h4, hc⟩ := h hn
 exact ⟨b, o, e, by omega, by omega, hc⟩
theorem Rd.below {B : Nat} (h : Rd w lo hi A l) (hb : Below B w w') (hB : hi ≤ B) : Rd w' lo hi A l := h.keep fun _ _ h2 => hb.cell (by omega)
end
def Ret (l : List UInt8) (w : World) (e : Ending) (w' : World) : Prop :=
 ∃ A c, e = .returned (.slice A l.length c) ∧ l.length ≤ c ∧ c ≤ maxLen ∧ (A = none → c = 0) ∧ Rd w' w.heap.size w'.heap.size A l ∧ Below w.heap.size w w'
def qfN (w : World) (P : Option Addr) (parts : List (List UInt8)) : Prop :=
 ∀ j (h : j < parts.length), ∃ b o A cc, P = some ⟨b, o, none⟩ ∧ b < w.heap.size ∧ w.cell? ⟨b, o + j, none⟩ = some (.slice A (parts[j]'h).length cc) ∧ (A = none → cc = 0) ∧ Rd w 0 w.heap.size A (parts[j]'h)
theorem Rd.string (w : World) (e : TypeId) (s : ByteArray) (cap : Nat) (fz : Nat × Nat) : Rd (w.alloc (.cells (bytesRow s cap) e fz)) w.heap.size (w.heap.size + 1) (some ⟨w.heap.size, 0, none⟩) s.data.toList := fun _ => by
 refine ⟨w.heap.size, 0, rfl, Nat.le_refl _, by omega, fun j hj => ?_⟩
 rw [cell_of_row _ w.heap.size _ _ e fz (heap_alloc_new w _)]
 have hj' : j < s.data.size := by simpa using hj
 have hj2 : j < s.size := hj'
 simp [bytesRow, Array.getElem?_append, hj2]
theorem qfN.drew {w : World} {P : Option Addr} {parts : List (List UInt8)} (h : qfN w P parts) : qfN w.drew P parts := h
theorem Rd.own {w : World} {base n c : Nat} {e : TypeId} {A : Option Addr} {l : List UInt8} (h : w.ownsRow base e 1 (.slice A n c) n (bvs l)) : n = l.length ∧ l.length ≤ c ∧ c ≤ maxLen ∧ (A = none → c = 0) ∧ Rd w base w.heap.size A l := by
 have hl := h.1
 rw [q4Z, Nat.mul_one] at hl
 rcases h.2 with ⟨hv, hn⟩ | ⟨g, cap, cur, hv, hb, hg, hc, hcm, _⟩
 ·have : l.length = 0 := by omega
  have hc0 : c = 0 := by injection hv
  exact ⟨by omega, by omega, by rw [hc0]; exact Nat.zero_le _, fun _ => hc0, fun hp => by omega⟩
 ·injection hv with h1 h2 h3
  subst h1 h3
  refine ⟨by omega, by omega, hcm, fun h => (by cases h), fun _ => ⟨g, 0, rfl, hb, (Array.getElem?_eq_some_iff.1 hg).1, fun j hj => ?_⟩⟩
  have := h.cells (g := g) rfl j (.int .u8 ((l[j]'hj).toNat : Int)) (by simp [bvs, hj])
  rwa [q0Q] at this
theorem qdT {w : World} {base n : Nat} {e : TypeId} {v : Value} {xs : List Value} (h : w.ownsRow base e 1 v n xs) : ∃ A c, v = .slice A n c := by
 rcases h.2 with ⟨hv, hn⟩ | ⟨g, cap, cur, hv, _⟩
 ·exact ⟨none, 0, by rw [hv, hn]⟩
 ·exact ⟨_, _, hv⟩
theorem Ret.own {w w' : World} {e : TypeId} {v : Value} {n : Nat} {l : List UInt8} (h : w'.ownsRow w.heap.size e 1 v n (bvs l)) (hb : Below w.heap.size w w') : Ret l w (.returned v) w' := by
 obtain ⟨A, c, rfl⟩ := qdT h
 obtain ⟨rfl, hc, hm, hz, hr⟩ := Rd.own h
 exact ⟨A, c, rfl, hc, hm, hz, hr, hb⟩
theorem qcD {P : Program} {w : World} {lo hi c n : Nat} {A : Option Addr} {m : List UInt8} (src dst e : TypeId) (hs : P.underlying src = some (.slice e)) (he : P.underlying e = some (.int .u8)) (hd : P.underlying dst = some .string)
  (hn : n = m.length) (hr : Rd w lo hi A m) : (convert src dst (.slice A n c)).run P w = .ok (.string ⟨m.toArray⟩) w := by
 subst hn
 rcases A with _ | a
 ·have h0 : m = [] := by
   rcases Nat.eq_zero_or_pos m.length with h0 | h0
   ·exact List.eq_nil_of_length_eq_zero h0
   ·obtain ⟨b, o, hA, _⟩ := hr h0
    cases hA
  subst h0
  rw [run_convert_bytes_string w src dst e none _ c hs he hd]
  simp [Conv.bytesToString]
  rfl
 ·refine run_convert_bytes_back w src dst e a c m hs he hd fun j hj => ?_
  obtain ⟨b, o, hA, _, _, hc⟩ := hr (by omega)
  injection hA with hA
  subst hA
  rw [q0Q]
  exact hc j hj
theorem qcp {P : Program} (w : World) {ops : Array Oper} {rest : List Oper} {o : Oper} {a : Act} {Q : Exit → Act → World → Prop} (hgd : o.guard = none) (s x : Operand) (t : TypeId)
  (ho : o.op = .call { callee := .builtin .append, args := #[s, x], argTypes := #[t, t] })
  (base : Nat) (e : TypeId) (i : TypeInfo) (z : Value) (ht : P.underlying t = some (.slice e)) (hi : P.info? e = some i) (hz : i.zero = some z)
  (hsize : i.size = 1) (hby : i.bytes = 1) (hzs : z.cells.size = 1)
  (v : Value) (n : Nat) (l : List UInt8) (hs : a.eval s = v) (hown : w.ownsRow base e 1 v n (bvs l))
  (lo up : Nat) (A : Option Addr) (m c : Nat) (m' : List UInt8) (hx : a.eval x = .slice A m c) (hm : m = m'.length) (hnil : A = none → c = 0) (hr : Rd w lo up A m')
  (hbytes : l.length + m'.length ≤ 140737488355328) (hbase : base ≤ w.heap.size)
  (h : ∀ v' w', w'.ownsRow base e 1 v' (n + m) (bvs (l ++ m')) → w.grownBy w' v.ownBlock → wpList P ops Q rest (a.put o.dst v') w') : wpList P ops Q (o :: rest) a w := by
 subst hm
 have hn : n = l.length := by have := hown.1; rw [q4Z] at this; omega
 rcases A with _ | ad
 ·have h0 : m' = [] := by
   rcases Nat.eq_zero_or_pos m'.length with h0 | h0
   ·exact List.eq_nil_of_length_eq_zero h0
   ·obtain ⟨b, o, hA, _⟩ := hr h0
    cases hA
  subst h0
  obtain rfl := hnil rfl
  refine wpList_append_own_none hgd s x t ho base e i 1 ht hi v n (bvs l) hs hown hx ?_
  exact h v w (by simpa using hown) ⟨rfl, rfl, rfl, Nat.le_refl _, fun _ _ _ => rfl⟩
 ·refine wpList_append_own w hgd s x t ho base e i z 1 1 ht hi hz hsize hby hzs (by omega) v n (bvs l) hs hown ad m'.length c (bvs m') hx (by rw [q4Z]; omega) ?_ (qfU m') (by unfold maxLen; omega) (by omega) hbase ?_
  ·intro j u hu
   obtain ⟨hj, rfl⟩ := qgC m' j u hu
   obtain ⟨b, o, hA, _, _, hc⟩ := hr (by omega)
   injection hA with hA
   subst hA
   rw [q0Q]
   exact hc j hj
  ·intro v' w' h1 h2 _
   exact h v' w' (by rw [qbp]; exact h1) h2
open Go.RowKit
structure q12 {α : Type} (k : Nat) (cs : α → List Value) : Prop where
 pos : 0 < k
 len : ∀ x, (cs x).length = k
 one : ∀ x, ∀ v ∈ cs x, v.oneCell' = true
section
variable {α : Type} {k : Nat} {cs : α → List Value}
def q0g (cs : α → List Value) (l : List α) : List Value := l.flatMap cs
theorem q0k (x : α) (l : List α) : q0g cs (x :: l) = cs x ++ q0g cs l := by simp [q0g]
theorem q6f (x : α) : q0g cs [x] = cs x := by simp [q0g]
theorem q0Z (a b : List α) : q0g cs (a ++ b) = q0g cs a ++ q0g cs b := by simp [q0g]
theorem q12.flat_len (h : q12 k cs) (l : List α) : (q0g cs l).length = l.length * k := by
 induction l with
 | nil => simp [q0g]
 | cons x l ih => rw [q0k, List.length_append, ih, List.length_cons, h.len, Nat.add_mul]; omega
theorem q12.flat_one (h : q12 k cs) (l : List α) : ∀ v ∈ q0g cs l, v.oneCell' = true := by
 intro v hv
 simp only [q0g, List.mem_flatMap] at hv
 obtain ⟨x, _, hx⟩ := hv
 exact h.one x v hx
theorem q12.flat_at (h : q12 k cs) : ∀ (l : List α) (j : Nat) (hj : j < l.length) (i : Nat), i < k → (q0g cs l)[j * k + i]? = (cs (l[j]'hj))[i]?
 | [], _, hj, _, _ => absurd hj (by simp)
 | x :: l, 0, _, i, hi => by
  rw [q0k, Nat.zero_mul, Nat.zero_add, List.getElem?_append_left (by rw [h.len]; exact hi)]
  rfl
 | x :: l, j + 1, hj, i, hi => by
  have ih := h.flat_at l j (by simpa using hj) i hi
  have e : (j + 1) * k + i = k + (j * k + i) := by rw [Nat.add_mul]; omega
  rw [q0k, e, List.getElem?_append_right (by rw [h.len]; omega), h.len, Nat.add_sub_cancel_left, ih]
  rfl
theorem q12.flat_take (h : q12 k cs) : ∀ (l : List α) (j : Nat), (q0g cs l).take (j * k) = q0g cs (l.take j)
 | [], j => by simp [q0g]
 | x :: l, 0 => by simp [q0g]
 | x :: l, j + 1 => by
  rw [List.take_succ_cons, q0k, q0k, ← h.flat_take l j, List.take_append, h.len, List.take_of_length_le (by rw [h.len, Nat.add_mul]; omega)]
  congr 2
  rw [Nat.add_mul]; omega
theorem q12.flat_drop (h : q12 k cs) : ∀ (l : List α) (j : Nat), (q0g cs l).drop (j * k) = q0g cs (l.drop j)
 | [], j => by simp [q0g]
 | x :: l, 0 => by simp [q0g]
 | x :: l, j + 1 => by
  rw [List.drop_succ_cons, q0k, ← h.flat_drop l j, List.drop_append, h.len, List.drop_of_length_le (by rw [h.len, Nat.add_mul]; omega), List.nil_append]
  congr 1
  rw [Nat.add_mul]; omega
def RowG (cs : α → List Value) (w : World) (lo hi : Nat) (A : Option Addr) (l : List α) : Prop :=
 0 < l.length → ∃ b o, A = some ⟨b, o, none⟩ ∧ lo ≤ b ∧ b < hi ∧ ∀ j u, (q0g cs l)[j]? = some u → w.cell? ⟨b, o + j, none⟩ = some u
section
variable {w w' : World} {lo hi lo' hi' B : Nat} {A : Option Addr} {l : List α}
theorem RowG.nil_ : RowG cs w lo hi A [] := fun h => absurd h (by simp)
theorem RowG.keep (h : RowG cs w lo hi A l) (hk : ∀ p : Addr, lo ≤ p.block → p.block < hi → w'.cell? p = w.cell? p) : RowG cs w' lo hi A l := fun hn => by
 obtain ⟨b, o, e, h1, h2, hc⟩ := h hn
 exact ⟨b, o, e, h1, h2, fun j u hj => (hk _ h1 h2).trans (hc j u hj)⟩
theorem RowG.below (h : RowG cs w lo hi A l) (hb : Below B w w') (hB : hi ≤ B) : RowG cs w' lo hi A l := h.keep fun _ _ h2 => hb.cell (by omega)
theorem RowG.grown {row : Option Nat} (h : RowG cs w lo hi A l) (hg : w.grownBy w' row) (hB : hi ≤ w.heap.size) (hr : ∀ g, row = some g → g < lo ∨ hi ≤ g) : RowG cs w' lo hi A l :=
 h.keep fun p h1 h2 => World.cell?_of_block (hg.block p.block (by omega) (fun e => by rcases hr _ e.symm with h | h <;> omega))
theorem RowG.wide (h : RowG cs w lo hi A l) (h1 : lo' ≤ lo) (h2 : hi ≤ hi') : RowG cs w lo' hi' A l := fun hn => by
 obtain ⟨b, o, e, h3, h4, hc⟩ := h hn
 exact ⟨b, o, e, by omega, by omega, hc⟩
theorem RowG.at_ (hF : q12 k cs) (h : RowG cs w lo hi A l) {j : Nat} (hj : j < l.length) :
  ∃ b o, A = some ⟨b, o, none⟩ ∧ lo ≤ b ∧ b < hi ∧ ∀ i u, (cs (l[j]'hj))[i]? = some u → w.cell? ⟨b, o + j * k + i, none⟩ = some u := by
 obtain ⟨b, o, e, h1, h2, hc⟩ := h (by omega)
 refine ⟨b, o, e, h1, h2, fun i u hu => ?_⟩
 have hi := (List.getElem?_eq_some_iff.1 hu).1
 rw [hF.len] at hi
 rw [Nat.add_assoc]
 exact hc _ u (by rw [hF.flat_at l j hj i hi]; exact hu)
theorem RowG.take (hF : q12 k cs) (h : RowG cs w lo hi A l) (j : Nat) : RowG cs w lo hi A (l.take j) := fun hn => by
 obtain ⟨b, o, e, h1, h2, hc⟩ := h (by rw [List.length_take] at hn; omega)
 refine ⟨b, o, e, h1, h2, fun i u hu => hc i u ?_⟩
 rw [← hF.flat_take, List.getElem?_take] at hu
 split at hu
 ·exact hu
 ·cases hu
theorem RowG.drop (hF : q12 k cs) (h : RowG cs w lo hi A l) (j c : Nat) (hj : j ≤ l.length) (hc : l.length ≤ c) : RowG cs w lo hi (if c = j then A else A.map (·.add (j * k))) (l.drop j) := fun hn => by
 rw [List.length_drop] at hn
 obtain ⟨b, o, rfl, h1, h2, hcell⟩ := h (by omega)
 rw [if_neg (by omega)]
 refine ⟨b, o + j * k, by simp [q0Q], h1, h2, fun i u hu => ?_⟩
 rw [← hF.flat_drop, List.getElem?_drop] at hu
 rw [Nat.add_assoc]
 exact hcell _ u hu
theorem RowG.block {g : Nat} {e : TypeId} {fz : Nat × Nat} {cur : Array Value} (h : w.heap[g]? = some (.cells cur e fz)) (hc : ∀ (j : Nat) (u : Value), (q0g cs l)[j]? = some u → cur[j]? = some u) : RowG cs w g (g + 1) (some ⟨g, 0, none⟩) l := fun _ => by
 refine ⟨g, 0, rfl, Nat.le_refl _, by omega, fun j u hu => ?_⟩
 rw [cell_of_row w g _ _ _ _ h, Nat.zero_add]
 exact hc j u hu
theorem RowG.one {g : Nat} {e : TypeId} {fz : Nat × Nat} {x : α} (h : w.heap[g]? = some (.cells (cs x).toArray e fz)) : RowG cs w g (g + 1) (some ⟨g, 0, none⟩) [x] :=
 RowG.block h (fun j u hu => by rw [q6f] at hu; simpa using hu)
end
def OwnG (e : TypeId) (k : Nat) (cs : α → List Value) (w : World) (lo : Nat) (v : Value) (l : List α) : Prop := w.ownsRow lo e k v l.length (q0g cs l)
section
variable {w w' w1 : World} {lo lo' B : Nat} {v : Value} {l : List α} {e : TypeId}
theorem OwnG.lt (h : OwnG e k cs w lo v l) : ∀ g, v.ownBlock = some g → lo ≤ g ∧ g < w.heap.size := fun g hg => World.ownsRow.lt h g hg
theorem OwnG.allocs (h : OwnG e k cs w lo v l) (o : Obj) : OwnG e k cs (w.alloc o) lo v l := World.ownsRow.alloc h o
theorem OwnG.drew (h : OwnG e k cs w lo v l) : OwnG e k cs w.drew lo v l := h
theorem OwnG.keep (h : OwnG e k cs w lo v l) (hk : ∀ g, v.ownBlock = some g → g < w.heap.size → w'.heap[g]? = w.heap[g]?) (hlo : lo' ≤ lo) : OwnG e k cs w' lo' v l := by
 refine ⟨h.1, ?_⟩
 rcases h.2 with h2 | ⟨g, cap, cur, hv, hb, hg, r⟩
 ·exact .inl h2
 ·refine .inr ⟨g, cap, cur, hv, by omega, ?_, r⟩
  rw [hk g (by rw [hv]; rfl) (Array.getElem?_eq_some_iff.1 hg).1]
  exact hg
theorem OwnG.below (h : OwnG e k cs w lo v l) (hb : Below w.heap.size w w') : OwnG e k cs w' lo v l := h.keep (fun g _ hg => hb.block g hg) (Nat.le_refl _)
theorem OwnG.grown_below (hb : Below B w w1) (h : OwnG e k cs w1 lo v l) (hg : w1.grownBy w' v.ownBlock) (hB : B ≤ lo) (hB2 : B ≤ w1.heap.size) : Below B w w' :=
 hb.grown hg hB2 (fun k hk => Nat.le_trans hB (h.lt k hk).1)
theorem OwnG.form (h : OwnG e k cs w lo v l) : ∃ A c, v = .slice A l.length c ∧ l.length ≤ c ∧ c ≤ maxLen ∧ (A = none → c = 0) ∧ RowG cs w lo w.heap.size A l := by
 have hf := h.1
 rcases h.2 with ⟨hv, hn⟩ | ⟨g, cap, cur, hv, hb, hg, hcap, hm, _⟩
 ·exact ⟨none, 0, by rw [hv, hn], by omega, Nat.zero_le _, fun _ => rfl, fun hp => by omega⟩
 ·refine ⟨some ⟨g, 0, none⟩, cap, hv, hcap, hm, (fun e => by cases e), fun hp => ⟨g, 0, rfl, hb, (Array.getElem?_eq_some_iff.1 hg).1, fun j u hu => ?_⟩⟩
  subst hv
  have hc := World.ownsRow.cells h (g := g) rfl j u hu
  rw [q0Q] at hc
  exact hc
theorem OwnG.none_ (w : World) (lo : Nat) (e : TypeId) (k : Nat) (cs : α → List Value) : OwnG e k cs w lo (.slice none 0 0) [] := World.ownsRow_nil w lo e k
theorem OwnG.made (w : World) (e : TypeId) (k : Nat) (cs : α → List Value) : OwnG e k cs (w.alloc (.cells #[] e)) w.heap.size (.slice (some ⟨w.heap.size, 0, none⟩) 0 0) ([] : List α) :=
 World.ownsRow_made w #[] 0 (Nat.le_refl _) (Nat.zero_le _) (by simp)
end
def q2a (P : Program) (e : TypeId) (k bytes : Nat) : Prop := ∃ i z, P.info? e = some i ∧ i.zero = some z ∧ z.cells.size = k ∧ i.size = k ∧ i.bytes = bytes
theorem q2a.of {P : Program} {e : TypeId} {k bytes : Nat} (h : (P.info? e).map (fun i => (i.zero.map (fun z => z.cells.size), i.size, i.bytes)) = some (some k, k, bytes)) : q2a P e k bytes := by
 obtain ⟨i, hi, hz⟩ := Option.map_eq_some_iff.1 h
 simp only [Prod.mk.injEq] at hz
 obtain ⟨z, hz0, hz1⟩ := Option.map_eq_some_iff.1 hz.1
 exact ⟨i, z, hi, hz0, hz1, hz.2.1, hz.2.2⟩
theorem q2Y {P : Program} (w : World) {ops : Array Oper} {rest : List Oper} {o : Oper} {a : Act} {Q : Exit → Act → World → Prop} (hgd : o.guard = none) (s x : Operand) (t e : TypeId) (bytes : Nat)
  (hF : q12 k cs) (hI : q2a P e k bytes) (ht : P.underlying t = some (.slice e)) (ho : o.op = .call { callee := .builtin .append, args := #[s, x], argTypes := #[t, t] })
  (base : Nat) (v : Value) (l : List α) (hs : a.eval s = v) (hown : OwnG e k cs w base v l)
  (lo up : Nat) (A : Option Addr) (m c : Nat) (m' : List α) (hx : a.eval x = .slice A m c) (hm : m = m'.length) (hnil : A = none → c = 0) (hr : RowG cs w lo up A m')
  (h63 : l.length + m'.length ≤ maxLen) (hby : (l.length + m'.length) * bytes ≤ 140737488355328) (hbase : base ≤ w.heap.size)
  (h : ∀ v' w', OwnG e k cs w' base v' (l ++ m') → w.grownBy w' v.ownBlock → wpList P ops Q rest (a.put o.dst v') w') : wpList P ops Q (o :: rest) a w := by
 subst hm
 obtain ⟨i, z, hi0, hz0, hzs, hz2, hz3⟩ := hI
 rcases A with _ | ad
 ·have h0 : m' = [] := by
   rcases Nat.eq_zero_or_pos m'.length with h0 | h0
   ·exact List.eq_nil_of_length_eq_zero h0
   ·obtain ⟨b, o, hA, _⟩ := hr h0
    cases hA
  subst h0
  obtain rfl := hnil rfl
  refine wpList_append_own_none hgd s x _ ho base _ i k ht hi0 v l.length (q0g cs l) hs hown hx ?_
  exact h v w (by rw [List.append_nil]; exact hown) ⟨rfl, rfl, rfl, Nat.le_refl _, fun _ _ _ => rfl⟩
 ·refine wpList_append_own w hgd s x _ ho base _ i z k bytes ht hi0 hz0 hz2 hz3 hzs hF.pos v l.length (q0g cs l) hs hown ad m'.length c (q0g cs m') hx (hF.flat_len m') ?_ (hF.flat_one m') h63 hby hbase ?_
  ·intro j u hu
   have h0 : 0 < m'.length := by
    have h1 := (List.getElem?_eq_some_iff.1 hu).1
    rw [hF.flat_len] at h1
    exact Nat.pos_of_ne_zero fun h => by rw [h] at h1; omega
   obtain ⟨b, o', hA, _, _, hc⟩ := hr h0
   injection hA with hA
   subst hA
   rw [q0Q]
   exact hc j u hu
  ·intro v' w' h1 h2 _
   refine h v' w' ?_ h2
   unfold OwnG
   rw [List.length_append, q0Z]
   exact h1
theorem q2z {w : World} {b : Nat} {e : TypeId} {a0 a1 a2 : Value} (h : w.heap[b]? = some (.cells #[a0, a1, a2] e (0, 0))) (v0 v1 v2 : Value) :
  (((w.setCell ⟨b, 0, none⟩ v0).setCell ⟨b, 1, none⟩ v1).setCell ⟨b, 2, none⟩ v2).heap[b]? = some (.cells #[v0, v1, v2] e (0, 0)) := by
 simp [World.setCell, Array.getElem?_modify, h]
theorem Below.box3 {w w' : World} {B b : Nat} (h : Below B w w') (hb : B ≤ b) (v0 v1 v2 : Value) : Below B w (((w'.setCell ⟨b, 0, none⟩ v0).setCell ⟨b, 1, none⟩ v1).setCell ⟨b, 2, none⟩ v2) :=
 ((h.setCell hb _).setCell hb _).setCell hb _
theorem q30 {w : World} {b g : Nat} (hg : g ≠ b) (v0 v1 v2 : Value) : (((w.setCell ⟨b, 0, none⟩ v0).setCell ⟨b, 1, none⟩ v1).setCell ⟨b, 2, none⟩ v2).heap[g]? = w.heap[g]? := by
 have hg' : b ≠ g := fun e => hg e.symm
 simp [World.setCell, Array.getElem?_modify, hg']
theorem q02 {w : World} {b : Nat} {e : TypeId} {cur : Array Value} (h : w.heap[b]? = some (.cells cur e (0, 0))) (o : Nat) : w.frozen? ⟨b, o, none⟩ = false := by
 simp [World.frozen?, h]
theorem q00 {w : World} {b : Nat} {o : Obj} (h : w.heap[b]? = some o) : b < w.heap.size := (Array.getElem?_eq_some_iff.1 h).1
theorem q01 {w w' : World} {B b : Nat} {o : Obj} (h : w.heap[b]? = some o) (hb : Below B w w') (hB : b < B) : w'.heap[b]? = some o := (hb.block b hB).trans h
theorem q0G {w : World} {b : Nat} {o : Obj} (h : w.heap[b]? = some o) (x : Obj) : (w.alloc x).heap[b]? = some o := q01 h ((Below.refl _ w).alloc (Nat.le_refl _) x) (q00 h)
theorem q23 (w : World) (a b : Obj) : ((w.alloc a).alloc b).heap[w.heap.size + 1]? = some b := by
 have h := heap_alloc_new (w.alloc a) b
 rwa [show (w.alloc a).heap.size = w.heap.size + 1 from by simp] at h
theorem qfp {H : Type} {enc : TypeId × Value → H} {P : Program} {W : World} (hF : q12 k cs) {tS e : TypeId} (hu : P.underlying tS = some (.slice e)) (hcl : P.cellsOf e = k) {p : α → Prop}
  (each : ∀ (fuel : Nat) (cells : List Value) (y : DataW H × List MemPlace), cells.length = k → DataW.trod enc P W 0 (fun _ => true) true fuel e cells = some y → ∃ x, cells = cs x ∧ p x)
  {fuel : Nat} {v : Value} {y : DataW H × List MemPlace} (h : DataW.trod enc P W 0 (fun _ => true) true fuel tS [v] = some y) :
  ∃ (A : Option Addr) (c : Nat) (l : List α), v = .slice A l.length c ∧ l.length ≤ maxLen ∧ (∀ x ∈ l, p x) ∧ l.length ≤ c ∧ c ≤ maxLen ∧ (A = none → c = 0) ∧ RowG cs W 0 W.heap.size A l := by
 rcases Go.Deep.open_slice hu h with ⟨hcs, _⟩ | ⟨a, len, cap, m, n, D, Pl, hcs, _, hl, hm, hmm, _, hel⟩
 ·obtain rfl : v = .slice none 0 0 := by simpa using hcs
  exact ⟨none, 0, [], rfl, Nat.zero_le _, by simp, Nat.le_refl _, Nat.zero_le _, fun _ => rfl, RowG.nil_⟩
 ·obtain rfl : v = .slice (some a) len cap := by simpa using hcs
  have hmc : m = cap := by simpa using hmm
  obtain ⟨b, o, spot⟩ := a
  have one : ∀ i, i < len → ∃ x : α, p x ∧ ∀ q u, (cs x)[q]? = some u → W.cell? ((⟨b, o, spot⟩ : Addr).add (i * k + q)) = some u := fun i hi => by
   obtain ⟨cs', hc, ht⟩ := hel i (by omega)
   rw [hcl] at hc
   obtain ⟨_, hlen, hat⟩ := World.cells?_some hc
   obtain ⟨x, rfl, hx⟩ := each _ _ _ (by simpa using hlen) ht
   refine ⟨x, hx, fun q u hq => ?_⟩
   have hql := (List.getElem?_eq_some_iff.1 hq).1
   rw [hF.len] at hql
   have h0 := hat q hql
   rw [Go.Deep.add_add] at h0
   rw [h0]
   exact hq
  have hspot : 0 < len → spot = none := fun h0 => by
   obtain ⟨x, _, q0⟩ := one 0 h0
   have hx0 : (cs x)[0]? = some ((cs x)[0]'(by rw [hF.len]; exact hF.pos)) := List.getElem?_eq_getElem _
   have := q0 0 _ hx0
   simpa [Addr.add] using World.cell?_spot this
  have hch : ∀ j : Nat, j ≤ len → ∃ l : List α, l.length = j ∧ (∀ x ∈ l, p x) ∧ ∀ i (h : i < l.length) q u, (cs (l[i]'h))[q]? = some u → W.cell? ((⟨b, o, spot⟩ : Addr).add (i * k + q)) = some u := by
   intro j
   induction j with
   | zero => exact fun _ => ⟨[], rfl, by simp, fun i h => absurd h (by simp)⟩
   | succ j ih =>
    intro hj
    obtain ⟨l, e, hi, hc2⟩ := ih (by omega)
    obtain ⟨x, hx, q⟩ := one j (by omega)
    refine ⟨l ++ [x], by simp [e], ?_, fun i h => ?_⟩
    ·intro y hy
     rcases List.mem_append.1 hy with hy | hy
     ·exact hi y hy
     ·simp at hy; subst hy; exact hx
    ·by_cases hil : i < l.length
     ·rw [List.getElem_append_left hil]
      exact hc2 i hil
     ·have : i = l.length := by simp at h; omega
      subst this
      rw [List.getElem_append_right (Nat.le_refl _)]
      simp only [Nat.sub_self, List.getElem_cons_zero]
      rw [e]
      exact q
  obtain ⟨l, e, hi, hc2⟩ := hch len (Nat.le_refl _)
  refine ⟨some ⟨b, o, spot⟩, cap, l, by rw [e], by omega, hi, by omega, hm, fun h => (by cases h), fun hp => ?_⟩
  have hs := hspot (by omega)
  subst hs
  have hk0 := hF.pos
  have all : ∀ j u, (q0g cs l)[j]? = some u → W.cell? ⟨b, o + j, none⟩ = some u := fun j u hu => by
   have h1 := (List.getElem?_eq_some_iff.1 hu).1
   rw [hF.flat_len] at h1
   have hq : j / k < l.length := Nat.div_lt_of_lt_mul (by rw [Nat.mul_comm]; exact h1)
   have hr : j % k < k := Nat.mod_lt _ hk0
   have e1 : j / k * k + j % k = j := by rw [Nat.mul_comm]; exact Nat.div_add_mod j k
   have h2 := hF.flat_at l (j / k) hq (j % k) hr
   rw [e1, hu] at h2
   have h3 := hc2 (j / k) hq (j % k) u h2.symm
   rw [e1, q0Q] at h3
   exact h3
  have hc0 : 0 < (q0g cs l).length := by rw [hF.flat_len]; exact Nat.mul_pos hp hk0
  refine ⟨b, o, rfl, Nat.zero_le _, ?_, all⟩
  have := World.block_lt_of_cell? W _ (all 0 _ (List.getElem?_eq_getElem hc0))
  simpa using this
end
end Go.Proofs.YtdpbllacfljmoaaGreat
