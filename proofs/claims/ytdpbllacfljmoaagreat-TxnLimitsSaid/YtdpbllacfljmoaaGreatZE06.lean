import Derived.Test.YtdpbllacfljmoaaGreatZE00
import Derived.Test.YtdpbllacfljmoaaGreatZE05
import Derived.Test.YtdpbllacfljmoaaGreatZE01
import Derived.Test.YtdpbllacfljmoaaGreatZE03
set_option maxRecDepth 100000
set_option maxHeartbeats 16000000
set_option linter.unusedVariables false
namespace Go.Proofs.YtdpbllacfljmoaaGreat
open Go.RowKit
def q05 (s : Sp) : List Value := [.string (bs s.lo), .string (bs s.hi)]
theorem spF : q0X 2 q05 := ⟨by decide, fun _ => rfl, fun x v hv => by
 simp only [q05, List.mem_cons, List.not_mem_nil, or_false] at hv
 rcases hv with rfl | rfl <;> rfl⟩
def q0J (s : Sp) : Value := .agg #[.string (bs s.lo), .string (bs s.hi)]
theorem qaO : q23 Tryz.prog 131 2 32 := q23.of (by kernel_rfl)
def ChI (w : World) (hi : Nat) (A : Option Addr) (c : Nat) (l : List Sp) : Prop := l.length ≤ c ∧ c ≤ maxLen ∧ (A = none → c = 0) ∧ RowG q05 w 0 hi A l
section
variable {w w' : World} {hi hi' B : Nat} {A : Option Addr} {c : Nat} {l : List Sp}
theorem ChI.below (h : ChI w hi A c l) (hb : Below B w w') (hB : hi ≤ B) (hh : hi ≤ hi') : ChI w' hi' A c l := ⟨h.1, h.2.1, h.2.2.1, (h.2.2.2.below hb hB).wide (Nat.le_refl _) hh⟩
theorem ChI.none_ (w : World) (hi : Nat) : ChI w hi none 0 [] := ⟨Nat.le_refl _, Nat.zero_le _, fun _ => rfl, RowG.nil_⟩
theorem ChI.at_ (h : ChI w hi A c l) {j : Nat} (hj : j < l.length) : ∃ b o, A = some ⟨b, o, none⟩ ∧ b < hi ∧ w.cell? ⟨b, o + j * 2, none⟩ = some (.string (bs (l[j]'hj).lo)) ∧ w.cell? ⟨b, o + j * 2 + 1, none⟩ = some (.string (bs (l[j]'hj).hi)) := by
 obtain ⟨b, o, e, _, hb, hc⟩ := h.2.2.2.at_ spF hj
 exact ⟨b, o, e, hb, by simpa using hc 0 _ rfl, hc 1 _ rfl⟩
theorem OwnG.chI {e : TypeId} {lo : Nat} {v : Value} (h : OwnG e 2 q05 w lo v l) : ∃ A c, v = .slice A l.length c ∧ ChI w w.heap.size A c l := by
 obtain ⟨A, c, rfl, k1, k2, k3, k4⟩ := h.form
 exact ⟨A, c, rfl, k1, k2, k3, k4.wide (Nat.zero_le _) (Nat.le_refl _)⟩
end
def RetI (m : List Sp) (w : World) (r : Ending) (w' : World) : Prop := ∃ A c, r = .returned (.slice A m.length c) ∧ ChI w' w'.heap.size A c m ∧ Below w.heap.size w w'
def q9Y (a b : List Sp) : Bool := decide (a = b)
structure RecS where
 first : Nat
 last : Nat
 began : Nat
 out : Nat
 reads : List Sp
 writes : List Sp
def q21 (r : RecS) : Bool := decide (1 ≤ r.first) && decide (r.first ≤ r.last) && decide (r.began ≤ r.last) && q2G r.reads && q2G r.writes
def q0c (l : List RecS) (low : Nat) : List RecS := l.filter fun r => decide (low < r.last)
def q9F (a b : RecS) : Bool := if b.writes.isEmpty then decide (a.first ≤ b.began) else decide (a.first ≤ b.last)
def outB (t a : RecS) : Bool := !(a.out == 0) && (!t.writes.isEmpty || decide (a.out ≤ t.began))
def qgz (l : List RecS) (t a : RecS) : Bool := l.any fun b => q1Y b.reads t.writes && q9F a b
def q3s (l : List RecS) (t : RecS) : List RecS := l.filter fun a => q1Y t.reads a.writes
def q2i (o : Option Nat) (a : RecS) : Option Nat := match o with
 | none => some a.first
 | some x => some (if a.first < x then a.first else x)
def outR (l : List RecS) : Nat := (l.foldl q2i none).getD 0
def q1B (l : List RecS) (t : RecS) : Option Nat :=
 if (q3s (q0c l t.began) t).any (fun a => outB t a || qgz (q0c l t.began) t a) = true then none else some (outR (q3s (q0c l t.began) t))
theorem q31 : ∀ (l : List RecS) (o : Option Nat), (∀ a ∈ l, ∃ x, l.foldl q2i o = some x ∧ x ≤ a.first) ∧ (∀ y, o = some y → ∃ x, l.foldl q2i o = some x ∧ x ≤ y) ∧
  (∀ x, l.foldl q2i o = some x → o = some x ∨ ∃ a ∈ l, x = a.first)
 | [], o => ⟨(fun a ha => by cases ha), (fun y h => ⟨y, h, Nat.le_refl _⟩), fun x h => .inl h⟩
 | b :: l, o => by
  have hs : ∃ y, q2i o b = some y ∧ y ≤ b.first ∧ (∀ z, o = some z → y ≤ z) ∧ (o = some y ∨ y = b.first) := by
   cases o with
   | none => exact ⟨_, rfl, Nat.le_refl _, (fun z h => by cases h), .inr rfl⟩
   | some z =>
    by_cases h : b.first < z
    ·exact ⟨b.first, by simp [q2i, h], Nat.le_refl _, (fun u hu => by cases hu; omega), .inr rfl⟩
    ·exact ⟨z, by simp [q2i, h], by omega, (fun u hu => by cases hu; omega), .inl rfl⟩
  obtain ⟨y, hy, h1, h2, h3⟩ := hs
  obtain ⟨k1, k2, k3⟩ := q31 l (some y)
  rw [List.foldl_cons, hy]
  obtain ⟨x, hx, hxy⟩ := k2 y rfl
  refine ⟨fun a ha => ?_, fun z hz => ⟨x, hx, Nat.le_trans hxy (h2 z hz)⟩, fun u hu => ?_⟩
  ·rcases List.mem_cons.1 ha with rfl | ha
   ·exact ⟨x, hx, Nat.le_trans hxy h1⟩
   ·exact k1 a ha
  ·rcases k3 u hu with h | ⟨a, ha, e⟩
   ·cases h
    rcases h3 with h | h
    ·exact .inl h
    ·exact .inr ⟨b, List.mem_cons_self .., h⟩
   ·exact .inr ⟨a, List.mem_cons_of_mem _ ha, e⟩
theorem qga {l : List RecS} {a : RecS} (ha : a ∈ l) : outR l ≤ a.first := by
 obtain ⟨x, hx, h⟩ := (q31 l none).1 a ha
 unfold outR
 rw [hx]
 exact h
theorem qfH {l : List RecS} (h : l ≠ []) : ∃ a ∈ l, outR l = a.first := by
 match l, h with
 | b :: l, _ =>
  obtain ⟨x, hx, _⟩ := (q31 (b :: l) none).1 b (List.mem_cons_self ..)
  rcases (q31 (b :: l) none).2.2 x hx with h | ⟨a, ha, e⟩
  ·cases h
  ·exact ⟨a, ha, by unfold outR; rw [hx]; exact e⟩
def q3q (a b : Nat) : Nat := if a = 0 ∨ b = 0 then max a b else min a b
def q2w (J : List Sp → List Sp → List Sp) (a b : RecS) : RecS := ⟨min a.first b.first, max a.last b.last, max a.began b.began, q3q a.out b.out, J a.reads b.reads, J a.writes b.writes⟩
structure qfR (J : List Sp → List Sp → List Sp) : Prop where
 norm : ∀ a b, q0B (J a b)
 left : ∀ a b k, inP a k = true → inP (J a b) k = true
 right : ∀ a b k, inP b k = true → inP (J a b) k = true
def fitR (J : List Sp → List Sp → List Sp) : Nat → List RecS → List RecS
 | n, a :: b :: l => if max n 1 < (a :: b :: l).length then fitR J n (q2w J a b :: l) else a :: b :: l
 | _, l => l
 termination_by _ l => l.length
section
variable {J : List Sp → List Sp → List Sp}
theorem q3R (r : RecS) : q21 r = true ↔ 1 ≤ r.first ∧ r.first ≤ r.last ∧ r.began ≤ r.last ∧ q0B r.reads ∧ q0B r.writes := by
 simp only [q21, Bool.and_eq_true, decide_eq_true_eq, q6g]
 constructor
 ·rintro ⟨⟨⟨⟨h1, h2⟩, h3⟩, h4⟩, h5⟩
  exact ⟨h1, h2, h3, h4, h5⟩
 ·rintro ⟨h1, h2, h3, h4, h5⟩
  exact ⟨⟨⟨⟨h1, h2⟩, h3⟩, h4⟩, h5⟩
theorem qbu (hJ : qfR J) {a b : RecS} (ha : q21 a = true) (hb : q21 b = true) : q21 (q2w J a b) = true := by
 rw [q3R] at *
 obtain ⟨h1, h2, h3, _, _⟩ := ha
 obtain ⟨g1, g2, g3, _, _⟩ := hb
 refine ⟨?_, ?_, ?_, hJ.norm _ _, hJ.norm _ _⟩
 ·show 1 ≤ min a.first b.first
  omega
 ·show min a.first b.first ≤ max a.last b.last
  omega
 ·show max a.began b.began ≤ max a.last b.last
  omega
theorem q3L {n : Nat} {l : List RecS} (h : l.length ≤ max n 1) : fitR J n l = l := by
 match l, h with
 | [], _ => unfold fitR; rfl
 | [a], _ => unfold fitR; rfl
 | a :: b :: l, h =>
  unfold fitR
  rw [if_neg (by omega)]
theorem qau (n : Nat) : ∀ (m : Nat) (l : List RecS), l.length ≤ m → max n 1 ≤ l.length → (fitR J n l).length = max n 1
 | _, [], _, h2 => by simp at h2
 | _, [x], _, h2 => by unfold fitR; simp at h2 ⊢; omega
 | 0, x :: y :: l, h, _ => by simp at h
 | m + 1, x :: y :: l, h, h2 => by
  unfold fitR
  split
  ·rename_i hlt
   exact qau n m _ (by simp at h ⊢; omega) (by simp at hlt ⊢; omega)
  ·rename_i hlt
   simp only [List.length_cons] at hlt h2 ⊢
   omega
theorem qcE {n : Nat} {a b : RecS} {l : List RecS} (h : max n 1 < l.length + 2) : fitR J n (a :: b :: l) = fitR J n (q2w J a b :: l) := by
 rw [fitR, if_pos (by simpa using h)]
end
open Go.RowKit
structure MR where
 r : RecS
 A : Option Addr
 c : Nat
 B : Option Addr
 d : Nat
def q0d (x : MR) : List Value := [.int .u64 x.r.first, .int .u64 x.r.last, .int .u64 x.r.began, .int .u64 x.r.out, .slice x.A x.r.reads.length x.c, .slice x.B x.r.writes.length x.d]
def q0t (x : MR) : Value := .agg #[.int .u64 x.r.first, .int .u64 x.r.last, .int .u64 x.r.began, .int .u64 x.r.out, .slice x.A x.r.reads.length x.c, .slice x.B x.r.writes.length x.d]
theorem mrF : q0X 6 q0d := ⟨by decide, fun _ => rfl, fun x v hv => by
 simp only [q0d, List.mem_cons, List.not_mem_nil, or_false] at hv
 rcases hv with rfl | rfl | rfl | rfl | rfl | rfl <;> rfl⟩
theorem qdc : q23 Tryz.prog 86 6 80 := q23.of (by kernel_rfl)
structure OkMR (w : World) (hi : Nat) (x : MR) : Prop where
 first : x.r.first < 18446744073709551616
 last : x.r.last < 18446744073709551616
 began : x.r.began < 18446744073709551616
 out : x.r.out < 18446744073709551616
 reads : ChI w hi x.A x.c x.r.reads
 writes : ChI w hi x.B x.d x.r.writes
def RowR (w : World) (hi : Nat) (A : Option Addr) (l : List RecS) : Prop := ∃ ms : List MR, ms.map MR.r = l ∧ RowG q0d w 0 hi A ms ∧ ∀ x ∈ ms, OkMR w hi x
def ChR (w : World) (hi : Nat) (A : Option Addr) (c : Nat) (l : List RecS) : Prop := l.length ≤ c ∧ c ≤ maxLen ∧ (A = none → c = 0) ∧ RowR w hi A l
section
variable {w w' : World} {hi hi' B : Nat} {A : Option Addr} {c : Nat} {l : List RecS} {x : MR}
theorem OkMR.below (h : OkMR w hi x) (hb : Below B w w') (hB : hi ≤ B) (hh : hi ≤ hi') : OkMR w' hi' x := ⟨h.first, h.last, h.began, h.out, h.reads.below hb hB hh, h.writes.below hb hB hh⟩
theorem RowR.below (h : RowR w hi A l) (hb : Below B w w') (hB : hi ≤ B) (hh : hi ≤ hi') : RowR w' hi' A l := by
 obtain ⟨ms, e, h1, h2⟩ := h
 exact ⟨ms, e, (h1.below hb hB).wide (Nat.le_refl _) hh, fun x hx => (h2 x hx).below hb hB hh⟩
theorem ChR.below (h : ChR w hi A c l) (hb : Below B w w') (hB : hi ≤ B) (hh : hi ≤ hi') : ChR w' hi' A c l := ⟨h.1, h.2.1, h.2.2.1, h.2.2.2.below hb hB hh⟩
theorem RowR.at_ (h : RowR w hi A l) {j : Nat} (hj : j < l.length) :
  ∃ b o, A = some ⟨b, o, none⟩ ∧ b < hi ∧ ∃ x : MR, x.r = l[j]'hj ∧ OkMR w hi x ∧ w.cell? ⟨b, o + j * 6, none⟩ = some (.int .u64 x.r.first) ∧ w.cell? ⟨b, o + j * 6 + 1, none⟩ = some (.int .u64 x.r.last) ∧ w.cell? ⟨b, o + j * 6 + 2, none⟩ = some (.int .u64 x.r.began) ∧
   w.cell? ⟨b, o + j * 6 + 3, none⟩ = some (.int .u64 x.r.out) ∧ w.cell? ⟨b, o + j * 6 + 4, none⟩ = some (.slice x.A x.r.reads.length x.c) ∧ w.cell? ⟨b, o + j * 6 + 5, none⟩ = some (.slice x.B x.r.writes.length x.d) := by
 obtain ⟨ms, rfl, h1, h2⟩ := h
 have hj' : j < ms.length := by simpa using hj
 obtain ⟨b, o, e, _, hb, hc⟩ := h1.at_ mrF hj'
 exact ⟨b, o, e, hb, ms[j], by simp, h2 _ (List.getElem_mem hj'), by simpa using hc 0 _ rfl, hc 1 _ rfl, hc 2 _ rfl, hc 3 _ rfl, hc 4 _ rfl, hc 5 _ rfl⟩
theorem OwnG.chR {e : TypeId} {lo : Nat} {v : Value} {ms : List MR} (h : OwnG e 6 q0d w lo v ms) (hm : ∀ x ∈ ms, OkMR w w.heap.size x) : ∃ A c, v = .slice A ms.length c ∧ ChR w w.heap.size A c (ms.map MR.r) := by
 obtain ⟨A, c, rfl, k1, k2, k3, k4⟩ := h.form
 exact ⟨A, c, rfl, by rw [List.length_map]; exact k1, k2, k3, ms, rfl, k4.wide (Nat.zero_le _) (Nat.le_refl _), hm⟩
end
def q7S (m : List RecS) (w : World) (r : Ending) (w' : World) : Prop := ∃ A c, r = .returned (.slice A m.length c) ∧ ChR w' w'.heap.size A c m ∧ Below w.heap.size w w'
def qbX (m : RecS) (w : World) (r : Ending) (w' : World) : Prop := ∃ x : MR, x.r = m ∧ r = .returned (q0t x) ∧ OkMR w' w'.heap.size x ∧ Below w.heap.size w w'
def q3O : Option Nat → Value
 | some n => .tuple #[.int .u64 n, .int .i64 0]
 | none => .tuple #[.int .u64 0, .int .i64 101]
theorem q62 {l : List RecS} {low j : Nat} (hj : j < l.length) : q0c (l.take (j + 1)) low = q0c (l.take j) low ++ (if low < (l[j]'hj).last then [l[j]'hj] else []) := by
 unfold q0c
 rw [List.take_succ_eq_append_getElem hj, List.filter_append]
 congr 1
 by_cases h : low < (l[j]'hj).last
 ·rw [if_pos h, List.filter_cons, if_pos (by simpa using h)]; rfl
 ·rw [if_neg h, List.filter_cons, if_neg (by simpa using h)]; rfl
theorem q4S (l : List RecS) (low : Nat) : (q0c l low).length ≤ l.length := List.length_filter_le _ _
def q0z (l : List RecS) : Nat := (l.map fun r => r.reads.length + r.writes.length).sum
theorem qeA {l : List RecS} {r : RecS} (h : r ∈ l) : r.reads.length + r.writes.length ≤ q0z l := by
 induction l with
 | nil => cases h
 | cons x l ih =>
  have e : q0z (x :: l) = (x.reads.length + x.writes.length) + q0z l := by simp [q0z]
  rcases List.mem_cons.1 h with rfl | h
  ·omega
  ·have := ih h
   omega
theorem q8F {J : List Sp → List Sp → List Sp} (hJ : ∀ a b, (J a b).length ≤ a.length + b.length) (a b : RecS) (l : List RecS) : q0z (q2w J a b :: l) ≤ q0z (a :: b :: l) := by
 have h1 := hJ a.reads b.reads
 have h2 := hJ a.writes b.writes
 have e1 : q0z (q2w J a b :: l) = ((J a.reads b.reads).length + (J a.writes b.writes).length) + q0z l := by simp [q0z, q2w]
 have e2 : q0z (a :: b :: l) = (a.reads.length + a.writes.length) + ((b.reads.length + b.writes.length) + q0z l) := by simp [q0z]
 omega
structure LimT where
 s : LimS
 marks : Int
 recs : Int
 live : Int
structure TxS where
 id : Nat
 began : Nat
 start : Nat
 marks : List Sp
 ws : List Wr
structure q5x where
 id : Nat
 began : Nat
 at_ : Nat
 start : Nat
 end_ : Nat
 reads : List Sp
 writes : List Sp
structure q07 where
 st : PS
 live : List TxS
 recs : List RecS
 hist : List q5x
 last : Nat
 event : Nat
def q3t : q07 := ⟨⟨0, []⟩, [], [], [], 0, 0⟩
def q6z (L : LimT) : Nat := (max L.recs 1).toNat
def q0j (k : KeyS) : Sp := ⟨k, k ++ [0]⟩
def lowT (b : q07) : Nat := b.live.foldl (fun l t => min l t.began) b.st.time
def ofT (b : q07) (id : Int) : Option TxS := b.live.find? fun t => decide ((t.id : Int) = id)
def setT (b : q07) (t : TxS) : q07 := ⟨b.st, b.live.map fun x => if x.id = t.id then t else x, b.recs, b.hist, b.last, b.event⟩
def errT (e : Int) : q4k := ⟨0, e, [], false, []⟩
def q0M (L : LimT) (b : q07) : q07 × q4k :=
 if L.live ≤ (b.live.length : Int) then (b, errT 5) else (⟨b.st, b.live ++ [⟨b.last + 1, b.st.time, b.event + 1, [], []⟩], b.recs, b.hist, b.last + 1, b.event + 1⟩, ⟨b.last + 1, 0, [], false, []⟩)
def qbG (l : List (KeyS × List UInt8)) (w : Wr) : List (KeyS × List UInt8) := l.filter (fun p => blt p.1 w.key) ++ (if w.gone = true then [] else [(w.key, w.dat)]) ++ l.filter (fun p => blt w.key p.1)
def q4a (lo hi : KeyS) (ws : List Wr) (l : List (KeyS × List UInt8)) : List (KeyS × List UInt8) := ws.foldl (fun l w => if hasS ⟨lo, hi⟩ w.key = true then qbG l w else l) l
def putW (ws : List Wr) (w : Wr) : List Wr := ws.filter (fun x => blt x.key w.key) ++ [w] ++ ws.filter (fun x => blt w.key x.key)
def q0H (b : q07) (id : Int) (w : Wr) : q07 × q4k := match ofT b id with
 | none => (b, errT 4)
 | some t => if q0h [] [w] ≠ 0 then (b, errT (q0h [] [w])) else (setT b ⟨t.id, t.began, t.start, t.marks, putW t.ws w⟩, errT 0)
def q1O (st : PS) (t : TxS) (w : Wr) : Bool := w.gone && (q1D st.K w.key t.began).isNone
def q08 (st : PS) (t : TxS) : List Wr := t.ws.filter fun w => !q1O st t w
def q6H (st : PS) (t : TxS) : Bool := t.ws.any fun w => decide (t.began < q2N (q03 st.K w.key))
section
variable (F : List Sp → List Sp)
def q8z (a b : List Sp) : List Sp := F (q09 (a ++ b))
def addF (m : List Sp) (s : Sp) : List Sp := F (q09 (m ++ [s]))
def q32 (t : TxS) (s : Sp) : TxS := ⟨t.id, t.began, t.start, addF F t.marks s, t.ws⟩
def q12 (b : q07) (id : Int) (key : KeyS) : q07 × q4k := match ofT b id with
 | none => (b, errT 4)
 | some t => match t.ws.find? fun w => w.key == key with
  | some w => (b, ⟨0, 0, w.dat, !w.gone, []⟩)
  | none => (setT b (q32 F t (q0j key)), ⟨0, 0, (q1D b.st.K key t.began).getD [], (q1D b.st.K key t.began).isSome, []⟩)
def q1L (b : q07) (id : Int) (lo hi : KeyS) : q07 × q4k := match ofT b id with
 | none => (b, errT 4)
 | some t => if q0e ⟨lo, hi⟩ = false then (b, errT 1) else (setT b (q32 F t ⟨lo, hi⟩), ⟨0, 0, [], false, q4a lo hi t.ws (q1E b.st.K lo hi t.began)⟩)
def q2L (L : LimT) (b : q07) (t : TxS) : q07 :=
 ⟨b.st, b.live.filter (fun x => decide (x.id ≠ t.id)), fitR (q8z F) (q6z L) (q0c b.recs (lowT ⟨b.st, b.live.filter (fun x => decide (x.id ≠ t.id)), b.recs, b.hist, b.last, b.event⟩)), b.hist, b.last, b.event⟩
def q1U (st : PS) (t : TxS) : List Sp := t.ws.foldl (fun m w => if q1O st t w = true then addF F m (q0j w.key) else m) t.marks
def q1u (l : List Wr) : List Sp := F (l.foldl (fun m w => q09 (m ++ [q0j w.key])) [])
def askT (st : PS) (t : TxS) : RecS := ⟨0, 0, t.began, 0, q1U F st t, q1u F (q08 st t)⟩
def q0q (L : LimT) (b : q07) (id : Int) : q07 × q4k := match ofT b id with
 | none => (b, errT 4)
 | some t =>
  if q6H b.st t = true then (q2L F L b t, errT 100)
  else match q1B b.recs (askT F b.st t) with
   | none => (q2L F L b t, errT 101)
   | some out =>
    if (q0a L.s b.st (q08 b.st t) (lowT b)).2.2 ≠ 0 then (q2L F L ⟨(q0a L.s b.st (q08 b.st t) (lowT b)).1, b.live, b.recs, b.hist, b.last, b.event⟩ t, errT (q0a L.s b.st (q08 b.st t) (lowT b)).2.2)
    else (q2L F L ⟨(q0a L.s b.st (q08 b.st t) (lowT b)).1, b.live,
      b.recs ++ [⟨max (q0a L.s b.st (q08 b.st t) (lowT b)).2.1 1, max (q0a L.s b.st (q08 b.st t) (lowT b)).2.1 1, t.began, out, q1U F b.st t, q1u F (q08 b.st t)⟩],
      b.hist ++ [⟨t.id, t.began, (q0a L.s b.st (q08 b.st t) (lowT b)).2.1, t.start, b.event + 1, q1U F b.st t, q1u F (q08 b.st t)⟩], b.last, b.event + 1⟩ t,
     ⟨(q0a L.s b.st (q08 b.st t) (lowT b)).2.1, 0, [], false, []⟩)
def q1P (L : LimT) (b : q07) (id : Int) : q07 × q4k := match ofT b id with
 | none => (b, errT 4)
 | some t => (q2L F L b t, errT 0)
def q1G (b : q07) : q07 × q4k :=
 (⟨⟨b.st.time, q06 b.st.K (lowT b)⟩, b.live, b.recs, b.hist, b.last, b.event⟩, ⟨q0U b.st.K - q0U (q06 b.st.K (lowT b)), 0, [], false, []⟩)
structure OpT where
 what : Int
 id : Int
 w : Wr
 hi : KeyS
def q1X (L : LimT) (b : q07) (o : OpT) : q07 × q4k :=
 if o.what = 0 then q0M L b
 else if o.what = 1 then q12 F b o.id o.w.key
 else if o.what = 2 then q1L F b o.id o.w.key o.hi
 else if o.what = 3 then q0H b o.id o.w
 else if o.what = 4 then q0q F L b o.id
 else if o.what = 5 then q1P F L b o.id
 else if o.what = 6 then q1G b
 else (b, qgf)
end
theorem q7y : ∀ (l : List TxS) (n : Nat), l.foldl (fun l t => min l t.began) n ≤ n ∧ ∀ t ∈ l, l.foldl (fun l t => min l t.began) n ≤ t.began
 | [], n => ⟨Nat.le_refl _, fun t h => by cases h⟩
 | x :: l, n => by
  obtain ⟨h1, h2⟩ := q7y l (min n x.began)
  refine ⟨Nat.le_trans h1 (Nat.min_le_left _ _), fun t ht => ?_⟩
  rcases List.mem_cons.1 ht with rfl | ht
  ·exact Nat.le_trans h1 (Nat.min_le_right _ _)
  ·exact h2 t ht
theorem q5p (b : q07) : lowT b ≤ b.st.time := (q7y _ _).1
theorem qd1 {b : q07} {t : TxS} (h : t ∈ b.live) : lowT b ≤ t.began := (q7y _ _).2 t h
theorem q20 {b : q07} {id : Int} {t : TxS} (h : ofT b id = some t) : t ∈ b.live ∧ (t.id : Int) = id := ⟨List.mem_of_find?_eq_some h, by simpa using List.find?_some h⟩
def IdsT (l : List TxS) : Prop := l.Pairwise fun x y => x.id < y.id
theorem q7s : ∀ {l : List TxS}, IdsT l → ∀ x ∈ l, ∀ y ∈ l, x.id = y.id → x = y
 | z :: l, h, x, hx, y, hy, e => by
  obtain ⟨h1, h2⟩ := List.pairwise_cons.1 h
  rcases List.mem_cons.1 hx with ex | hx2
  ·rcases List.mem_cons.1 hy with ey | hy2
   ·rw [ex, ey]
   ·have := h1 y hy2; subst ex; omega
  ·rcases List.mem_cons.1 hy with ey | hy2
   ·have := h1 x hx2; subst ey; omega
   ·exact q7s h2 x hx2 y hy2 e
theorem q3N {b : q07} (hi : IdsT b.live) (t : TxS) : IdsT (setT b t).live := by
 have e : (setT b t).live.map TxS.id = b.live.map TxS.id := by
  unfold setT
  simp only [List.map_map]
  refine List.map_congr_left fun x _ => ?_
  simp only [Function.comp]
  split
  ·rename_i h; exact h.symm
  ·rfl
 unfold IdsT at *
 have h1 : (b.live.map TxS.id).Pairwise (· < ·) := List.pairwise_map.2 hi
 rw [← e] at h1
 exact List.pairwise_map.1 h1
theorem q4u {b : q07} {t x : TxS} (h : x ∈ (setT b t).live) : (x = t ∧ ∃ y ∈ b.live, y.id = t.id) ∨ (x ∈ b.live ∧ x.id ≠ t.id) := by
 unfold setT at h
 simp only [List.mem_map] at h
 obtain ⟨y, hy, e⟩ := h
 split at e
 ·rename_i hid
  exact .inl ⟨e.symm, y, hy, hid⟩
 ·rename_i hid
  subst e
  exact .inr ⟨hy, hid⟩
theorem q5F : ∀ {l : List Wr} {last : KeyS}, (∀ w ∈ l, blt last w.key = true ∧ w.key.length ≤ 256 ∧ w.dat.length ≤ 4096 ∧ q4z ⟨0, w.gone, w.dat⟩ = true) → l.Pairwise (fun a b => blt a.key b.key = true) → q0h last l = 0
 | [], _, _, _ => rfl
 | w :: l, last, h, hp => by
  obtain ⟨h1, h2, h3, h4⟩ := h w (List.mem_cons_self ..)
  obtain ⟨p1, p2⟩ := List.pairwise_cons.1 hp
  unfold q0h
  rw [if_neg (by omega), if_neg (by rw [h1, h4]; simp)]
  exact q5F (fun x hx => ⟨p1 x hx, (h x (List.mem_cons_of_mem _ hx)).2⟩) p2
theorem q83 {l : List Wr} (h : q0h [] l = 0) (p : Wr → Bool) : q0h [] (l.filter p) = 0 := by
 obtain ⟨h1, h2⟩ := q0N h
 exact q5F (fun w hw => h1 w (List.mem_filter.1 hw).1) (h2.filter _)
theorem qds {l : List Wr} {w : Wr} (h : q0h [] l = 0) (hw : q0h [] [w] = 0) : q0h [] (putW l w) = 0 := by
 obtain ⟨h1, h2⟩ := q0N h
 obtain ⟨g1, _⟩ := q0N hw
 have gw := g1 w (List.mem_cons_self ..)
 refine q5F (fun x hx => ?_) ?_
 ·unfold putW at hx
  rcases List.mem_append.1 hx with hx | hx
  ·rcases List.mem_append.1 hx with hx | hx
   ·exact h1 x (List.mem_filter.1 hx).1
   ·rw [List.mem_singleton] at hx
    subst hx
    exact gw
  ·exact h1 x (List.mem_filter.1 hx).1
 ·unfold putW
  rw [List.append_assoc, List.pairwise_append]
  refine ⟨h2.filter _, ?_, fun x hx y hy => ?_⟩
  ·rw [List.pairwise_append]
   refine ⟨List.pairwise_singleton _ _, h2.filter _, fun x hx y hy => ?_⟩
   rw [List.mem_singleton] at hx
   subst hx
   exact (List.mem_filter.1 hy).2
  ·have hx2 : blt x.key w.key = true := (List.mem_filter.1 hx).2
   rcases List.mem_append.1 hy with hy | hy
   ·rw [List.mem_singleton] at hy
    subst hy
    exact hx2
   ·exact q0n hx2 (List.mem_filter.1 hy).2
structure FitC (F : List Sp → List Sp) (M : Nat) : Prop where
 norm : ∀ l, q0B (F l)
 has : ∀ l k, inP l k = true → inP (F l) k = true
 len : ∀ l, (F l).length ≤ M
 nil : F [] = []
section
variable {F : List Sp → List Sp} {M : Nat}
theorem FitC.join (h : FitC F M) : qfR (q8z F) :=
 ⟨fun _ _ => h.norm _, fun a b k hk => h.has _ k (by rw [q3y]; unfold inP at *; rw [List.any_append, hk, Bool.true_or]), fun a b k hk => h.has _ k (by rw [q3y]; unfold inP at *; rw [List.any_append, hk, Bool.or_true])⟩
theorem qat {J : List Sp → List Sp → List Sp} (p : RecS → Prop) (hj : ∀ a b, p a → p b → p (q2w J a b)) (n : Nat) : ∀ (m : Nat) (l : List RecS), l.length ≤ m → (∀ r ∈ l, p r) → ∀ r ∈ fitR J n l, p r
 | _, [], _, h => by unfold fitR; exact h
 | _, [x], _, h => by unfold fitR; exact h
 | 0, x :: y :: l, h, _ => by simp at h
 | m + 1, x :: y :: l, hm, h => by
  unfold fitR
  split
  ·exact qat p hj n m _ (by simp at hm ⊢; omega) fun r hr => by
    rcases List.mem_cons.1 hr with e | hr
    ·rw [e]
     exact hj x y (h x (List.mem_cons_self ..)) (h y (List.mem_cons_of_mem _ (List.mem_cons_self ..)))
    ·exact h r (List.mem_cons_of_mem _ (List.mem_cons_of_mem _ hr))
  ·exact h
theorem qcD {J : List Sp → List Sp → List Sp} (n : Nat) (l : List RecS) : (fitR J n l).length ≤ max n 1 := by
 by_cases h : l.length ≤ max n 1
 ·rw [q3L h]; exact h
 ·rw [qau n _ l (Nat.le_refl _) (by omega)]; exact Nat.le_refl _
structure q5z (M n : Nat) (r : RecS) : Prop where
 right : q21 r = true
 reads : r.reads.length ≤ M
 writes : r.writes.length ≤ M
 last : r.last ≤ max n 1
 wrote : r.writes ≠ [] → r.last ≤ n
theorem q5z.up {n n' : Nat} {r : RecS} (h : q5z M n r) (hn : n ≤ n') : q5z M n' r := ⟨h.right, h.reads, h.writes, by have := h.last; omega, fun e => Nat.le_trans (h.wrote e) hn⟩
theorem q5z.join (hF : FitC F M) {n : Nat} {a b : RecS} (ha : q5z M n a) (hb : q5z M n b) : q5z M n (q2w (q8z F) a b) := by
 refine ⟨qbu hF.join ha.right hb.right, hF.len _, hF.len _, ?_, fun hw => ?_⟩
 ·have h1 := ha.last; have h2 := hb.last
  show max a.last b.last ≤ max n 1
  omega
 ·have h1 := ha.last; have h2 := hb.last
  have g1 := ((q3R a).1 ha.right)
  have g2 := ((q3R b).1 hb.right)
  show max a.last b.last ≤ n
  by_cases ea : a.writes = []
  ·by_cases eb : b.writes = []
   ·exfalso
    apply hw
    show F (q09 (a.writes ++ b.writes)) = []
    rw [ea, eb]
    exact hF.nil
   ·have := hb.wrote eb
    omega
  ·have := ha.wrote ea
   omega
structure OkTx (L : LimT) (M : Nat) (b : q07) : Prop where
 ok : OkS b.st
 ins : InS L.s b.st
 ids : IdsT b.live
 last : ∀ t ∈ b.live, 1 ≤ t.id ∧ t.id ≤ b.last
 began : ∀ t ∈ b.live, t.began ≤ b.st.time
 ws : ∀ t ∈ b.live, q0h [] t.ws = 0
 marks : ∀ t ∈ b.live, q0B t.marks ∧ t.marks.length ≤ M
 recs : ∀ r ∈ b.recs, q5z M b.st.time r
 few : (b.live.length : Int) ≤ L.live
 nrecs : b.recs.length ≤ q6z L
theorem qdu (L : LimT) : 1 ≤ q6z L := by unfold q6z; omega
theorem qaI {L : LimT} (hm : MayS L.s = true) (hl : 0 ≤ L.live) : OkTx L M q3t :=
 ⟨ok_none, qcQ hm, List.Pairwise.nil, (fun _ h => by cases h), (fun _ h => by cases h), (fun _ h => by cases h), (fun _ h => by cases h), (fun _ h => by cases h), by simpa [q3t] using hl, Nat.zero_le _⟩
theorem OkTx.set {L : LimT} {b : q07} (h : OkTx L M b) {u t : TxS} (hu : u ∈ b.live) (e1 : t.id = u.id) (e2 : t.began = u.began) (hw : q0h [] t.ws = 0) (hm : q0B t.marks ∧ t.marks.length ≤ M) : OkTx L M (setT b t) := by
 have hin : ∀ x ∈ (setT b t).live, x = t ∨ x ∈ b.live := fun x hx => by
  rcases q4u hx with ⟨e, _⟩ | ⟨hx, _⟩
  ·exact .inl e
  ·exact .inr hx
 refine ⟨h.ok, h.ins, q3N h.ids t, fun x hx => ?_, fun x hx => ?_, fun x hx => ?_, fun x hx => ?_, h.recs, ?_, h.nrecs⟩
 ·rcases hin x hx with e | hx
  ·rw [e, e1]; exact h.last u hu
  ·exact h.last x hx
 ·rcases hin x hx with e | hx
  ·rw [e, e2]; exact h.began u hu
  ·exact h.began x hx
 ·rcases hin x hx with e | hx
  ·rw [e]; exact hw
  ·exact h.ws x hx
 ·rcases hin x hx with e | hx
  ·rw [e]; exact hm
  ·exact h.marks x hx
 ·show (((b.live.map fun x => if x.id = t.id then t else x).length : Nat) : Int) ≤ L.live
  rw [List.length_map]
  exact h.few
theorem OkTx.ends (hF : FitC F M) {L : LimT} {b : q07} (t : TxS) (hok : OkS b.st) (hin : InS L.s b.st) (hids : IdsT b.live) (hlast : ∀ t ∈ b.live, 1 ≤ t.id ∧ t.id ≤ b.last) (hb : ∀ t ∈ b.live, t.began ≤ b.st.time) (hws : ∀ t ∈ b.live, q0h [] t.ws = 0)
  (hm : ∀ t ∈ b.live, q0B t.marks ∧ t.marks.length ≤ M) (hr : ∀ r ∈ b.recs, q5z M b.st.time r) (hf : (b.live.length : Int) ≤ L.live) : OkTx L M (q2L F L b t) := by
 have hmem : ∀ x ∈ (q2L F L b t).live, x ∈ b.live := fun x hx => (List.mem_filter.1 hx).1
 refine ⟨hok, hin, List.Pairwise.filter _ hids, fun x hx => hlast x (hmem x hx), fun x hx => hb x (hmem x hx), fun x hx => hws x (hmem x hx), fun x hx => hm x (hmem x hx), ?_, ?_, ?_⟩
 ·exact qat (q5z M b.st.time) (fun a c => q5z.join hF) _ _ _ (Nat.le_refl _) fun r hr2 => hr r (List.mem_filter.1 hr2).1
 ·have h1 : (b.live.filter (fun x => decide (x.id ≠ t.id))).length ≤ b.live.length := List.length_filter_le _ _
  show (((b.live.filter (fun x => decide (x.id ≠ t.id))).length : Nat) : Int) ≤ L.live
  omega
 ·have := qdu L
  have h1 : (q2L F L b t).recs.length ≤ max (q6z L) 1 := qcD _ _
  omega
theorem OkTx.end_ (hF : FitC F M) {L : LimT} {b : q07} (h : OkTx L M b) (t : TxS) : OkTx L M (q2L F L b t) :=
 OkTx.ends hF t h.ok h.ins h.ids h.last h.began h.ws h.marks h.recs h.few
theorem q70 (hF : FitC F M) (st : PS) (t : TxS) : ∀ (l : List Wr) (m : List Sp), q0B m ∧ m.length ≤ M → q0B (l.foldl (fun m w => if q1O st t w = true then addF F m (q0j w.key) else m) m) ∧ (l.foldl (fun m w => if q1O st t w = true then addF F m (q0j w.key) else m) m).length ≤ M
 | [], _, h => h
 | w :: l, m, h => by
  rw [List.foldl_cons]
  refine q70 hF st t l _ ?_
  split
  ·exact ⟨hF.norm _, hF.len _⟩
  ·exact h
theorem OkTx.commit (hF : FitC F M) {L : LimT} {b : q07} (h : OkTx L M b) (id : Int) : OkTx L M (q0q F L b id).1 := by
 unfold q0q
 cases ht : ofT b id with
 | none => exact h
 | some t =>
  obtain ⟨hmem, _⟩ := q20 ht
  simp only
  split
  ·exact h.end_ hF t
  ·cases hj : q1B b.recs (askT F b.st t) with
   | none => exact h.end_ hF t
   | some out =>
    simp only
    have hok := qbE h.ok L.s (q08 b.st t) (lowT b)
    have hins := qcP h.ok h.ins (q08 b.st t) (lowT b)
    have htm := qab L.s b.st (q08 b.st t) (lowT b)
    have hcc := q2c L.s b.st (q08 b.st t) (lowT b)
    have hsc : q0h [] (q08 b.st t) = 0 := q83 (h.ws t hmem) _
    have hmk := q70 hF b.st t t.ws t.marks (h.marks t hmem)
    have hbg := h.began t hmem
    have hn : (q0a L.s b.st (q08 b.st t) (lowT b)).2.2 = 0 → (q0a L.s b.st (q08 b.st t) (lowT b)).2.1 = (q0a L.s b.st (q08 b.st t) (lowT b)).1.time ∧ ((q08 b.st t) ≠ [] → 1 ≤ (q0a L.s b.st (q08 b.st t) (lowT b)).2.1) := fun he => by
     rcases hcc with ⟨e, hc⟩ | ⟨e, _, hl⟩ | ⟨e, _⟩ | ⟨e, _⟩ | ⟨e, _⟩ <;> rw [e] at he ⊢
     ·exact absurd hsc hc
     ·exact ⟨rfl, fun hne => absurd hl hne⟩
     ·cases he
     ·exact ⟨rfl, fun _ => by show 1 ≤ b.st.time + 1; omega⟩
     ·cases he
    generalize hcs : q0a L.s b.st (q08 b.st t) (lowT b) = cs at hok hins htm hn ⊢
    split
    ·exact OkTx.ends hF t hok hins h.ids h.last (fun x hx => Nat.le_trans (h.began x hx) htm) h.ws h.marks (fun r hr => (h.recs r hr).up htm) h.few
    ·rename_i he
     have he2 : cs.2.2 = 0 := Decidable.of_not_not he
     obtain ⟨hn1, hn2⟩ := hn he2
     refine OkTx.ends hF t hok hins h.ids h.last (fun x hx => Nat.le_trans (h.began x hx) htm) h.ws h.marks (fun r hr => ?_) h.few
     rcases List.mem_append.1 hr with hr | hr
     ·exact (h.recs r hr).up htm
     ·rw [List.mem_singleton] at hr
      subst hr
      refine ⟨(q3R _).2 ⟨?_, Nat.le_refl _, ?_, hmk.1, hF.norm _⟩, hmk.2, hF.len _, ?_, fun hw => ?_⟩
      ·show 1 ≤ max cs.2.1 1
       omega
      ·show t.began ≤ max cs.2.1 1
       omega
      ·show max cs.2.1 1 ≤ max cs.1.time 1
       omega
      ·show max cs.2.1 1 ≤ cs.1.time
       have : q08 b.st t ≠ [] := fun e => hw (by
        show q1u F (q08 b.st t) = []
        rw [e]
        exact hF.nil)
       have := hn2 this
       omega
theorem OkTx.does (hF : FitC F M) {L : LimT} {b : q07} (h : OkTx L M b) (o : OpT) : OkTx L M (q1X F L b o).1 := by
 unfold q1X
 split
 ·unfold q0M
  split
  ·exact h
  ·rename_i hfull
   refine ⟨h.ok, h.ins, ?_, fun x hx => ?_, fun x hx => ?_, fun x hx => ?_, fun x hx => ?_, h.recs, ?_, h.nrecs⟩
   ·exact List.pairwise_append.2 ⟨h.ids, List.pairwise_singleton _ _, fun x hx y hy => by
     rw [List.mem_singleton] at hy
     subst hy
     have := (h.last x hx).2
     show x.id < b.last + 1
     omega⟩
   ·rcases List.mem_append.1 hx with hx | hx
    ·have := h.last x hx
     show 1 ≤ x.id ∧ x.id ≤ b.last + 1
     omega
    ·rw [List.mem_singleton] at hx
     subst hx
     exact ⟨Nat.le_add_left _ _, Nat.le_refl _⟩
   ·rcases List.mem_append.1 hx with hx | hx
    ·exact h.began x hx
    ·rw [List.mem_singleton] at hx
     subst hx
     exact Nat.le_refl _
   ·rcases List.mem_append.1 hx with hx | hx
    ·exact h.ws x hx
    ·rw [List.mem_singleton] at hx
     subst hx
     rfl
   ·rcases List.mem_append.1 hx with hx | hx
    ·exact h.marks x hx
    ·rw [List.mem_singleton] at hx
     subst hx
     exact ⟨trivial, Nat.zero_le _⟩
   ·show (((b.live ++ [_]).length : Nat) : Int) ≤ L.live
    rw [List.length_append, List.length_singleton]
    omega
 ·split
  ·unfold q12
   cases ht : ofT b o.id with
   | none => exact h
   | some t =>
    simp only
    obtain ⟨hmem, _⟩ := q20 ht
    split
    ·exact h
    ·exact h.set hmem rfl rfl (h.ws t hmem) ⟨hF.norm _, hF.len _⟩
  ·split
   ·unfold q1L
    cases ht : ofT b o.id with
    | none => exact h
    | some t =>
     simp only
     obtain ⟨hmem, _⟩ := q20 ht
     split
     ·exact h
     ·exact h.set hmem rfl rfl (h.ws t hmem) ⟨hF.norm _, hF.len _⟩
   ·split
    ·unfold q0H
     cases ht : ofT b o.id with
     | none => exact h
     | some t =>
      simp only
      obtain ⟨hmem, _⟩ := q20 ht
      split
      ·exact h
      ·rename_i hc
       exact h.set hmem rfl rfl (qds (h.ws t hmem) (Decidable.of_not_not hc)) (h.marks t hmem)
    ·split
     ·exact h.commit hF _
     ·split
      ·unfold q1P
       cases ht : ofT b o.id with
       | none => exact h
       | some t => exact h.end_ hF t
      ·split
       ·exact ⟨q2H h.ok _, ⟨q2P h.ok.sort h.ok.full _ h.ins.1, h.ins.2⟩, h.ids, h.last, h.began, h.ws, h.marks, h.recs, h.few, h.nrecs⟩
       ·exact h
end
end Go.Proofs.YtdpbllacfljmoaaGreat
