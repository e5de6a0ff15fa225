import Derived.Test.YtdpbllacfljmoaaGreatZF00
import Derived.Test.YtdpbllacfljmoaaGreatZF05
import Derived.Test.YtdpbllacfljmoaaGreatZF01
import Derived.Test.YtdpbllacfljmoaaGreatZF02
set_option maxRecDepth 100000
set_option maxHeartbeats 16000000
set_option linter.unusedVariables false
namespace Go.Proofs.YtdpbllacfljmoaaGreat
open Go.RowKit
def q07 (s : Sp) : List Value := [.string (bs s.lo), .string (bs s.hi)]
theorem spF : q12 2 q07 := ⟨by decide, fun _ => rfl, fun x v hv => by
 simp only [q07, List.mem_cons, List.not_mem_nil, or_false] at hv
 rcases hv with rfl | rfl <;> rfl⟩
def q0T (s : Sp) : Value := .agg #[.string (bs s.lo), .string (bs s.hi)]
theorem qb9 : q2a Tryz.prog 131 2 32 := q2a.of (by kernel_rfl)
def ChI (w : World) (hi : Nat) (A : Option Addr) (c : Nat) (l : List Sp) : Prop := l.length ≤ c ∧ c ≤ maxLen ∧ (A = none → c = 0) ∧ RowG q07 w 0 hi A l
section
variable {w w' : World} {hi hi' B : Nat} {A : Option Addr} {c : Nat} {l : List Sp}
theorem ChI.below (h : ChI w hi A c l) (hb : Below B w w') (hB : hi ≤ B) (hh : hi ≤ hi') : ChI w' hi' A c l := ⟨h.1, h.2.1, h.2.2.1, (h.2.2.2.below hb hB).wide (Nat.le_refl _) hh⟩
theorem ChI.none_ (w : World) (hi : Nat) : ChI w hi none 0 [] := ⟨Nat.le_refl _, Nat.zero_le _, fun _ => rfl, RowG.nil_⟩
theorem ChI.at_ (h : ChI w hi A c l) {j : Nat} (hj : j < l.length) : ∃ b o, A = some ⟨b, o, none⟩ ∧ b < hi ∧ w.cell? ⟨b, o + j * 2, none⟩ = some (.string (bs (l[j]'hj).lo)) ∧ w.cell? ⟨b, o + j * 2 + 1, none⟩ = some (.string (bs (l[j]'hj).hi)) := by
 obtain ⟨b, o, e, _, hb, hc⟩ := h.2.2.2.at_ spF hj
 exact ⟨b, o, e, hb, by simpa using hc 0 _ rfl, hc 1 _ rfl⟩
theorem OwnG.chI {e : TypeId} {lo : Nat} {v : Value} (h : OwnG e 2 q07 w lo v l) : ∃ A c, v = .slice A l.length c ∧ ChI w w.heap.size A c l := by
 obtain ⟨A, c, rfl, k1, k2, k3, k4⟩ := h.form
 exact ⟨A, c, rfl, k1, k2, k3, k4.wide (Nat.zero_le _) (Nat.le_refl _)⟩
end
def RetI (m : List Sp) (w : World) (r : Ending) (w' : World) : Prop := ∃ A c, r = .returned (.slice A m.length c) ∧ ChI w' w'.heap.size A c m ∧ Below w.heap.size w w'
def q4J (a b : List Sp) : Bool := decide (a = b)
structure RecS where
 first : Nat
 last : Nat
 began : Nat
 out : Nat
 reads : List Sp
 writes : List Sp
def q7m (r : RecS) : Bool := decide (1 ≤ r.first) && decide (r.first ≤ r.last) && decide (r.began ≤ r.last) && q3F r.reads && q3F r.writes
def q0c (l : List RecS) (low : Nat) : List RecS := l.filter fun r => decide (low < r.last)
def qa1 (a b : RecS) : Bool := if b.writes.isEmpty then decide (a.first ≤ b.began) else decide (a.first ≤ b.last)
def outB (t a : RecS) : Bool := !(a.out == 0) && (!t.writes.isEmpty || decide (a.out ≤ t.began))
def qhf (l : List RecS) (t a : RecS) : Bool := l.any fun b => q28 b.reads t.writes && qa1 a b
def q3v (l : List RecS) (t : RecS) : List RecS := l.filter fun a => q28 t.reads a.writes
def q2p (o : Option Nat) (a : RecS) : Option Nat := match o with
 | none => some a.first
 | some x => some (if a.first < x then a.first else x)
def outR (l : List RecS) : Nat := (l.foldl q2p none).getD 0
def q1M (l : List RecS) (t : RecS) : Option Nat :=
 if (q3v (q0c l t.began) t).any (fun a => outB t a || qhf (q0c l t.began) t a) = true then none else some (outR (q3v (q0c l t.began) t))
theorem q35 : ∀ (l : List RecS) (o : Option Nat), (∀ a ∈ l, ∃ x, l.foldl q2p o = some x ∧ x ≤ a.first) ∧ (∀ y, o = some y → ∃ x, l.foldl q2p o = some x ∧ x ≤ y) ∧
  (∀ x, l.foldl q2p o = some x → o = some x ∨ ∃ a ∈ l, x = a.first)
 | [], o => ⟨(fun a ha => by cases ha), (fun y h => ⟨y, h, Nat.le_refl _⟩), fun x h => .inl h⟩
 | b :: l, o => by
  have hs : ∃ y, q2p o b = some y ∧ y ≤ b.first ∧ (∀ z, o = some z → y ≤ z) ∧ (o = some y ∨ y = b.first) := by
   cases o with
   | none => exact ⟨_, rfl, Nat.le_refl _, (fun z h => by cases h), .inr rfl⟩
   | some z =>
    by_cases h : b.first < z
    ·exact ⟨b.first, by simp [q2p, h], Nat.le_refl _, (fun u hu => by cases hu; omega), .inr rfl⟩
    ·exact ⟨z, by simp [q2p, h], by omega, (fun u hu => by cases hu; omega), .inl rfl⟩
  obtain ⟨y, hy, h1, h2, h3⟩ := hs
  obtain ⟨k1, k2, k3⟩ := q35 l (some y)
  rw [List.foldl_cons, hy]
  obtain ⟨x, hx, hxy⟩ := k2 y rfl
  refine ⟨fun a ha => ?_, fun z hz => ⟨x, hx, Nat.le_trans hxy (h2 z hz)⟩, fun u hu => ?_⟩
  ·rcases List.mem_cons.1 ha with rfl | ha
   ·exact ⟨x, hx, Nat.le_trans hxy h1⟩
   ·exact k1 a ha
  ·rcases k3 u hu with h | ⟨a, ha, e⟩
   ·cases h
    rcases h3 with h | h
    ·exact .inl h
    ·exact .inr ⟨b, List.mem_cons_self .., h⟩
   ·exact .inr ⟨a, List.mem_cons_of_mem _ ha, e⟩
theorem qgQ {l : List RecS} {a : RecS} (ha : a ∈ l) : outR l ≤ a.first := by
 obtain ⟨x, hx, h⟩ := (q35 l none).1 a ha
 unfold outR
 rw [hx]
 exact h
theorem qgl {l : List RecS} (h : l ≠ []) : ∃ a ∈ l, outR l = a.first := by
 match l, h with
 | b :: l, _ =>
  obtain ⟨x, hx, _⟩ := (q35 (b :: l) none).1 b (List.mem_cons_self ..)
  rcases (q35 (b :: l) none).2.2 x hx with h | ⟨a, ha, e⟩
  ·cases h
  ·exact ⟨a, ha, by unfold outR; rw [hx]; exact e⟩
def q3t (a b : Nat) : Nat := if a = 0 ∨ b = 0 then max a b else min a b
def q2B (J : List Sp → List Sp → List Sp) (a b : RecS) : RecS := ⟨min a.first b.first, max a.last b.last, max a.began b.began, q3t a.out b.out, J a.reads b.reads, J a.writes b.writes⟩
structure qgw (J : List Sp → List Sp → List Sp) : Prop where
 norm : ∀ a b, q0D (J a b)
 left : ∀ a b k, inP a k = true → inP (J a b) k = true
 right : ∀ a b k, inP b k = true → inP (J a b) k = true
def fitR (J : List Sp → List Sp → List Sp) : Nat → List RecS → List RecS
 | n, a :: b :: l => if max n 1 < (a :: b :: l).length then fitR J n (q2B J a b :: l) else a :: b :: l
 | _, l => l
 termination_by _ l => l.length
section
variable {J : List Sp → List Sp → List Sp}
theorem q3Y (r : RecS) : q7m r = true ↔ 1 ≤ r.first ∧ r.first ≤ r.last ∧ r.began ≤ r.last ∧ q0D r.reads ∧ q0D r.writes := by
 simp only [q7m, Bool.and_eq_true, decide_eq_true_eq, q6w]
 constructor
 ·rintro ⟨⟨⟨⟨h1, h2⟩, h3⟩, h4⟩, h5⟩
  exact ⟨h1, h2, h3, h4, h5⟩
 ·rintro ⟨h1, h2, h3, h4, h5⟩
  exact ⟨⟨⟨⟨h1, h2⟩, h3⟩, h4⟩, h5⟩
theorem qbP (hJ : qgw J) {a b : RecS} (ha : q7m a = true) (hb : q7m b = true) : q7m (q2B J a b) = true := by
 rw [q3Y] at *
 obtain ⟨h1, h2, h3, _, _⟩ := ha
 obtain ⟨g1, g2, g3, _, _⟩ := hb
 refine ⟨?_, ?_, ?_, hJ.norm _ _, hJ.norm _ _⟩
 ·show 1 ≤ min a.first b.first
  omega
 ·show min a.first b.first ≤ max a.last b.last
  omega
 ·show max a.began b.began ≤ max a.last b.last
  omega
theorem q3R {n : Nat} {l : List RecS} (h : l.length ≤ max n 1) : fitR J n l = l := by
 match l, h with
 | [], _ => unfold fitR; rfl
 | [a], _ => unfold fitR; rfl
 | a :: b :: l, h =>
  unfold fitR
  rw [if_neg (by omega)]
theorem qaO (n : Nat) : ∀ (m : Nat) (l : List RecS), l.length ≤ m → max n 1 ≤ l.length → (fitR J n l).length = max n 1
 | _, [], _, h2 => by simp at h2
 | _, [x], _, h2 => by unfold fitR; simp at h2 ⊢; omega
 | 0, x :: y :: l, h, _ => by simp at h
 | m + 1, x :: y :: l, h, h2 => by
  unfold fitR
  split
  ·rename_i hlt
   exact qaO n m _ (by simp at h ⊢; omega) (by simp at hlt ⊢; omega)
  ·rename_i hlt
   simp only [List.length_cons] at hlt h2 ⊢
   omega
theorem qd6 {n : Nat} {a b : RecS} {l : List RecS} (h : max n 1 < l.length + 2) : fitR J n (a :: b :: l) = fitR J n (q2B J a b :: l) := by
 rw [fitR, if_pos (by simpa using h)]
end
open Go.RowKit
structure MR where
 r : RecS
 A : Option Addr
 c : Nat
 B : Option Addr
 d : Nat
def q0d (x : MR) : List Value := [.int .u64 x.r.first, .int .u64 x.r.last, .int .u64 x.r.began, .int .u64 x.r.out, .slice x.A x.r.reads.length x.c, .slice x.B x.r.writes.length x.d]
def q0u (x : MR) : Value := .agg #[.int .u64 x.r.first, .int .u64 x.r.last, .int .u64 x.r.began, .int .u64 x.r.out, .slice x.A x.r.reads.length x.c, .slice x.B x.r.writes.length x.d]
theorem mrF : q12 6 q0d := ⟨by decide, fun _ => rfl, fun x v hv => by
 simp only [q0d, List.mem_cons, List.not_mem_nil, or_false] at hv
 rcases hv with rfl | rfl | rfl | rfl | rfl | rfl <;> rfl⟩
theorem qdJ : q2a Tryz.prog 86 6 80 := q2a.of (by kernel_rfl)
structure OkMR (w : World) (hi : Nat) (x : MR) : Prop where
 first : x.r.first < 18446744073709551616
 last : x.r.last < 18446744073709551616
 began : x.r.began < 18446744073709551616
 out : x.r.out < 18446744073709551616
 reads : ChI w hi x.A x.c x.r.reads
 writes : ChI w hi x.B x.d x.r.writes
def RowR (w : World) (hi : Nat) (A : Option Addr) (l : List RecS) : Prop := ∃ ms : List MR, ms.map MR.r = l ∧ RowG q0d w 0 hi A ms ∧ ∀ x ∈ ms, OkMR w hi x
def ChR (w : World) (hi : Nat) (A : Option Addr) (c : Nat) (l : List RecS) : Prop := l.length ≤ c ∧ c ≤ maxLen ∧ (A = none → c = 0) ∧ RowR w hi A l
section
variable {w w' : World} {hi hi' B : Nat} {A : Option Addr} {c : Nat} {l : List RecS} {x : MR}
theorem OkMR.below (h : OkMR w hi x) (hb : Below B w w') (hB : hi ≤ B) (hh : hi ≤ hi') : OkMR w' hi' x := ⟨h.first, h.last, h.began, h.out, h.reads.below hb hB hh, h.writes.below hb hB hh⟩
theorem RowR.below (h : RowR w hi A l) (hb : Below B w w') (hB : hi ≤ B) (hh : hi ≤ hi') : RowR w' hi' A l := by
 obtain ⟨ms, e, h1, h2⟩ := h
 exact ⟨ms, e, (h1.below hb hB).wide (Nat.le_refl _) hh, fun x hx => (h2 x hx).below hb hB hh⟩
theorem ChR.below (h : ChR w hi A c l) (hb : Below B w w') (hB : hi ≤ B) (hh : hi ≤ hi') : ChR w' hi' A c l := ⟨h.1, h.2.1, h.2.2.1, h.2.2.2.below hb hB hh⟩
theorem RowR.at_ (h : RowR w hi A l) {j : Nat} (hj : j < l.length) :
  ∃ b o, A = some ⟨b, o, none⟩ ∧ b < hi ∧ ∃ x : MR, x.r = l[j]'hj ∧ OkMR w hi x ∧ w.cell? ⟨b, o + j * 6, none⟩ = some (.int .u64 x.r.first) ∧ w.cell? ⟨b, o + j * 6 + 1, none⟩ = some (.int .u64 x.r.last) ∧ w.cell? ⟨b, o + j * 6 + 2, none⟩ = some (.int .u64 x.r.began) ∧
   w.cell? ⟨b, o + j * 6 + 3, none⟩ = some (.int .u64 x.r.out) ∧ w.cell? ⟨b, o + j * 6 + 4, none⟩ = some (.slice x.A x.r.reads.length x.c) ∧ w.cell? ⟨b, o + j * 6 + 5, none⟩ = some (.slice x.B x.r.writes.length x.d) := by
 obtain ⟨ms, rfl, h1, h2⟩ := h
 have hj' : j < ms.length := by simpa using hj
 obtain ⟨b, o, e, _, hb, hc⟩ := h1.at_ mrF hj'
 exact ⟨b, o, e, hb, ms[j], by simp, h2 _ (List.getElem_mem hj'), by simpa using hc 0 _ rfl, hc 1 _ rfl, hc 2 _ rfl, hc 3 _ rfl, hc 4 _ rfl, hc 5 _ rfl⟩
theorem OwnG.chR {e : TypeId} {lo : Nat} {v : Value} {ms : List MR} (h : OwnG e 6 q0d w lo v ms) (hm : ∀ x ∈ ms, OkMR w w.heap.size x) : ∃ A c, v = .slice A ms.length c ∧ ChR w w.heap.size A c (ms.map MR.r) := by
 obtain ⟨A, c, rfl, k1, k2, k3, k4⟩ := h.form
 exact ⟨A, c, rfl, by rw [List.length_map]; exact k1, k2, k3, ms, rfl, k4.wide (Nat.zero_le _) (Nat.le_refl _), hm⟩
end
def q89 (m : List RecS) (w : World) (r : Ending) (w' : World) : Prop := ∃ A c, r = .returned (.slice A m.length c) ∧ ChR w' w'.heap.size A c m ∧ Below w.heap.size w w'
def qcm (m : RecS) (w : World) (r : Ending) (w' : World) : Prop := ∃ x : MR, x.r = m ∧ r = .returned (q0u x) ∧ OkMR w' w'.heap.size x ∧ Below w.heap.size w w'
def q3U : Option Nat → Value
 | some n => .tuple #[.int .u64 n, .int .i64 0]
 | none => .tuple #[.int .u64 0, .int .i64 101]
theorem q6h {l : List RecS} {low j : Nat} (hj : j < l.length) : q0c (l.take (j + 1)) low = q0c (l.take j) low ++ (if low < (l[j]'hj).last then [l[j]'hj] else []) := by
 unfold q0c
 rw [List.take_succ_eq_append_getElem hj, List.filter_append]
 congr 1
 by_cases h : low < (l[j]'hj).last
 ·rw [if_pos h, List.filter_cons, if_pos (by simpa using h)]; rfl
 ·rw [if_neg h, List.filter_cons, if_neg (by simpa using h)]; rfl
theorem q54 (l : List RecS) (low : Nat) : (q0c l low).length ≤ l.length := List.length_filter_le _ _
def q0C (l : List RecS) : Nat := (l.map fun r => r.reads.length + r.writes.length).sum
theorem qfb {l : List RecS} {r : RecS} (h : r ∈ l) : r.reads.length + r.writes.length ≤ q0C l := by
 induction l with
 | nil => cases h
 | cons x l ih =>
  have e : q0C (x :: l) = (x.reads.length + x.writes.length) + q0C l := by simp [q0C]
  rcases List.mem_cons.1 h with rfl | h
  ·omega
  ·have := ih h
   omega
theorem q8Y {J : List Sp → List Sp → List Sp} (hJ : ∀ a b, (J a b).length ≤ a.length + b.length) (a b : RecS) (l : List RecS) : q0C (q2B J a b :: l) ≤ q0C (a :: b :: l) := by
 have h1 := hJ a.reads b.reads
 have h2 := hJ a.writes b.writes
 have e1 : q0C (q2B J a b :: l) = ((J a.reads b.reads).length + (J a.writes b.writes).length) + q0C l := by simp [q0C, q2B]
 have e2 : q0C (a :: b :: l) = (a.reads.length + a.writes.length) + ((b.reads.length + b.writes.length) + q0C l) := by simp [q0C]
 omega
structure LimT where
 s : LimS
 marks : Int
 recs : Int
 live : Int
structure TxS where
 id : Nat
 began : Nat
 start : Nat
 marks : List Sp
 ws : List Wr
structure q47 where
 id : Nat
 began : Nat
 at_ : Nat
 start : Nat
 end_ : Nat
 reads : List Sp
 writes : List Sp
structure q08 where
 st : PS
 live : List TxS
 recs : List RecS
 hist : List q47
 last : Nat
 event : Nat
def q2Z : q08 := ⟨⟨0, []⟩, [], [], [], 0, 0⟩
def q97 (L : LimT) : Nat := (max L.recs 1).toNat
def q0j (k : KeyS) : Sp := ⟨k, k ++ [0]⟩
def lowT (b : q08) : Nat := b.live.foldl (fun l t => min l t.began) b.st.time
def ofT (b : q08) (id : Int) : Option TxS := b.live.find? fun t => decide ((t.id : Int) = id)
def setT (b : q08) (t : TxS) : q08 := ⟨b.st, b.live.map fun x => if x.id = t.id then t else x, b.recs, b.hist, b.last, b.event⟩
def errT (e : Int) : q2X := ⟨0, e, [], false, []⟩
def q0N (L : LimT) (b : q08) : q08 × q2X :=
 if L.live ≤ (b.live.length : Int) then (b, errT 5) else (⟨b.st, b.live ++ [⟨b.last + 1, b.st.time, b.event + 1, [], []⟩], b.recs, b.hist, b.last + 1, b.event + 1⟩, ⟨b.last + 1, 0, [], false, []⟩)
def qc1 (l : List (KeyS × List UInt8)) (w : Wr) : List (KeyS × List UInt8) := l.filter (fun p => blt p.1 w.key) ++ (if w.gone = true then [] else [(w.key, w.dat)]) ++ l.filter (fun p => blt w.key p.1)
def q4h (lo hi : KeyS) (ws : List Wr) (l : List (KeyS × List UInt8)) : List (KeyS × List UInt8) := ws.foldl (fun l w => if hasS ⟨lo, hi⟩ w.key = true then qc1 l w else l) l
def putW (ws : List Wr) (w : Wr) : List Wr := ws.filter (fun x => blt x.key w.key) ++ [w] ++ ws.filter (fun x => blt w.key x.key)
def q0J (b : q08) (id : Int) (w : Wr) : q08 × q2X := match ofT b id with
 | none => (b, errT 4)
 | some t => if q0h [] [w] ≠ 0 then (b, errT (q0h [] [w])) else (setT b ⟨t.id, t.began, t.start, t.marks, putW t.ws w⟩, errT 0)
def q1C (st : PS) (t : TxS) (w : Wr) : Bool := w.gone && (q1v st.K w.key t.began).isNone
def q06 (st : PS) (t : TxS) : List Wr := t.ws.filter fun w => !q1C st t w
def q4v (st : PS) (t : TxS) : Bool := t.ws.any fun w => decide (t.began < q24 (q03 st.K w.key))
section
variable (F : List Sp → List Sp)
def q8P (a b : List Sp) : List Sp := F (q0a (a ++ b))
def addF (m : List Sp) (s : Sp) : List Sp := F (q0a (m ++ [s]))
def q36 (t : TxS) (s : Sp) : TxS := ⟨t.id, t.began, t.start, addF F t.marks s, t.ws⟩
def q16 (b : q08) (id : Int) (key : KeyS) : q08 × q2X := match ofT b id with
 | none => (b, errT 4)
 | some t => match t.ws.find? fun w => w.key == key with
  | some w => (b, ⟨0, 0, w.dat, !w.gone, []⟩)
  | none => (setT b (q36 F t (q0j key)), ⟨0, 0, (q1v b.st.K key t.began).getD [], (q1v b.st.K key t.began).isSome, []⟩)
def q1P (b : q08) (id : Int) (lo hi : KeyS) : q08 × q2X := match ofT b id with
 | none => (b, errT 4)
 | some t => if q0f ⟨lo, hi⟩ = false then (b, errT 1) else (setT b (q36 F t ⟨lo, hi⟩), ⟨0, 0, [], false, q4h lo hi t.ws (q1w b.st.K lo hi t.began)⟩)
def q27 (L : LimT) (b : q08) (t : TxS) : q08 :=
 ⟨b.st, b.live.filter (fun x => decide (x.id ≠ t.id)), fitR (q8P F) (q97 L) (q0c b.recs (lowT ⟨b.st, b.live.filter (fun x => decide (x.id ≠ t.id)), b.recs, b.hist, b.last, b.event⟩)), b.hist, b.last, b.event⟩
def q1y (st : PS) (t : TxS) : List Sp := t.ws.foldl (fun m w => if q1C st t w = true then addF F m (q0j w.key) else m) t.marks
def q1F (l : List Wr) : List Sp := F (l.foldl (fun m w => q0a (m ++ [q0j w.key])) [])
def askT (st : PS) (t : TxS) : RecS := ⟨0, 0, t.began, 0, q1y F st t, q1F F (q06 st t)⟩
def q0r (L : LimT) (b : q08) (id : Int) : q08 × q2X := match ofT b id with
 | none => (b, errT 4)
 | some t =>
  if q4v b.st t = true then (q27 F L b t, errT 100)
  else match q1M b.recs (askT F b.st t) with
   | none => (q27 F L b t, errT 101)
   | some out =>
    if (q09 L.s b.st (q06 b.st t) (lowT b)).2.2 ≠ 0 then (q27 F L ⟨(q09 L.s b.st (q06 b.st t) (lowT b)).1, b.live, b.recs, b.hist, b.last, b.event⟩ t, errT (q09 L.s b.st (q06 b.st t) (lowT b)).2.2)
    else (q27 F L ⟨(q09 L.s b.st (q06 b.st t) (lowT b)).1, b.live,
      b.recs ++ [⟨max (q09 L.s b.st (q06 b.st t) (lowT b)).2.1 1, max (q09 L.s b.st (q06 b.st t) (lowT b)).2.1 1, t.began, out, q1y F b.st t, q1F F (q06 b.st t)⟩],
      b.hist ++ [⟨t.id, t.began, (q09 L.s b.st (q06 b.st t) (lowT b)).2.1, t.start, b.event + 1, q1y F b.st t, q1F F (q06 b.st t)⟩], b.last, b.event + 1⟩ t,
     ⟨(q09 L.s b.st (q06 b.st t) (lowT b)).2.1, 0, [], false, []⟩)
def q1X (L : LimT) (b : q08) (id : Int) : q08 × q2X := match ofT b id with
 | none => (b, errT 4)
 | some t => (q27 F L b t, errT 0)
def q15 (b : q08) : q08 × q2X :=
 (⟨⟨b.st.time, q05 b.st.K (lowT b)⟩, b.live, b.recs, b.hist, b.last, b.event⟩, ⟨q1q b.st.K - q1q (q05 b.st.K (lowT b)), 0, [], false, []⟩)
structure OpT where
 what : Int
 id : Int
 w : Wr
 hi : KeyS
def q1g (L : LimT) (b : q08) (o : OpT) : q08 × q2X :=
 if o.what = 0 then q0N L b
 else if o.what = 1 then q16 F b o.id o.w.key
 else if o.what = 2 then q1P F b o.id o.w.key o.hi
 else if o.what = 3 then q0J b o.id o.w
 else if o.what = 4 then q0r F L b o.id
 else if o.what = 5 then q1X F L b o.id
 else if o.what = 6 then q15 b
 else (b, qgU)
end
theorem q7Q : ∀ (l : List TxS) (n : Nat), l.foldl (fun l t => min l t.began) n ≤ n ∧ ∀ t ∈ l, l.foldl (fun l t => min l t.began) n ≤ t.began
 | [], n => ⟨Nat.le_refl _, fun t h => by cases h⟩
 | x :: l, n => by
  obtain ⟨h1, h2⟩ := q7Q l (min n x.began)
  refine ⟨Nat.le_trans h1 (Nat.min_le_left _ _), fun t ht => ?_⟩
  rcases List.mem_cons.1 ht with rfl | ht
  ·exact Nat.le_trans h1 (Nat.min_le_right _ _)
  ·exact h2 t ht
theorem q4C (b : q08) : lowT b ≤ b.st.time := (q7Q _ _).1
theorem q6p {b : q08} {t : TxS} (h : t ∈ b.live) : lowT b ≤ t.began := (q7Q _ _).2 t h
theorem q1z {b : q08} {id : Int} {t : TxS} (h : ofT b id = some t) : t ∈ b.live ∧ (t.id : Int) = id := ⟨List.mem_of_find?_eq_some h, by simpa using List.find?_some h⟩
def IdsT (l : List TxS) : Prop := l.Pairwise fun x y => x.id < y.id
theorem q7L : ∀ {l : List TxS}, IdsT l → ∀ x ∈ l, ∀ y ∈ l, x.id = y.id → x = y
 | z :: l, h, x, hx, y, hy, e => by
  obtain ⟨h1, h2⟩ := List.pairwise_cons.1 h
  rcases List.mem_cons.1 hx with ex | hx2
  ·rcases List.mem_cons.1 hy with ey | hy2
   ·rw [ex, ey]
   ·have := h1 y hy2; subst ex; omega
  ·rcases List.mem_cons.1 hy with ey | hy2
   ·have := h1 x hx2; subst ey; omega
   ·exact q7L h2 x hx2 y hy2 e
theorem q3T {b : q08} (hi : IdsT b.live) (t : TxS) : IdsT (setT b t).live := by
 have e : (setT b t).live.map TxS.id = b.live.map TxS.id := by
  unfold setT
  simp only [List.map_map]
  refine List.map_congr_left fun x _ => ?_
  simp only [Function.comp]
  split
  ·rename_i h; exact h.symm
  ·rfl
 unfold IdsT at *
 have h1 : (b.live.map TxS.id).Pairwise (· < ·) := List.pairwise_map.2 hi
 rw [← e] at h1
 exact List.pairwise_map.1 h1
theorem q3X {b : q08} {t x : TxS} (h : x ∈ (setT b t).live) : (x = t ∧ ∃ y ∈ b.live, y.id = t.id) ∨ (x ∈ b.live ∧ x.id ≠ t.id) := by
 unfold setT at h
 simp only [List.mem_map] at h
 obtain ⟨y, hy, e⟩ := h
 split at e
 ·rename_i hid
  exact .inl ⟨e.symm, y, hy, hid⟩
 ·rename_i hid
  subst e
  exact .inr ⟨hy, hid⟩
end Go.Proofs.YtdpbllacfljmoaaGreat
