import Derived.Test.YtdpbllacfljmoaaGreatZA00
import Derived.Test.YtdpbllacfljmoaaGreatZA04
import Derived.Test.YtdpbllacfljmoaaGreatZA01
import Derived.Test.YtdpbllacfljmoaaGreatZA02
set_option maxRecDepth 100000
set_option maxHeartbeats 16000000
set_option linter.unusedVariables false
namespace Go.Proofs.YtdpbllacfljmoaaGreat
open Go.RowKit
def q07 (s : Sp) : List Value := [.string (bs s.lo), .string (bs s.hi)]
theorem spF : q0Y 2 q07 := ⟨by decide, fun _ => rfl, fun x v hv => by
 simp only [q07, List.mem_cons, List.not_mem_nil, or_false] at hv
 rcases hv with rfl | rfl <;> rfl⟩
def q0Q (s : Sp) : Value := .agg #[.string (bs s.lo), .string (bs s.hi)]
theorem qaS : q24 Tryz.prog 131 2 32 := q24.of (by kernel_rfl)
def ChI (w : World) (hi : Nat) (A : Option Addr) (c : Nat) (l : List Sp) : Prop := l.length ≤ c ∧ c ≤ maxLen ∧ (A = none → c = 0) ∧ RowG q07 w 0 hi A l
section
variable {w w' : World} {hi hi' B : Nat} {A : Option Addr} {c : Nat} {l : List Sp}
theorem ChI.below (h : ChI w hi A c l) (hb : Below B w w') (hB : hi ≤ B) (hh : hi ≤ hi') : ChI w' hi' A c l := ⟨h.1, h.2.1, h.2.2.1, (h.2.2.2.below hb hB).wide (Nat.le_refl _) hh⟩
theorem ChI.none_ (w : World) (hi : Nat) : ChI w hi none 0 [] := ⟨Nat.le_refl _, Nat.zero_le _, fun _ => rfl, RowG.nil_⟩
theorem ChI.at_ (h : ChI w hi A c l) {j : Nat} (hj : j < l.length) : ∃ b o, A = some ⟨b, o, none⟩ ∧ b < hi ∧ w.cell? ⟨b, o + j * 2, none⟩ = some (.string (bs (l[j]'hj).lo)) ∧ w.cell? ⟨b, o + j * 2 + 1, none⟩ = some (.string (bs (l[j]'hj).hi)) := by
 obtain ⟨b, o, e, _, hb, hc⟩ := h.2.2.2.at_ spF hj
 exact ⟨b, o, e, hb, by simpa using hc 0 _ rfl, hc 1 _ rfl⟩
theorem OwnG.chI {e : TypeId} {lo : Nat} {v : Value} (h : OwnG e 2 q07 w lo v l) : ∃ A c, v = .slice A l.length c ∧ ChI w w.heap.size A c l := by
 obtain ⟨A, c, rfl, k1, k2, k3, k4⟩ := h.form
 exact ⟨A, c, rfl, k1, k2, k3, k4.wide (Nat.zero_le _) (Nat.le_refl _)⟩
end
def RetI (m : List Sp) (w : World) (r : Ending) (w' : World) : Prop := ∃ A c, r = .returned (.slice A m.length c) ∧ ChI w' w'.heap.size A c m ∧ Below w.heap.size w w'
structure RecS where
 first : Nat
 last : Nat
 began : Nat
 out : Nat
 reads : List Sp
 writes : List Sp
def q75 (r : RecS) : Bool := decide (1 ≤ r.first) && decide (r.first ≤ r.last) && decide (r.began ≤ r.last) && q3B r.reads && q3B r.writes
def q0d (l : List RecS) (low : Nat) : List RecS := l.filter fun r => decide (low < r.last)
def q9H (a b : RecS) : Bool := if b.writes.isEmpty then decide (a.first ≤ b.began) else decide (a.first ≤ b.last)
def outB (t a : RecS) : Bool := !(a.out == 0) && (!t.writes.isEmpty || decide (a.out ≤ t.began))
def qgJ (l : List RecS) (t a : RecS) : Bool := l.any fun b => q20 b.reads t.writes && q9H a b
def q3s (l : List RecS) (t : RecS) : List RecS := l.filter fun a => q20 t.reads a.writes
def q2j (o : Option Nat) (a : RecS) : Option Nat := match o with
 | none => some a.first
 | some x => some (if a.first < x then a.first else x)
def outR (l : List RecS) : Nat := (l.foldl q2j none).getD 0
def q1D (l : List RecS) (t : RecS) : Option Nat :=
 if (q3s (q0d l t.began) t).any (fun a => outB t a || qgJ (q0d l t.began) t a) = true then none else some (outR (q3s (q0d l t.began) t))
theorem q31 : ∀ (l : List RecS) (o : Option Nat), (∀ a ∈ l, ∃ x, l.foldl q2j o = some x ∧ x ≤ a.first) ∧ (∀ y, o = some y → ∃ x, l.foldl q2j o = some x ∧ x ≤ y) ∧
  (∀ x, l.foldl q2j o = some x → o = some x ∨ ∃ a ∈ l, x = a.first)
 | [], o => ⟨(fun a ha => by cases ha), (fun y h => ⟨y, h, Nat.le_refl _⟩), fun x h => .inl h⟩
 | b :: l, o => by
  have hs : ∃ y, q2j o b = some y ∧ y ≤ b.first ∧ (∀ z, o = some z → y ≤ z) ∧ (o = some y ∨ y = b.first) := by
   cases o with
   | none => exact ⟨_, rfl, Nat.le_refl _, (fun z h => by cases h), .inr rfl⟩
   | some z =>
    by_cases h : b.first < z
    ·exact ⟨b.first, by simp [q2j, h], Nat.le_refl _, (fun u hu => by cases hu; omega), .inr rfl⟩
    ·exact ⟨z, by simp [q2j, h], by omega, (fun u hu => by cases hu; omega), .inl rfl⟩
  obtain ⟨y, hy, h1, h2, h3⟩ := hs
  obtain ⟨k1, k2, k3⟩ := q31 l (some y)
  rw [List.foldl_cons, hy]
  obtain ⟨x, hx, hxy⟩ := k2 y rfl
  refine ⟨fun a ha => ?_, fun z hz => ⟨x, hx, Nat.le_trans hxy (h2 z hz)⟩, fun u hu => ?_⟩
  ·rcases List.mem_cons.1 ha with rfl | ha
   ·exact ⟨x, hx, Nat.le_trans hxy h1⟩
   ·exact k1 a ha
  ·rcases k3 u hu with h | ⟨a, ha, e⟩
   ·cases h
    rcases h3 with h | h
    ·exact .inl h
    ·exact .inr ⟨b, List.mem_cons_self .., h⟩
   ·exact .inr ⟨a, List.mem_cons_of_mem _ ha, e⟩
theorem qgl {l : List RecS} {a : RecS} (ha : a ∈ l) : outR l ≤ a.first := by
 obtain ⟨x, hx, h⟩ := (q31 l none).1 a ha
 unfold outR
 rw [hx]
 exact h
theorem qfR {l : List RecS} (h : l ≠ []) : ∃ a ∈ l, outR l = a.first := by
 match l, h with
 | b :: l, _ =>
  obtain ⟨x, hx, _⟩ := (q31 (b :: l) none).1 b (List.mem_cons_self ..)
  rcases (q31 (b :: l) none).2.2 x hx with h | ⟨a, ha, e⟩
  ·cases h
  ·exact ⟨a, ha, by unfold outR; rw [hx]; exact e⟩
def q3q (a b : Nat) : Nat := if a = 0 ∨ b = 0 then max a b else min a b
def q2w (J : List Sp → List Sp → List Sp) (a b : RecS) : RecS := ⟨min a.first b.first, max a.last b.last, max a.began b.began, q3q a.out b.out, J a.reads b.reads, J a.writes b.writes⟩
structure qg2 (J : List Sp → List Sp → List Sp) : Prop where
 norm : ∀ a b, q0D (J a b)
 left : ∀ a b k, inP a k = true → inP (J a b) k = true
 right : ∀ a b k, inP b k = true → inP (J a b) k = true
def fitR (J : List Sp → List Sp → List Sp) : Nat → List RecS → List RecS
 | n, a :: b :: l => if max n 1 < (a :: b :: l).length then fitR J n (q2w J a b :: l) else a :: b :: l
 | _, l => l
 termination_by _ l => l.length
section
variable {J : List Sp → List Sp → List Sp}
theorem q3R (r : RecS) : q75 r = true ↔ 1 ≤ r.first ∧ r.first ≤ r.last ∧ r.began ≤ r.last ∧ q0D r.reads ∧ q0D r.writes := by
 simp only [q75, Bool.and_eq_true, decide_eq_true_eq, q6j]
 constructor
 ·rintro ⟨⟨⟨⟨h1, h2⟩, h3⟩, h4⟩, h5⟩
  exact ⟨h1, h2, h3, h4, h5⟩
 ·rintro ⟨h1, h2, h3, h4, h5⟩
  exact ⟨⟨⟨⟨h1, h2⟩, h3⟩, h4⟩, h5⟩
theorem qbA (hJ : qg2 J) {a b : RecS} (ha : q75 a = true) (hb : q75 b = true) : q75 (q2w J a b) = true := by
 rw [q3R] at *
 obtain ⟨h1, h2, h3, _, _⟩ := ha
 obtain ⟨g1, g2, g3, _, _⟩ := hb
 refine ⟨?_, ?_, ?_, hJ.norm _ _, hJ.norm _ _⟩
 ·show 1 ≤ min a.first b.first
  omega
 ·show min a.first b.first ≤ max a.last b.last
  omega
 ·show max a.began b.began ≤ max a.last b.last
  omega
theorem q3K {n : Nat} {l : List RecS} (h : l.length ≤ max n 1) : fitR J n l = l := by
 match l, h with
 | [], _ => unfold fitR; rfl
 | [a], _ => unfold fitR; rfl
 | a :: b :: l, h =>
  unfold fitR
  rw [if_neg (by omega)]
theorem qaz (n : Nat) : ∀ (m : Nat) (l : List RecS), l.length ≤ m → max n 1 ≤ l.length → (fitR J n l).length = max n 1
 | _, [], _, h2 => by simp at h2
 | _, [x], _, h2 => by unfold fitR; simp at h2 ⊢; omega
 | 0, x :: y :: l, h, _ => by simp at h
 | m + 1, x :: y :: l, h, h2 => by
  unfold fitR
  split
  ·rename_i hlt
   exact qaz n m _ (by simp at h ⊢; omega) (by simp at hlt ⊢; omega)
  ·rename_i hlt
   simp only [List.length_cons] at hlt h2 ⊢
   omega
theorem qcJ {n : Nat} {a b : RecS} {l : List RecS} (h : max n 1 < l.length + 2) : fitR J n (a :: b :: l) = fitR J n (q2w J a b :: l) := by
 rw [fitR, if_pos (by simpa using h)]
end
open Go.RowKit
structure MR where
 r : RecS
 A : Option Addr
 c : Nat
 B : Option Addr
 d : Nat
def q0e (x : MR) : List Value := [.int .u64 x.r.first, .int .u64 x.r.last, .int .u64 x.r.began, .int .u64 x.r.out, .slice x.A x.r.reads.length x.c, .slice x.B x.r.writes.length x.d]
def q0y (x : MR) : Value := .agg #[.int .u64 x.r.first, .int .u64 x.r.last, .int .u64 x.r.began, .int .u64 x.r.out, .slice x.A x.r.reads.length x.c, .slice x.B x.r.writes.length x.d]
theorem mrF : q0Y 6 q0e := ⟨by decide, fun _ => rfl, fun x v hv => by
 simp only [q0e, List.mem_cons, List.not_mem_nil, or_false] at hv
 rcases hv with rfl | rfl | rfl | rfl | rfl | rfl <;> rfl⟩
theorem qdj : q24 Tryz.prog 86 6 80 := q24.of (by kernel_rfl)
structure OkMR (w : World) (hi : Nat) (x : MR) : Prop where
 first : x.r.first < 18446744073709551616
 last : x.r.last < 18446744073709551616
 began : x.r.began < 18446744073709551616
 out : x.r.out < 18446744073709551616
 reads : ChI w hi x.A x.c x.r.reads
 writes : ChI w hi x.B x.d x.r.writes
def RowR (w : World) (hi : Nat) (A : Option Addr) (l : List RecS) : Prop := ∃ ms : List MR, ms.map MR.r = l ∧ RowG q0e w 0 hi A ms ∧ ∀ x ∈ ms, OkMR w hi x
def ChR (w : World) (hi : Nat) (A : Option Addr) (c : Nat) (l : List RecS) : Prop := l.length ≤ c ∧ c ≤ maxLen ∧ (A = none → c = 0) ∧ RowR w hi A l
section
variable {w w' : World} {hi hi' B : Nat} {A : Option Addr} {c : Nat} {l : List RecS} {x : MR}
theorem OkMR.below (h : OkMR w hi x) (hb : Below B w w') (hB : hi ≤ B) (hh : hi ≤ hi') : OkMR w' hi' x := ⟨h.first, h.last, h.began, h.out, h.reads.below hb hB hh, h.writes.below hb hB hh⟩
theorem RowR.below (h : RowR w hi A l) (hb : Below B w w') (hB : hi ≤ B) (hh : hi ≤ hi') : RowR w' hi' A l := by
 obtain ⟨ms, e, h1, h2⟩ := h
 exact ⟨ms, e, (h1.below hb hB).wide (Nat.le_refl _) hh, fun x hx => (h2 x hx).below hb hB hh⟩
theorem ChR.below (h : ChR w hi A c l) (hb : Below B w w') (hB : hi ≤ B) (hh : hi ≤ hi') : ChR w' hi' A c l := ⟨h.1, h.2.1, h.2.2.1, h.2.2.2.below hb hB hh⟩
theorem RowR.at_ (h : RowR w hi A l) {j : Nat} (hj : j < l.length) :
  ∃ b o, A = some ⟨b, o, none⟩ ∧ b < hi ∧ ∃ x : MR, x.r = l[j]'hj ∧ OkMR w hi x ∧ w.cell? ⟨b, o + j * 6, none⟩ = some (.int .u64 x.r.first) ∧ w.cell? ⟨b, o + j * 6 + 1, none⟩ = some (.int .u64 x.r.last) ∧ w.cell? ⟨b, o + j * 6 + 2, none⟩ = some (.int .u64 x.r.began) ∧
   w.cell? ⟨b, o + j * 6 + 3, none⟩ = some (.int .u64 x.r.out) ∧ w.cell? ⟨b, o + j * 6 + 4, none⟩ = some (.slice x.A x.r.reads.length x.c) ∧ w.cell? ⟨b, o + j * 6 + 5, none⟩ = some (.slice x.B x.r.writes.length x.d) := by
 obtain ⟨ms, rfl, h1, h2⟩ := h
 have hj' : j < ms.length := by simpa using hj
 obtain ⟨b, o, e, _, hb, hc⟩ := h1.at_ mrF hj'
 exact ⟨b, o, e, hb, ms[j], by simp, h2 _ (List.getElem_mem hj'), by simpa using hc 0 _ rfl, hc 1 _ rfl, hc 2 _ rfl, hc 3 _ rfl, hc 4 _ rfl, hc 5 _ rfl⟩
theorem OwnG.chR {e : TypeId} {lo : Nat} {v : Value} {ms : List MR} (h : OwnG e 6 q0e w lo v ms) (hm : ∀ x ∈ ms, OkMR w w.heap.size x) : ∃ A c, v = .slice A ms.length c ∧ ChR w w.heap.size A c (ms.map MR.r) := by
 obtain ⟨A, c, rfl, k1, k2, k3, k4⟩ := h.form
 exact ⟨A, c, rfl, by rw [List.length_map]; exact k1, k2, k3, ms, rfl, k4.wide (Nat.zero_le _) (Nat.le_refl _), hm⟩
end
def q7V (m : List RecS) (w : World) (r : Ending) (w' : World) : Prop := ∃ A c, r = .returned (.slice A m.length c) ∧ ChR w' w'.heap.size A c m ∧ Below w.heap.size w w'
def qc1 (m : RecS) (w : World) (r : Ending) (w' : World) : Prop := ∃ x : MR, x.r = m ∧ r = .returned (q0y x) ∧ OkMR w' w'.heap.size x ∧ Below w.heap.size w w'
def q3N : Option Nat → Value
 | some n => .tuple #[.int .u64 n, .int .i64 0]
 | none => .tuple #[.int .u64 0, .int .i64 101]
theorem q65 {l : List RecS} {low j : Nat} (hj : j < l.length) : q0d (l.take (j + 1)) low = q0d (l.take j) low ++ (if low < (l[j]'hj).last then [l[j]'hj] else []) := by
 unfold q0d
 rw [List.take_succ_eq_append_getElem hj, List.filter_append]
 congr 1
 by_cases h : low < (l[j]'hj).last
 ·rw [if_pos h, List.filter_cons, if_pos (by simpa using h)]; rfl
 ·rw [if_neg h, List.filter_cons, if_neg (by simpa using h)]; rfl
theorem q4Q (l : List RecS) (low : Nat) : (q0d l low).length ≤ l.length := List.length_filter_le _ _
def q0C (l : List RecS) : Nat := (l.map fun r => r.reads.length + r.writes.length).sum
theorem qeO {l : List RecS} {r : RecS} (h : r ∈ l) : r.reads.length + r.writes.length ≤ q0C l := by
 induction l with
 | nil => cases h
 | cons x l ih =>
  have e : q0C (x :: l) = (x.reads.length + x.writes.length) + q0C l := by simp [q0C]
  rcases List.mem_cons.1 h with rfl | h
  ·omega
  ·have := ih h
   omega
theorem q8I {J : List Sp → List Sp → List Sp} (hJ : ∀ a b, (J a b).length ≤ a.length + b.length) (a b : RecS) (l : List RecS) : q0C (q2w J a b :: l) ≤ q0C (a :: b :: l) := by
 have h1 := hJ a.reads b.reads
 have h2 := hJ a.writes b.writes
 have e1 : q0C (q2w J a b :: l) = ((J a.reads b.reads).length + (J a.writes b.writes).length) + q0C l := by simp [q0C, q2w]
 have e2 : q0C (a :: b :: l) = (a.reads.length + a.writes.length) + ((b.reads.length + b.writes.length) + q0C l) := by simp [q0C]
 omega
structure LimT where
 s : LimS
 marks : Int
 recs : Int
 live : Int
structure TxS where
 id : Nat
 began : Nat
 start : Nat
 marks : List Sp
 ws : List Wr
structure q5x where
 id : Nat
 began : Nat
 at_ : Nat
 start : Nat
 end_ : Nat
 reads : List Sp
 writes : List Sp
structure q06 where
 st : PS
 live : List TxS
 recs : List RecS
 hist : List q5x
 last : Nat
 event : Nat
def q3t : q06 := ⟨⟨0, []⟩, [], [], [], 0, 0⟩
def q8S (L : LimT) : Nat := (max L.recs 1).toNat
def q0l (k : KeyS) : Sp := ⟨k, k ++ [0]⟩
def lowT (b : q06) : Nat := b.live.foldl (fun l t => min l t.began) b.st.time
def ofT (b : q06) (id : Int) : Option TxS := b.live.find? fun t => decide ((t.id : Int) = id)
def setT (b : q06) (t : TxS) : q06 := ⟨b.st, b.live.map fun x => if x.id = t.id then t else x, b.recs, b.hist, b.last, b.event⟩
def errT (e : Int) : q4h := ⟨0, e, [], false, []⟩
def q0a (L : LimT) (b : q06) : q06 × q4h :=
 if L.live ≤ (b.live.length : Int) then (b, errT 5) else (⟨b.st, b.live ++ [⟨b.last + 1, b.st.time, b.event + 1, [], []⟩], b.recs, b.hist, b.last + 1, b.event + 1⟩, ⟨b.last + 1, 0, [], false, []⟩)
def qbK (l : List (KeyS × List UInt8)) (w : Wr) : List (KeyS × List UInt8) := l.filter (fun p => blt p.1 w.key) ++ (if w.gone = true then [] else [(w.key, w.dat)]) ++ l.filter (fun p => blt w.key p.1)
def q47 (lo hi : KeyS) (ws : List Wr) (l : List (KeyS × List UInt8)) : List (KeyS × List UInt8) := ws.foldl (fun l w => if hasS ⟨lo, hi⟩ w.key = true then qbK l w else l) l
def putW (ws : List Wr) (w : Wr) : List Wr := ws.filter (fun x => blt x.key w.key) ++ [w] ++ ws.filter (fun x => blt w.key x.key)
def q0m (b : q06) (id : Int) (w : Wr) : q06 × q4h := match ofT b id with
 | none => (b, errT 4)
 | some t => if q0j [] [w] ≠ 0 then (b, errT (q0j [] [w])) else (setT b ⟨t.id, t.began, t.start, t.marks, putW t.ws w⟩, errT 0)
def q1K (st : PS) (t : TxS) (w : Wr) : Bool := w.gone && (q0V st.K w.key t.began).isNone
def q05 (st : PS) (t : TxS) : List Wr := t.ws.filter fun w => !q1K st t w
def q5J (st : PS) (t : TxS) : Bool := t.ws.any fun w => decide (t.began < q1Z (q03 st.K w.key))
section
variable (F : List Sp → List Sp)
def q8A (a b : List Sp) : List Sp := F (q0b (a ++ b))
def addF (m : List Sp) (s : Sp) : List Sp := F (q0b (m ++ [s]))
def q32 (t : TxS) (s : Sp) : TxS := ⟨t.id, t.began, t.start, addF F t.marks s, t.ws⟩
def q1s (b : q06) (id : Int) (key : KeyS) : q06 × q4h := match ofT b id with
 | none => (b, errT 4)
 | some t => match t.ws.find? fun w => w.key == key with
  | some w => (b, ⟨0, 0, w.dat, !w.gone, []⟩)
  | none => (setT b (q32 F t (q0l key)), ⟨0, 0, (q0V b.st.K key t.began).getD [], (q0V b.st.K key t.began).isSome, []⟩)
def q21 (b : q06) (id : Int) (lo hi : KeyS) : q06 × q4h := match ofT b id with
 | none => (b, errT 4)
 | some t => if q0g ⟨lo, hi⟩ = false then (b, errT 1) else (setT b (q32 F t ⟨lo, hi⟩), ⟨0, 0, [], false, q47 lo hi t.ws (q1R b.st.K lo hi t.began)⟩)
def q2p (L : LimT) (b : q06) (t : TxS) : q06 :=
 ⟨b.st, b.live.filter (fun x => decide (x.id ≠ t.id)), fitR (q8A F) (q8S L) (q0d b.recs (lowT ⟨b.st, b.live.filter (fun x => decide (x.id ≠ t.id)), b.recs, b.hist, b.last, b.event⟩)), b.hist, b.last, b.event⟩
def q1F (st : PS) (t : TxS) : List Sp := t.ws.foldl (fun m w => if q1K st t w = true then addF F m (q0l w.key) else m) t.marks
def q1f (l : List Wr) : List Sp := F (l.foldl (fun m w => q0b (m ++ [q0l w.key])) [])
def askT (st : PS) (t : TxS) : RecS := ⟨0, 0, t.began, 0, q1F F st t, q1f F (q05 st t)⟩
def q0h (L : LimT) (b : q06) (id : Int) : q06 × q4h := match ofT b id with
 | none => (b, errT 4)
 | some t =>
  if q5J b.st t = true then (q2p F L b t, errT 100)
  else match q1D b.recs (askT F b.st t) with
   | none => (q2p F L b t, errT 101)
   | some out =>
    if (q09 L.s b.st (q05 b.st t) (lowT b)).2.2 ≠ 0 then (q2p F L ⟨(q09 L.s b.st (q05 b.st t) (lowT b)).1, b.live, b.recs, b.hist, b.last, b.event⟩ t, errT (q09 L.s b.st (q05 b.st t) (lowT b)).2.2)
    else (q2p F L ⟨(q09 L.s b.st (q05 b.st t) (lowT b)).1, b.live,
      b.recs ++ [⟨max (q09 L.s b.st (q05 b.st t) (lowT b)).2.1 1, max (q09 L.s b.st (q05 b.st t) (lowT b)).2.1 1, t.began, out, q1F F b.st t, q1f F (q05 b.st t)⟩],
      b.hist ++ [⟨t.id, t.began, (q09 L.s b.st (q05 b.st t) (lowT b)).2.1, t.start, b.event + 1, q1F F b.st t, q1f F (q05 b.st t)⟩], b.last, b.event + 1⟩ t,
     ⟨(q09 L.s b.st (q05 b.st t) (lowT b)).2.1, 0, [], false, []⟩)
def q1O (L : LimT) (b : q06) (id : Int) : q06 × q4h := match ofT b id with
 | none => (b, errT 4)
 | some t => (q2p F L b t, errT 0)
def q1H (b : q06) : q06 × q4h :=
 (⟨⟨b.st.time, q08 b.st.K (lowT b)⟩, b.live, b.recs, b.hist, b.last, b.event⟩, ⟨q1n b.st.K - q1n (q08 b.st.K (lowT b)), 0, [], false, []⟩)
structure OpT where
 what : Int
 id : Int
 w : Wr
 hi : KeyS
def q1U (L : LimT) (b : q06) (o : OpT) : q06 × q4h :=
 if o.what = 0 then q0a L b
 else if o.what = 1 then q1s F b o.id o.w.key
 else if o.what = 2 then q21 F b o.id o.w.key o.hi
 else if o.what = 3 then q0m b o.id o.w
 else if o.what = 4 then q0h F L b o.id
 else if o.what = 5 then q1O F L b o.id
 else if o.what = 6 then q1H b
 else (b, qgp)
end
theorem q7D : ∀ (l : List TxS) (n : Nat), l.foldl (fun l t => min l t.began) n ≤ n ∧ ∀ t ∈ l, l.foldl (fun l t => min l t.began) n ≤ t.began
 | [], n => ⟨Nat.le_refl _, fun t h => by cases h⟩
 | x :: l, n => by
  obtain ⟨h1, h2⟩ := q7D l (min n x.began)
  refine ⟨Nat.le_trans h1 (Nat.min_le_left _ _), fun t ht => ?_⟩
  rcases List.mem_cons.1 ht with rfl | ht
  ·exact Nat.le_trans h1 (Nat.min_le_right _ _)
  ·exact h2 t ht
theorem q7E (b : q06) : lowT b ≤ b.st.time := (q7D _ _).1
theorem q8G {b : q06} {t : TxS} (h : t ∈ b.live) : lowT b ≤ t.began := (q7D _ _).2 t h
theorem q0J {b : q06} {id : Int} {t : TxS} (h : ofT b id = some t) : t ∈ b.live ∧ (t.id : Int) = id := ⟨List.mem_of_find?_eq_some h, by simpa using List.find?_some h⟩
def IdsT (l : List TxS) : Prop := l.Pairwise fun x y => x.id < y.id
theorem q7y : ∀ {l : List TxS}, IdsT l → ∀ x ∈ l, ∀ y ∈ l, x.id = y.id → x = y
 | z :: l, h, x, hx, y, hy, e => by
  obtain ⟨h1, h2⟩ := List.pairwise_cons.1 h
  rcases List.mem_cons.1 hx with ex | hx2
  ·rcases List.mem_cons.1 hy with ey | hy2
   ·rw [ex, ey]
   ·have := h1 y hy2; subst ex; omega
  ·rcases List.mem_cons.1 hy with ey | hy2
   ·have := h1 x hx2; subst ey; omega
   ·exact q7y h2 x hx2 y hy2 e
theorem q3M {b : q06} (hi : IdsT b.live) (t : TxS) : IdsT (setT b t).live := by
 have e : (setT b t).live.map TxS.id = b.live.map TxS.id := by
  unfold setT
  simp only [List.map_map]
  refine List.map_congr_left fun x _ => ?_
  simp only [Function.comp]
  split
  ·rename_i h; exact h.symm
  ·rfl
 unfold IdsT at *
 have h1 : (b.live.map TxS.id).Pairwise (· < ·) := List.pairwise_map.2 hi
 rw [← e] at h1
 exact List.pairwise_map.1 h1
theorem q4r {b : q06} {t x : TxS} (h : x ∈ (setT b t).live) : (x = t ∧ ∃ y ∈ b.live, y.id = t.id) ∨ (x ∈ b.live ∧ x.id ≠ t.id) := by
 unfold setT at h
 simp only [List.mem_map] at h
 obtain ⟨y, hy, e⟩ := h
 split at e
 ·rename_i hid
  exact .inl ⟨e.symm, y, hy, hid⟩
 ·rename_i hid
  subst e
  exact .inr ⟨hy, hid⟩
end Go.Proofs.YtdpbllacfljmoaaGreat
