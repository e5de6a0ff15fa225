import Derived.Test.YtdpbllacfljmoaaGreatZD04
import Derived.Test.YtdpbllacfljmoaaGreatZD05
import Derived.Test.YtdpbllacfljmoaaGreatZD06
import Derived.Laws.Cover1
import Derived.Deep.DeepCutAuto
import Derived.Deep.RegionHeld3
import Derived.Test.YtdpbllacfljmoaaGreatZD03
import Derived.Lib.MinMax
set_option maxRecDepth 100000
set_option maxHeartbeats 16000000
set_option linter.unusedVariables false
namespace Go.Proofs.YtdpbllacfljmoaaGreat
open Go.RowKit
def ByS (w : World) (R : Nat → Prop) (A : Option Addr) (c : Nat) (d : List UInt8) : Prop := d.length ≤ c ∧ c ≤ maxLen ∧ (A = none → c = 0) ∧ RdS w R A d
def PaS (w : World) (R : Nat → Prop) (A : Option Addr) (c : Nat) (l : List (KeyS × List UInt8)) : Prop := l.length ≤ c ∧ c ≤ maxLen ∧ (A = none → c = 0) ∧ ∃ ms : List MP, ms.map MP.p = l ∧ RowS q0e w R A ms ∧ ∀ x ∈ ms, ByS w R x.A x.c x.b
def SpS (w : World) (R : Nat → Prop) (A : Option Addr) (c : Nat) (l : List Sp) : Prop := l.length ≤ c ∧ c ≤ maxLen ∧ (A = none → c = 0) ∧ RowS q06 w R A l
def OkRS (w : World) (R : Nat → Prop) (x : MR) : Prop := (x.r.first < 18446744073709551616 ∧ x.r.last < 18446744073709551616 ∧ x.r.began < 18446744073709551616 ∧ x.r.out < 18446744073709551616) ∧ SpS w R x.A x.c x.r.reads ∧ SpS w R x.B x.d x.r.writes
def ReS (w : World) (R : Nat → Prop) (A : Option Addr) (c : Nat) (l : List RecS) : Prop := l.length ≤ c ∧ c ≤ maxLen ∧ (A = none → c = 0) ∧ ∃ ms : List MR, ms.map MR.r = l ∧ RowS q0d w R A ms ∧ ∀ x ∈ ms, OkRS w R x
structure MD where
 d : q5j
 A : Option Addr
 c : Nat
 B : Option Addr
 e : Nat
def q0R (x : MD) : List Value := [.int .i64 x.d.id, .int .u64 x.d.began, .int .u64 x.d.at_, .int .i64 x.d.start, .int .i64 x.d.end_, .slice x.A x.d.reads.length x.c, .slice x.B x.d.writes.length x.e]
theorem mdF : q12 7 q0R := ⟨by decide, fun _ => rfl, fun x v hv => by
 simp only [q0R, List.mem_cons, List.not_mem_nil, or_false] at hv
 rcases hv with rfl | rfl | rfl | rfl | rfl | rfl | rfl <;> rfl⟩
def OkDS (w : World) (R : Nat → Prop) (x : MD) : Prop := SpS w R x.A x.c x.d.reads ∧ SpS w R x.B x.e x.d.writes
def DoS (w : World) (R : Nat → Prop) (A : Option Addr) (c : Nat) (l : List q5j) : Prop := l.length ≤ c ∧ c ≤ maxLen ∧ (A = none → c = 0) ∧ ∃ ms : List MD, ms.map MD.d = l ∧ RowS q0R w R A ms ∧ ∀ x ∈ ms, OkDS w R x
def q9O (n : Nat) : List Value := [.int .i64 (n : Int)]
def InS_ (w : World) (R : Nat → Prop) (A : Option Addr) (c : Nat) (l : List Nat) : Prop := l.length ≤ c ∧ c ≤ maxLen ∧ (A = none → c = 0) ∧ RowS q9O w R A l
section
variable {w w' : World} {R T : Nat → Prop} {A : Option Addr} {c : Nat}
theorem ByS.keep {d : List UInt8} (h : ByS w R A c d) (hk : ∀ g, R g → g < w.heap.size → w'.heap[g]? = w.heap[g]? ∧ T g) : ByS w' T A c d := ⟨h.1, h.2.1, h.2.2.1, h.2.2.2.keep hk⟩
theorem PaS.keep {l : List (KeyS × List UInt8)} (h : PaS w R A c l) (hk : ∀ g, R g → g < w.heap.size → w'.heap[g]? = w.heap[g]? ∧ T g) : PaS w' T A c l := by
 obtain ⟨h1, h2, h3, ms, e, hr, ho⟩ := h
 exact ⟨h1, h2, h3, ms, e, hr.keep mpF hk, fun x hx => (ho x hx).keep hk⟩
theorem SpS.keep {l : List Sp} (h : SpS w R A c l) (hk : ∀ g, R g → g < w.heap.size → w'.heap[g]? = w.heap[g]? ∧ T g) : SpS w' T A c l := ⟨h.1, h.2.1, h.2.2.1, h.2.2.2.keep spF hk⟩
theorem OkRS.keep {x : MR} (h : OkRS w R x) (hk : ∀ g, R g → g < w.heap.size → w'.heap[g]? = w.heap[g]? ∧ T g) : OkRS w' T x := ⟨h.1, h.2.1.keep hk, h.2.2.keep hk⟩
theorem ByS.sl {d : List UInt8} (h : ByS w R A c d) : SlI w 0 w.heap.size A c d := ⟨h.1, h.2.1, h.2.2.1, h.2.2.2.rd⟩
theorem PaS.ch {l : List (KeyS × List UInt8)} (h : PaS w R A c l) : ChP w 0 w.heap.size A c l := by
 obtain ⟨h1, h2, h3, ms, e, hr, ho⟩ := h
 exact ⟨h1, h2, h3, ms, e, hr.rowG mpF, fun x hx => (ho x hx).sl⟩
theorem SpS.ch {l : List Sp} (h : SpS w R A c l) : ChI w w.heap.size A c l := ⟨h.1, h.2.1, h.2.2.1, h.2.2.2.rowG spF⟩
theorem OkRS.ok {x : MR} (h : OkRS w R x) : OkMR w w.heap.size x := ⟨h.1.1, h.1.2.1, h.1.2.2.1, h.1.2.2.2, h.2.1.ch, h.2.2.ch⟩
theorem ByS.none_ (w : World) (R : Nat → Prop) : ByS w R none 0 [] := ⟨Nat.le_refl _, Nat.zero_le _, fun _ => rfl, fun h => absurd h (by simp)⟩
theorem PaS.none_ (w : World) (R : Nat → Prop) : PaS w R none 0 [] := ⟨Nat.le_refl _, Nat.zero_le _, fun _ => rfl, [], rfl, fun h => absurd h (by simp), by simp⟩
end
def qb5 (w : World) (R : Nat → Prop) (t : q4l) (A : Option Addr) (c : Nat) (B : Option Addr) (d : Nat) : Prop := ByS w R A c t.b ∧ PaS w R B d t.scan
theorem qb5.keep {w w' : World} {R T : Nat → Prop} {t : q4l} {A B : Option Addr} {c d : Nat} (h : qb5 w R t A c B d) (hk : ∀ g, R g → g < w.heap.size → w'.heap[g]? = w.heap[g]? ∧ T g) : qb5 w' T t A c B d := ⟨h.1.keep hk, h.2.keep hk⟩
structure MOT where
 o : OpT
 A : Option Addr
 c : Nat
def q6l (x : MOT) : List Value := [.int .i64 x.o.what, .int .i64 x.o.id, .string (bs x.o.w.key), .bool x.o.w.gone, .slice x.A x.o.w.dat.length x.c, .string (bs x.o.hi)]
theorem otF : q12 6 q6l := ⟨by decide, fun _ => rfl, fun x v hv => by
 simp only [q6l, List.mem_cons, List.not_mem_nil, or_false] at hv
 rcases hv with rfl | rfl | rfl | rfl | rfl | rfl <;> rfl⟩
def q4i (x : Wr) (A : Option Addr) (c : Nat) : Value := .agg #[.string (bs x.key), .bool x.gone, .slice A x.dat.length c]
def qfL (o : OpT) (A : Option Addr) (c : Nat) : Value := .agg #[.int .i64 o.what, .int .i64 o.id, .string (bs o.w.key), .bool o.w.gone, .slice A o.w.dat.length c, .string (bs o.hi)]
def OkOT (w : World) (hi : Nat) (x : MOT) : Prop := I64 x.o.what ∧ I64 x.o.id ∧ x.o.w.key.length ≤ maxLen ∧ x.o.hi.length ≤ maxLen ∧ SlI w 0 hi x.A x.c x.o.w.dat
def qb4 (w : World) (hi : Nat) (A : Option Addr) (l : List OpT) : Prop := ∃ ms : List MOT, ms.map MOT.o = l ∧ RowG q6l w 0 hi A ms ∧ ∀ x ∈ ms, OkOT w hi x
def ChOT (w : World) (hi : Nat) (A : Option Addr) (c : Nat) (l : List OpT) : Prop := l.length ≤ c ∧ c ≤ maxLen ∧ (A = none → c = 0) ∧ qb4 w hi A l
section
variable {w w' : World} {hi hi' B : Nat} {A : Option Addr} {c : Nat} {l : List OpT} {x : MOT}
theorem OkOT.below (h : OkOT w hi x) (hb : Below B w w') (hB : hi ≤ B) (hh : hi ≤ hi') : OkOT w' hi' x := ⟨h.1, h.2.1, h.2.2.1, h.2.2.2.1, (h.2.2.2.2.keep fun g _ hg => hb.block g (by omega)).wide (Nat.le_refl _) hh⟩
theorem qb4.below (h : qb4 w hi A l) (hb : Below B w w') (hB : hi ≤ B) (hh : hi ≤ hi') : qb4 w' hi' A l := by
 obtain ⟨ms, e, h1, h2⟩ := h
 exact ⟨ms, e, (h1.below hb hB).wide (Nat.le_refl _) hh, fun x hx => (h2 x hx).below hb hB hh⟩
theorem ChOT.below (h : ChOT w hi A c l) (hb : Below B w w') (hB : hi ≤ B) (hh : hi ≤ hi') : ChOT w' hi' A c l := ⟨h.1, h.2.1, h.2.2.1, h.2.2.2.below hb hB hh⟩
theorem qb4.at_ (h : qb4 w hi A l) {j : Nat} (hj : j < l.length) :
  ∃ b o, A = some ⟨b, o, none⟩ ∧ b < hi ∧ ∃ x : MOT, x.o = l[j]'hj ∧ OkOT w hi x ∧ w.cell? ⟨b, o + j * 6, none⟩ = some (.int .i64 x.o.what) ∧ w.cell? ⟨b, o + j * 6 + 1, none⟩ = some (.int .i64 x.o.id) ∧ w.cell? ⟨b, o + j * 6 + 2, none⟩ = some (.string (bs x.o.w.key)) ∧
   w.cell? ⟨b, o + j * 6 + 3, none⟩ = some (.bool x.o.w.gone) ∧ w.cell? ⟨b, o + j * 6 + 4, none⟩ = some (.slice x.A x.o.w.dat.length x.c) ∧ w.cell? ⟨b, o + j * 6 + 5, none⟩ = some (.string (bs x.o.hi)) := by
 obtain ⟨ms, rfl, h1, h2⟩ := h
 have hj' : j < ms.length := by simpa using hj
 obtain ⟨b, o, e, _, hb, hc⟩ := h1.at_ otF hj'
 exact ⟨b, o, e, hb, ms[j], by simp, h2 _ (List.getElem_mem hj'), by simpa using hc 0 _ rfl, hc 1 _ rfl, hc 2 _ rfl, hc 3 _ rfl, hc 4 _ rfl, hc 5 _ rfl⟩
end
open Go.RowKit
theorem qeK {h : List UInt8} (e : h.isEmpty = true) : ((bs h).toList == []) = true ∧ (bs h).toList = [] := by
 rw [List.isEmpty_iff] at e
 subst e
 rw [q2l]
 exact ⟨rfl, rfl⟩
theorem qeJ {h : List UInt8} (e : h.isEmpty = false) : ((bs h).toList == []) = false ∧ ¬ (bs h).toList = [] := by
 rw [List.isEmpty_eq_false_iff] at e
 rw [q2l]
 exact ⟨beq_eq_false_iff_ne.2 e, e⟩
open Go.RowKit
open Go.RowKit
open Go.RowKit
open Go.RowKit
open Go.RowKit
theorem OwnG.oneI {α : Type} {cs : α → List Value} {k : Nat} {w : World} {g : Nat} {e : TypeId} {x : α} (hF : q12 k cs) (h : w.heap[g]? = some (.cells (cs x).toArray e (0, 0))) : OwnG e k cs w g (.slice (some ⟨g, 0, none⟩) 1 1) [x] := by
 refine ⟨by rw [q63, hF.len]; simp, .inr ⟨g, 1, _, rfl, Nat.le_refl _, h, Nat.le_refl _, by simp [maxLen], by simp [hF.len], ?_⟩⟩
 rw [q63]
 exact List.take_of_length_le (by simp [hF.len])
def fitN (n : Int) : Nat := (max n 1).toNat
def fitI (n : Int) (l : List Sp) : List Sp := fitS (fitN n) l
theorem q8m (n : Int) : max n 1 = (fitN n : Int) := by unfold fitN; omega
theorem q5q (n : Int) : 1 ≤ fitN n := by unfold fitN; omega
theorem q7p {n : Int} {l : List Sp} (h : l.length ≤ fitN n) : fitI n l = l := qcH (by have := q5q n; omega)
open Go.RowKit
def okI (l : List Sp) : Prop := l.length ≤ 1000
structure q99 : Prop where
 point : ∀ (k : List UInt8) (w : World), k.length ≤ 1000000 → Calls Tryz.prog 79 #[.string (bs k)] w fun r w' => r = .returned (q0S ⟨k, k ++ [0]⟩) ∧ Below w.heap.size w w'
 right : ∀ (s : Sp) (w : World), Calls Tryz.prog 81 #[q0S s] w fun r w' => r = .returned (.bool (q0f s)) ∧ Below w.heap.size w w'
 has : ∀ (s : Sp) (k : List UInt8) (w : World), Calls Tryz.prog 127 #[q0S s, .string (bs k)] w fun r w' => r = .returned (.bool (hasS s k)) ∧ Below w.heap.size w w'
 meets : ∀ (a b : Sp) (w : World), Calls Tryz.prog 241 #[q0S a, q0S b] w fun r w' => r = .returned (.bool (q2r a b)) ∧ Below w.heap.size w w'
 normal : ∀ (l : List Sp) (A : Option Addr) (c : Nat) (w : World), okI l → ChI w w.heap.size A c l → Calls Tryz.prog 266 #[.slice A l.length c] w fun r w' => r = .returned (.bool (q3E l)) ∧ Below w.heap.size w w'
 meet : ∀ (a b : List Sp) (A B : Option Addr) (c d : Nat) (w : World), okI a → okI b → ChI w w.heap.size A c a → ChI w w.heap.size B d b → Calls Tryz.prog 192 #[.slice A a.length c, .slice B b.length d] w fun r w' => r = .returned (.bool (q1Y a b)) ∧ Below w.heap.size w w'
 add : ∀ (a : List Sp) (s : Sp) (A : Option Addr) (c : Nat) (w : World), okI a → ChI w w.heap.size A c a → Calls Tryz.prog 122 #[.slice A a.length c, q0S s] w (RetI (q0a (a ++ [s])) w)
 join : ∀ (a b : List Sp) (A B : Option Addr) (c d : Nat) (w : World), okI a → okI b → ChI w w.heap.size A c a → ChI w w.heap.size B d b → Calls Tryz.prog 245 #[.slice A a.length c, .slice B b.length d] w (RetI (q0a (a ++ b)) w)
 fit : ∀ (a : List Sp) (A : Option Addr) (c : Nat) (n : Int) (w : World), okI a → -9223372036854775808 ≤ n → n ≤ 9223372036854775807 → ChI w w.heap.size A c a → Calls Tryz.prog 121 #[.slice A a.length c, .int .i64 n] w (RetI (fitI n (q0a a)) w)
open Go.RowKit
open Go.RowKit
section
variable {w : World} {l m : List Sp} {A B : Option Addr} {c d : Nat}
end
theorem qf5 {n : Int} (l : List Sp) : (fitI n l).length ≤ fitN n := by
 have h := qcI (fitN n) l.length l (Nat.le_refl _)
 have := q5q n
 unfold fitI
 omega
theorem q3d {n : Int} (l : List Sp) : (fitI n l).length ≤ l.length := by
 by_cases h : l.length ≤ fitN n
 ·rw [q7p h]
  exact Nat.le_refl _
 ·have := qf5 (n := n) l
  omega
theorem qcE {n : Int} {l : List Sp} (h : q0B l) : q0B (fitI n l) := (q7q _ _ l (Nat.le_refl _) h).1
theorem qfr {n : Int} {l : List Sp} (h : q0B l) {k : List UInt8} (hk : inP l k = true) : inP (fitI n l) k = true := (q7q _ _ l (Nat.le_refl _) h).2 k hk
open Go.RowKit
def FT (L : LimT) : List Sp → List Sp := fun l => fitI L.marks (q0a l)
def MayT (L : LimT) : Bool := MayS L.s && (decide (1 ≤ L.marks) && decide (L.marks ≤ 1048576)) && (decide (1 ≤ L.recs) && decide (L.recs ≤ 1048576)) && (decide (1 ≤ L.live) && decide (L.live ≤ 64))
def limT (L : LimT) : Value := q3A L.s L.marks L.recs L.live
def q0H (b : q08) : Prop := WgtT b ≤ 990 ∧ qag b
abbrev q2p := Nat → World → Nat → (Nat → Prop) → LimT → q08 → Prop
def ResT (F : Nat → Prop) (o : Nat) (w : World) : Nat → Prop := fun k => F k ∨ k < o ∨ w.heap.size ≤ k
def q21 (St : q2p) (o : Nat) (w : World) (p : Nat) (F : Nat → Prop) (L : LimT) (b : q08) (w' : World) (F' : Nat → Prop) : Prop := St o w' p F' L b ∧ Mut F w w' ∧ ∀ k, F' k → F k ∨ w.heap.size ≤ k
structure TxnC (St : q2p) : Prop where
 keep : ∀ {o : Nat} {w w' : World} {p : Nat} {F : Nat → Prop} {L : LimT} {b : q08}, St o w p F L b → (∀ k, F k ∨ k < o → k < w.heap.size → w'.heap[k]? = w.heap[k]?) → w.heap.size ≤ w'.heap.size → St o w' p F L b
 upto : ∀ {o : Nat} {w : World} {p : Nat} {F : Nat → Prop} {L : LimT} {b : q08}, St o w p F L b → ∀ k, F k → o ≤ k ∧ k < w.heap.size
 okay : ∀ {o : Nat} {w : World} {p : Nat} {F : Nat → Prop} {L : LimT} {b : q08}, St o w p F L b → MayT L = true ∧ OkS b.st ∧ InS L.s b.st
 new : ∀ (L : LimT) (o : Nat) (w : World), o ≤ w.heap.size → I64 L.s.keys → I64 L.s.vers → I64 L.s.byts → L.s.last < 18446744073709551616 → I64 L.marks → I64 L.recs → I64 L.live →
  Calls Tryz.prog 14 #[limT L] w fun r w' => Below w.heap.size w w' ∧
   (if MayT L = true then ∃ p F, r = .returned (.tuple #[ptrS p, .int .i64 0]) ∧ St o w' p F L q3u ∧ ∀ k, F k → w.heap.size ≤ k else r = .returned (.tuple #[.pointer none, .int .i64 1]))
 begin_ : ∀ (o p : Nat) (F : Nat → Prop) (L : LimT) (b : q08) (w : World), St o w p F L b → q0H b →
  Calls Tryz.prog 37 #[ptrS p] w fun r w' => r = .returned (.tuple #[.int .i64 ((q0J L b).2.n : Nat), .int .i64 (q0J L b).2.e]) ∧ ∃ F', q21 St o w p F L (q0J L b).1 w' F'
 read : ∀ (o p : Nat) (F : Nat → Prop) (L : LimT) (b : q08) (id : Int) (key : KeyS) (w : World), St o w p F L b → q0H b → I64 id → key.length ≤ 300 →
  Calls Tryz.prog 38 #[ptrS p, .int .i64 id, .string (bs key)] w fun r w' => ∃ A c F', r = .returned (.tuple #[.slice A (q15 (FT L) b id key).2.b.length c, .bool (q15 (FT L) b id key).2.is, .int .i64 (q15 (FT L) b id key).2.e]) ∧
   ByS w' (ResT F' o w) A c (q15 (FT L) b id key).2.b ∧ q21 St o w p F L (q15 (FT L) b id key).1 w' F'
 scan : ∀ (o p : Nat) (F : Nat → Prop) (L : LimT) (b : q08) (id : Int) (lo hi : KeyS) (w : World), St o w p F L b → q0H b → I64 id → lo.length ≤ 300 → hi.length ≤ 300 →
  Calls Tryz.prog 39 #[ptrS p, .int .i64 id, .string (bs lo), .string (bs hi)] w fun r w' => ∃ A c F', r = .returned (.tuple #[.slice A (q1E (FT L) b id lo hi).2.scan.length c, .int .i64 (q1E (FT L) b id lo hi).2.e]) ∧
   PaS w' (ResT F' o w) A c (q1E (FT L) b id lo hi).2.scan ∧ q21 St o w p F L (q1E (FT L) b id lo hi).1 w' F'
 write : ∀ (o p : Nat) (F : Nat → Prop) (L : LimT) (b : q08) (id : Int) (x : Wr) (A : Option Addr) (c : Nat) (w : World), St o w p F L b → q0H b → I64 id → q2h x → ByS w (fun k => k < o ∨ (o ≤ k ∧ ¬ F k)) A c x.dat →
  Calls Tryz.prog 41 #[ptrS p, .int .i64 id, q4i x A c] w fun r w' => r = .returned (.int .i64 (q0F b id x).2.e) ∧
   ∃ F', St o w' p F' L (q0F b id x).1 ∧ Mut F w w' ∧ ∀ k, F' k → F k ∨ w.heap.size ≤ k ∨ (0 < x.dat.length ∧ ∃ d s, A = some ⟨k, d, s⟩)
 commit : ∀ (o p : Nat) (F : Nat → Prop) (L : LimT) (b : q08) (id : Int) (w : World), St o w p F L b → q0H b → I64 id →
  Calls Tryz.prog 42 #[ptrS p, .int .i64 id] w fun r w' => r = .returned (.tuple #[.int .u64 ((q0l (FT L) L b id).2.n : Nat), .int .i64 (q0l (FT L) L b id).2.e]) ∧ ∃ F', q21 St o w p F L (q0l (FT L) L b id).1 w' F'
 abort : ∀ (o p : Nat) (F : Nat → Prop) (L : LimT) (b : q08) (id : Int) (w : World), St o w p F L b → q0H b → I64 id →
  Calls Tryz.prog 56 #[ptrS p, .int .i64 id] w fun r w' => r = .returned (.int .i64 (q1M (FT L) L b id).2.e) ∧ ∃ F', q21 St o w p F L (q1M (FT L) L b id).1 w' F'
 collect : ∀ (o p : Nat) (F : Nat → Prop) (L : LimT) (b : q08) (w : World), St o w p F L b → q0H b →
  Calls Tryz.prog 46 #[ptrS p] w fun r w' => r = .returned (.int .i64 ((q1G b).2.n : Nat)) ∧ ∃ F', q21 St o w p F L (q1G b).1 w' F'
 low : ∀ (o p : Nat) (F : Nat → Prop) (L : LimT) (b : q08) (w : World), St o w p F L b → q0H b → Calls Tryz.prog 21 #[ptrS p] w fun r w' => r = .returned (.int .u64 (lowT b : Nat)) ∧ Below w.heap.size w w'
 now : ∀ (o p : Nat) (F : Nat → Prop) (L : LimT) (b : q08) (w : World), St o w p F L b → Calls Tryz.prog 20 #[ptrS p] w fun r w' => r = .returned (.int .u64 b.st.time) ∧ Below w.heap.size w w'
 live : ∀ (o p : Nat) (F : Nat → Prop) (L : LimT) (b : q08) (w : World), St o w p F L b → q0H b → Calls Tryz.prog 24 #[ptrS p] w fun r w' => ∃ A c, r = .returned (.slice A b.live.length c) ∧ InS_ w' (ResT F o w) A c (b.live.map TxS.id) ∧ Below w.heap.size w w'
 records : ∀ (o p : Nat) (F : Nat → Prop) (L : LimT) (b : q08) (w : World), St o w p F L b → q0H b → Calls Tryz.prog 29 #[ptrS p] w fun r w' => ∃ A c, r = .returned (.slice A b.recs.length c) ∧ ReS w' (ResT F o w) A c b.recs ∧ Below w.heap.size w w'
 history : ∀ (o p : Nat) (F : Nat → Prop) (L : LimT) (b : q08) (w : World), St o w p F L b → q0H b → Calls Tryz.prog 31 #[ptrS p] w fun r w' => ∃ A c, r = .returned (.slice A b.hist.length c) ∧ DoS w' (ResT F o w) A c b.hist ∧ Below w.heap.size w w'
 all : ∀ (o p : Nat) (F : Nat → Prop) (L : LimT) (b : q08) (w : World), St o w p F L b → Calls Tryz.prog 33 #[ptrS p] w fun r w' => ∃ A c, r = .returned (.slice A (q1q b.st.K [] [] b.st.time).length c) ∧ PaS w' (ResT F o w) A c (q1q b.st.K [] [] b.st.time) ∧ Below w.heap.size w w'
 count : ∀ (o p : Nat) (F : Nat → Prop) (L : LimT) (b : q08) (w : World), St o w p F L b → Calls Tryz.prog 26 #[ptrS p] w fun r w' => r = .returned (.agg #[.int .i64 (b.st.K.length : Nat), .int .i64 (q1l b.st.K : Nat), .int .i64 (q39 b.st.K : Nat)]) ∧ Below w.heap.size w w'
end Go.Proofs.YtdpbllacfljmoaaGreat
