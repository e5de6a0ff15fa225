import Derived.Test.YtdpbllacfljmoaaGreatZF08
import Derived.Deep.RegionHeld3
import Derived.Lib.MinMax
import Derived.Test.YtdpbllacfljmoaaGreatZF04
import Derived.Deep.LoopGhost
import Derived.Deep.DeepCutAuto
import Derived.Test.YtdpbllacfljmoaaGreatZF06
import Derived.Test.YtdpbllacfljmoaaGreatZF03
set_option maxRecDepth 100000
set_option maxHeartbeats 16000000
set_option linter.unusedVariables false
namespace Go.Proofs.YtdpbllacfljmoaaGreat
open Go.RowKit
open Go.RowKit
open Go.RowKit
theorem OwnG.oneI {α : Type} {cs : α → List Value} {k : Nat} {w : World} {g : Nat} {e : TypeId} {x : α} (hF : q12 k cs) (h : w.heap[g]? = some (.cells (cs x).toArray e (0, 0))) : OwnG e k cs w g (.slice (some ⟨g, 0, none⟩) 1 1) [x] := by
 refine ⟨by rw [q6f, hF.len]; simp, .inr ⟨g, 1, _, rfl, Nat.le_refl _, h, Nat.le_refl _, by simp [maxLen], by simp [hF.len], ?_⟩⟩
 rw [q6f]
 exact List.take_of_length_le (by simp [hF.len])
def fitN (n : Int) : Nat := (max n 1).toNat
def fitI (n : Int) (l : List Sp) : List Sp := fitS (fitN n) l
theorem q8C (n : Int) : max n 1 = (fitN n : Int) := by unfold fitN; omega
theorem q5C (n : Int) : 1 ≤ fitN n := by unfold fitN; omega
theorem q7G {n : Int} {l : List Sp} (h : l.length ≤ fitN n) : fitI n l = l := qd7 (by have := q5C n; omega)
open Go.RowKit
def okI (l : List Sp) : Prop := l.length ≤ 1000
structure q9u : Prop where
 point : ∀ (k : List UInt8) (w : World), k.length ≤ 1000000 → Calls Tryz.prog 79 #[.string (bs k)] w fun r w' => r = .returned (q0T ⟨k, k ++ [0]⟩) ∧ Below w.heap.size w w'
 right : ∀ (s : Sp) (w : World), Calls Tryz.prog 81 #[q0T s] w fun r w' => r = .returned (.bool (q0f s)) ∧ Below w.heap.size w w'
 has : ∀ (s : Sp) (k : List UInt8) (w : World), Calls Tryz.prog 127 #[q0T s, .string (bs k)] w fun r w' => r = .returned (.bool (hasS s k)) ∧ Below w.heap.size w w'
 meets : ∀ (a b : Sp) (w : World), Calls Tryz.prog 241 #[q0T a, q0T b] w fun r w' => r = .returned (.bool (q2y a b)) ∧ Below w.heap.size w w'
 normal : ∀ (l : List Sp) (A : Option Addr) (c : Nat) (w : World), okI l → ChI w w.heap.size A c l → Calls Tryz.prog 266 #[.slice A l.length c] w fun r w' => r = .returned (.bool (q3F l)) ∧ Below w.heap.size w w'
 meet : ∀ (a b : List Sp) (A B : Option Addr) (c d : Nat) (w : World), okI a → okI b → ChI w w.heap.size A c a → ChI w w.heap.size B d b → Calls Tryz.prog 192 #[.slice A a.length c, .slice B b.length d] w fun r w' => r = .returned (.bool (q28 a b)) ∧ Below w.heap.size w w'
 add : ∀ (a : List Sp) (s : Sp) (A : Option Addr) (c : Nat) (w : World), okI a → ChI w w.heap.size A c a → Calls Tryz.prog 122 #[.slice A a.length c, q0T s] w (RetI (q0a (a ++ [s])) w)
 join : ∀ (a b : List Sp) (A B : Option Addr) (c d : Nat) (w : World), okI a → okI b → ChI w w.heap.size A c a → ChI w w.heap.size B d b → Calls Tryz.prog 245 #[.slice A a.length c, .slice B b.length d] w (RetI (q0a (a ++ b)) w)
 fit : ∀ (a : List Sp) (A : Option Addr) (c : Nat) (n : Int) (w : World), okI a → -9223372036854775808 ≤ n → n ≤ 9223372036854775807 → ChI w w.heap.size A c a → Calls Tryz.prog 121 #[.slice A a.length c, .int .i64 n] w (RetI (fitI n (q0a a)) w)
open Go.RowKit
open Go.RowKit
section
variable {w : World} {l m : List Sp} {A B : Option Addr} {c d : Nat}
theorem ChI.len (h : ChI w w.heap.size A c l) : l.length ≤ 9223372036854775807 := by have := h.1; have := h.2.1; unfold maxLen at this; omega
theorem qe9 (h1 : ChI w w.heap.size A c l) (h2 : ChI w w.heap.size B d l) : Calls Tryz.prog 72 #[.slice A l.length c, .slice B l.length d] w fun r w' => r = .returned (.bool true) ∧ Below w.heap.size w w' :=
 (q3I l l A B c d w h1.len h2.len h1.2.2.2 h2.2.2.2).mono fun _ _ q => ⟨by rw [q.1]; unfold q4J; rw [decide_eq_true rfl], q.2⟩
end
theorem qfE {n : Int} (l : List Sp) : (fitI n l).length ≤ fitN n := by
 have h := qd8 (fitN n) l.length l (Nat.le_refl _)
 have := q5C n
 unfold fitI
 omega
theorem q3j {n : Int} (l : List Sp) : (fitI n l).length ≤ l.length := by
 by_cases h : l.length ≤ fitN n
 ·rw [q7G h]
  exact Nat.le_refl _
 ·have := qfE (n := n) l
  omega
theorem qd4 {n : Int} {l : List Sp} (h : q0D l) : q0D (fitI n l) := (q7H _ _ l (Nat.le_refl _) h).1
theorem qg2 {n : Int} {l : List Sp} (h : q0D l) {k : List UInt8} (hk : inP l k = true) : inP (fitI n l) k = true := (q7H _ _ l (Nat.le_refl _) h).2 k hk
open Go.RowKit
def FT (L : LimT) : List Sp → List Sp := fun l => fitI L.marks (q0a l)
def MayT (L : LimT) : Bool := MayS L.s && (decide (1 ≤ L.marks) && decide (L.marks ≤ 1048576)) && (decide (1 ≤ L.recs) && decide (L.recs ≤ 1048576)) && (decide (1 ≤ L.live) && decide (L.live ≤ 64))
def limT (L : LimT) : Value := q3B L.s L.marks L.recs L.live
def q0L (b : q08) : Prop := WgtT b ≤ 990 ∧ qaB b
abbrev q2w := Nat → World → Nat → (Nat → Prop) → LimT → q08 → Prop
def ResT (F : Nat → Prop) (o : Nat) (w : World) : Nat → Prop := fun k => F k ∨ k < o ∨ w.heap.size ≤ k
def q2b (St : q2w) (o : Nat) (w : World) (p : Nat) (F : Nat → Prop) (L : LimT) (b : q08) (w' : World) (F' : Nat → Prop) : Prop := St o w' p F' L b ∧ Mut F w w' ∧ ∀ k, F' k → F k ∨ w.heap.size ≤ k
structure TxnC (St : q2w) : Prop where
 keep : ∀ {o : Nat} {w w' : World} {p : Nat} {F : Nat → Prop} {L : LimT} {b : q08}, St o w p F L b → (∀ k, F k ∨ k < o → k < w.heap.size → w'.heap[k]? = w.heap[k]?) → w.heap.size ≤ w'.heap.size → St o w' p F L b
 upto : ∀ {o : Nat} {w : World} {p : Nat} {F : Nat → Prop} {L : LimT} {b : q08}, St o w p F L b → ∀ k, F k → o ≤ k ∧ k < w.heap.size
 okay : ∀ {o : Nat} {w : World} {p : Nat} {F : Nat → Prop} {L : LimT} {b : q08}, St o w p F L b → MayT L = true ∧ OkS b.st ∧ InS L.s b.st
 new : ∀ (L : LimT) (o : Nat) (w : World), o ≤ w.heap.size → I64 L.s.keys → I64 L.s.vers → I64 L.s.byts → L.s.last < 18446744073709551616 → I64 L.marks → I64 L.recs → I64 L.live →
  Calls Tryz.prog 14 #[limT L] w fun r w' => Below w.heap.size w w' ∧
   (if MayT L = true then ∃ p F, r = .returned (.tuple #[ptrS p, .int .i64 0]) ∧ St o w' p F L q2Z ∧ ∀ k, F k → w.heap.size ≤ k else r = .returned (.tuple #[.pointer none, .int .i64 1]))
 begin_ : ∀ (o p : Nat) (F : Nat → Prop) (L : LimT) (b : q08) (w : World), St o w p F L b → q0L b →
  Calls Tryz.prog 37 #[ptrS p] w fun r w' => r = .returned (.tuple #[.int .i64 ((q0N L b).2.n : Nat), .int .i64 (q0N L b).2.e]) ∧ ∃ F', q2b St o w p F L (q0N L b).1 w' F'
 read : ∀ (o p : Nat) (F : Nat → Prop) (L : LimT) (b : q08) (id : Int) (key : KeyS) (w : World), St o w p F L b → q0L b → I64 id → key.length ≤ 300 →
  Calls Tryz.prog 38 #[ptrS p, .int .i64 id, .string (bs key)] w fun r w' => ∃ A c F', r = .returned (.tuple #[.slice A (q16 (FT L) b id key).2.b.length c, .bool (q16 (FT L) b id key).2.is, .int .i64 (q16 (FT L) b id key).2.e]) ∧
   ByS w' (ResT F' o w) A c (q16 (FT L) b id key).2.b ∧ q2b St o w p F L (q16 (FT L) b id key).1 w' F'
 scan : ∀ (o p : Nat) (F : Nat → Prop) (L : LimT) (b : q08) (id : Int) (lo hi : KeyS) (w : World), St o w p F L b → q0L b → I64 id → lo.length ≤ 300 → hi.length ≤ 300 →
  Calls Tryz.prog 39 #[ptrS p, .int .i64 id, .string (bs lo), .string (bs hi)] w fun r w' => ∃ A c F', r = .returned (.tuple #[.slice A (q1P (FT L) b id lo hi).2.scan.length c, .int .i64 (q1P (FT L) b id lo hi).2.e]) ∧
   PaS w' (ResT F' o w) A c (q1P (FT L) b id lo hi).2.scan ∧ q2b St o w p F L (q1P (FT L) b id lo hi).1 w' F'
 write : ∀ (o p : Nat) (F : Nat → Prop) (L : LimT) (b : q08) (id : Int) (x : Wr) (A : Option Addr) (c : Nat) (w : World), St o w p F L b → q0L b → I64 id → q2q x → ByS w (fun k => k < o ∨ (o ≤ k ∧ ¬ F k)) A c x.dat →
  Calls Tryz.prog 41 #[ptrS p, .int .i64 id, q4o x A c] w fun r w' => r = .returned (.int .i64 (q0J b id x).2.e) ∧
   ∃ F', St o w' p F' L (q0J b id x).1 ∧ Mut F w w' ∧ ∀ k, F' k → F k ∨ w.heap.size ≤ k ∨ (0 < x.dat.length ∧ ∃ d s, A = some ⟨k, d, s⟩)
 commit : ∀ (o p : Nat) (F : Nat → Prop) (L : LimT) (b : q08) (id : Int) (w : World), St o w p F L b → q0L b → I64 id →
  Calls Tryz.prog 42 #[ptrS p, .int .i64 id] w fun r w' => r = .returned (.tuple #[.int .u64 ((q0r (FT L) L b id).2.n : Nat), .int .i64 (q0r (FT L) L b id).2.e]) ∧ ∃ F', q2b St o w p F L (q0r (FT L) L b id).1 w' F'
 abort : ∀ (o p : Nat) (F : Nat → Prop) (L : LimT) (b : q08) (id : Int) (w : World), St o w p F L b → q0L b → I64 id →
  Calls Tryz.prog 56 #[ptrS p, .int .i64 id] w fun r w' => r = .returned (.int .i64 (q1X (FT L) L b id).2.e) ∧ ∃ F', q2b St o w p F L (q1X (FT L) L b id).1 w' F'
 collect : ∀ (o p : Nat) (F : Nat → Prop) (L : LimT) (b : q08) (w : World), St o w p F L b → q0L b →
  Calls Tryz.prog 46 #[ptrS p] w fun r w' => r = .returned (.int .i64 ((q15 b).2.n : Nat)) ∧ ∃ F', q2b St o w p F L (q15 b).1 w' F'
 low : ∀ (o p : Nat) (F : Nat → Prop) (L : LimT) (b : q08) (w : World), St o w p F L b → q0L b → Calls Tryz.prog 21 #[ptrS p] w fun r w' => r = .returned (.int .u64 (lowT b : Nat)) ∧ Below w.heap.size w w'
 now : ∀ (o p : Nat) (F : Nat → Prop) (L : LimT) (b : q08) (w : World), St o w p F L b → Calls Tryz.prog 20 #[ptrS p] w fun r w' => r = .returned (.int .u64 b.st.time) ∧ Below w.heap.size w w'
 live : ∀ (o p : Nat) (F : Nat → Prop) (L : LimT) (b : q08) (w : World), St o w p F L b → q0L b → Calls Tryz.prog 24 #[ptrS p] w fun r w' => ∃ A c, r = .returned (.slice A b.live.length c) ∧ InS_ w' (ResT F o w) A c (b.live.map TxS.id) ∧ Below w.heap.size w w'
 records : ∀ (o p : Nat) (F : Nat → Prop) (L : LimT) (b : q08) (w : World), St o w p F L b → q0L b → Calls Tryz.prog 29 #[ptrS p] w fun r w' => ∃ A c, r = .returned (.slice A b.recs.length c) ∧ ReS w' (ResT F o w) A c b.recs ∧ Below w.heap.size w w'
 history : ∀ (o p : Nat) (F : Nat → Prop) (L : LimT) (b : q08) (w : World), St o w p F L b → q0L b → Calls Tryz.prog 31 #[ptrS p] w fun r w' => ∃ A c, r = .returned (.slice A b.hist.length c) ∧ DoS w' (ResT F o w) A c b.hist ∧ Below w.heap.size w w'
 all : ∀ (o p : Nat) (F : Nat → Prop) (L : LimT) (b : q08) (w : World), St o w p F L b → Calls Tryz.prog 33 #[ptrS p] w fun r w' => ∃ A c, r = .returned (.slice A (q1w b.st.K [] [] b.st.time).length c) ∧ PaS w' (ResT F o w) A c (q1w b.st.K [] [] b.st.time) ∧ Below w.heap.size w w'
 count : ∀ (o p : Nat) (F : Nat → Prop) (L : LimT) (b : q08) (w : World), St o w p F L b → Calls Tryz.prog 26 #[ptrS p] w fun r w' => r = .returned (.agg #[.int .i64 (b.st.K.length : Nat), .int .i64 (q1q b.st.K : Nat), .int .i64 (q3f b.st.K : Nat)]) ∧ Below w.heap.size w w'
open Go.RowKit
def q2e (o : OpT) : Bool := decide (o.w.key.length ≤ 300) && decide (o.w.dat.length ≤ 5000) && decide (o.hi.length ≤ 300)
def fewT (l : List OpT) : Bool := l.all q2e && decide (l.length ≤ 80)
theorem qeY {l : List OpT} (h : fewT l = true) : (∀ o ∈ l, q2q o.w ∧ o.hi.length ≤ 300) ∧ l.length ≤ 80 := by
 unfold fewT at h
 rw [Bool.and_eq_true, List.all_eq_true, decide_eq_true_iff] at h
 refine ⟨fun o ho => ?_, h.2⟩
 have := h.1 o ho
 unfold q2e at this
 simp only [Bool.and_eq_true, decide_eq_true_eq] at this
 exact ⟨⟨this.1.1, this.1.2⟩, this.2⟩
theorem qg1 {l : List OpT} {j : Nat} (hj : j < l.length) (h : q2e (l[j]'hj) = false) : fewT l = false := by
 unfold fewT
 rw [Bool.and_eq_false_iff]
 left
 rw [List.all_eq_false]
 exact ⟨_, List.getElem_mem hj, by rw [h]; simp⟩
theorem qd3 {l : List OpT} {j : Nat} (hj : j < l.length) (h : (l.take j).all q2e = true) (h2 : q2e (l[j]'hj) = true) : (l.take (j + 1)).all q2e = true := by
 rw [List.take_succ_eq_append_getElem hj, List.all_append, h]
 simp [h2]
theorem ChOT.len {w : World} {hi : Nat} {A : Option Addr} {c : Nat} {l : List OpT} (h : ChOT w hi A c l) : l.length ≤ 9223372036854775807 := by have := h.1; have := h.2.1; unfold maxLen at this; omega
theorem qeX (l : List OpT) (A : Option Addr) (c hi0 : Nat) (w : World) (hl : ChOT w hi0 A c l) (hhi : hi0 ≤ w.heap.size) :
  Calls Tryz.prog 13 #[.slice A l.length c] w fun r w' => r = .returned (.bool (fewT l)) ∧ Below w.heap.size w w' := by
 have hll := hl.len
 have HR := qh hl
 have HHi := qh hhi
 clear hl hhi
 go_enter Tryz.func13, Tryz.ntmps13
 go_wp2
 go_loopg [7] l.length (fun q i wr => ∃ j : Nat, j + q = l.length ∧ i = .int .i64 j ∧ (l.take j).all q2e = true ∧ Below w.heap.size w wr)
 case atStart => exact ⟨0, by omega, rfl, rfl, Below.refl _ _⟩
 case round =>
  obtain ⟨j, hk, rfl, hall, hb⟩ := hrel
  have HK := qh hk
  have HA := qh hall
  have HB := qh hb
  clear hall hb hk
  by_cases hj : j < l.length
  ·have hlt : decide ((j : Int) < (l.length : Int)) = true := by simpa using hj
   have hlt3 : decide (j < l.length) = true := by simpa using hj
   obtain ⟨b, o, rfl, hbl, x, hx, hok, c0, c1, c2, c3, c4, c5⟩ := (HR.out.below HB.out HHi.out (Nat.le_refl _)).2.2.2.at_ hj
   have HT := qh (fun h : q2e x.o = true => qd3 hj HA.out (by rw [← hx]; exact h))
   have HNo := qh (fun h : q2e x.o = false => qg1 hj (by rw [← hx]; exact h))
   obtain ⟨_, _, hkl, hhl, hdl⟩ := hok
   have hd1 := hdl.1
   have hd2 := hdl.2.1
   clear hx hdl
   obtain ⟨⟨what, id, ⟨key, gone, dat⟩, hi⟩, A', c'⟩ := x
   simp only at c0 c1 c2 c3 c4 c5 HT HNo hkl hhl hd1 hd2
   rw [← q20] at hkl hhl
   unfold maxLen at hkl hhl hd2
   have hzk : (bs key).size = key.length := q20 key
   have hzh : (bs hi).size = hi.length := q20 hi
   obtain ⟨wo, hwo⟩ : ∃ y, y = wr := ⟨_, rfl⟩
   subst hwo
   have HBN := qh (HB.out.alloc HB.out.size (.cells #[.int .i64 what, .int .i64 id, .string (bs key), .bool gone, .slice A' dat.length c', .string (bs hi)] 39))
   by_cases h1 : 300 < (bs key).size
   ·have d1 : decide (300 < ((bs key).size : Int)) = true := by rw [decide_eq_true_iff]; omega
    have d2 : decide (300 < (bs key).size) = true := by rw [decide_eq_true_iff]; omega
    have HF := qh (HNo.out (by unfold q2e; simp only; rw [decide_eq_false (show ¬ key.length ≤ 300 by omega)]; rfl))
    clear h1 hzk hzh
    go_wp2
    go_ret
    rw [HF.out]
    exact ⟨rfl, HBN.out⟩
   ·have d1 : decide (300 < ((bs key).size : Int)) = false := by rw [decide_eq_false_iff_not]; omega
    have d2 : decide (300 < (bs key).size) = false := by rw [decide_eq_false_iff_not]; omega
    by_cases h2 : 5000 < dat.length
    ·have d3 : decide (5000 < (dat.length : Int)) = true := by rw [decide_eq_true_iff]; omega
     have d4 : decide (5000 < dat.length) = true := by rw [decide_eq_true_iff]; omega
     have HF := qh (HNo.out (by unfold q2e; simp only; rw [decide_eq_false (show ¬ dat.length ≤ 5000 by omega), Bool.and_false, Bool.false_and]))
     clear h1 h2 hzk hzh
     go_wp2
     go_ret
     rw [HF.out]
     exact ⟨rfl, HBN.out⟩
    ·have d3 : decide (5000 < (dat.length : Int)) = false := by rw [decide_eq_false_iff_not]; omega
     have d4 : decide (5000 < dat.length) = false := by rw [decide_eq_false_iff_not]; omega
     by_cases h3 : 300 < (bs hi).size
     ·have d5 : decide (300 < ((bs hi).size : Int)) = true := by rw [decide_eq_true_iff]; omega
      have d6 : decide (300 < (bs hi).size) = true := by rw [decide_eq_true_iff]; omega
      have HF := qh (HNo.out (by unfold q2e; simp only; rw [decide_eq_false (show ¬ hi.length ≤ 300 by omega), Bool.and_false]))
      clear h1 h2 h3 hzk hzh
      go_wp2
      go_ret
      rw [HF.out]
      exact ⟨rfl, HBN.out⟩
     ·have d5 : decide (300 < ((bs hi).size : Int)) = false := by rw [decide_eq_false_iff_not]; omega
      have d6 : decide (300 < (bs hi).size) = false := by rw [decide_eq_false_iff_not]; omega
      have HF := qh (HT.out (by unfold q2e; simp only [Bool.and_eq_true, decide_eq_true_eq]; omega))
      clear h1 h2 h3 hzk hzh
      go_wp2
      go_roundg (gk - 1)
      case measure => have := HK.out; omega
      case rel => exact ⟨j + 1, by have := HK.out; omega, by go_num, HF.out, HBN.out⟩
  ·have hj' : j = l.length := by have := HK.out; omega
   subst hj'
   have hlt : decide ((l.length : Int) < (l.length : Int)) = false := by simp
   have hlt2 : decide (l.length < l.length) = false := by simp
   have hF := HA.out
   rw [List.take_length] at hF
   by_cases h4 : l.length ≤ 80
   ·have d1 : decide ((l.length : Int) ≤ 80) = true := by rw [decide_eq_true_iff]; omega
    have d1' : decide (l.length ≤ 80) = true := by rw [decide_eq_true_iff]; omega
    have HF := qh (show fewT l = true by unfold fewT; rw [hF, d1']; rfl)
    clear hF hj h4
    go_wp2_with fail
    go_ret
    rw [HF.out]
    exact ⟨rfl, HB.out⟩
   ·have d1 : decide ((l.length : Int) ≤ 80) = false := by rw [decide_eq_false_iff_not]; omega
    have d1' : decide (l.length ≤ 80) = false := by rw [decide_eq_false_iff_not]; omega
    have HF := qh (show fewT l = false by unfold fewT; rw [hF, d1']; rfl)
    clear hF hj h4
    go_wp2_with fail
    go_ret
    rw [HF.out]
    exact ⟨rfl, HB.out⟩
def BigT : LimT := ⟨⟨1000, 100000, 1048576, 1099511627776⟩, 1000, 1000, 16⟩
theorem qeI : MayT BigT = true := by decide
theorem q4u {w : World} {h : Nat} {t : TypeId} {a0 a1 a2 a3 a4 a5 a6 : Value} (hb : w.heap[h]? = some (.cells #[a0, a1, a2, a3, a4, a5, a6] t (0, 0))) : w.cell? ⟨h, 0, none⟩ = some a0 ∧ w.cell? ⟨h, 1, none⟩ = some a1 ∧ w.cell? ⟨h, 2, none⟩ = some a2 ∧ w.cell? ⟨h, 3, none⟩ = some a3 ∧ w.cell? ⟨h, 4, none⟩ = some a4 ∧ w.cell? ⟨h, 5, none⟩ = some a5 ∧ w.cell? ⟨h, 6, none⟩ = some a6 :=
 ⟨cell_of_row w h 0 _ _ _ hb, cell_of_row w h 1 _ _ _ hb, cell_of_row w h 2 _ _ _ hb, cell_of_row w h 3 _ _ _ hb, cell_of_row w h 4 _ _ _ hb, cell_of_row w h 5 _ _ _ hb, cell_of_row w h 6 _ _ _ hb⟩
theorem qaE (w : World) : Calls Tryz.prog 36 #[] w fun r w' => r = .returned (limT BigT) ∧ Below w.heap.size w w' := by
 obtain ⟨w0, hw0⟩ : ∃ y, w.alloc (.cells #[.int .i64 0, .int .i64 0, .int .i64 0, .int .i64 0, .int .i64 0, .int .i64 0, .int .u64 0] 24) = y := ⟨_, rfl⟩
 have b0 : Below w.heap.size w w0 := by rw [← hw0]; exact (Below.refl _ w).alloc (Nat.le_refl _) _
 have h0 : w0.heap[w.heap.size]? = some (.cells #[.int .i64 0, .int .i64 0, .int .i64 0, .int .i64 0, .int .i64 0, .int .i64 0, .int .u64 0] 24 (0, 0)) := by rw [← hw0]; exact heap_alloc_new w _
 have f0 := q02 h0 0
 have f1 := q02 h0 1
 have f2 := q02 h0 2
 have f3 := q02 h0 3
 have f4 := q02 h0 4
 have f5 := q02 h0 5
 have f6 := q02 h0 6
 obtain ⟨z0, z1, z2, z3, z4, z5, z6⟩ := q4u h0
 have HZ := qh (qeK h0 (.int .i64 1000) (.int .i64 100000) (.int .i64 1048576) (.int .i64 1000) (.int .i64 1000) (.int .i64 16) (.int .u64 1099511627776))
 have HB := qh (Below.box7 b0 (Nat.le_refl _) (.int .i64 1000) (.int .i64 100000) (.int .i64 1048576) (.int .i64 1000) (.int .i64 1000) (.int .i64 16) (.int .u64 1099511627776))
 have HW0 := qh hw0
 clear h0 b0 hw0
 go_enter Tryz.func36, Tryz.ntmps36
 go_upto_region 1 with fail
 rw [HW0.out]
 clear HW0
 go_wp2
 obtain ⟨t0, t1, t2, t3, t4, t5, t6⟩ := q4u HZ.out
 refine bodyPost_ret (v := limT BigT) (by simp [results, Tryz.results36, go_sem, t0, t1, t2, t3, t4, t5, t6]; rfl) rfl ?_
 exact ⟨rfl, HB.out⟩
theorem q6q {St : q2w} (K : TxnC St) (L : LimT) (o : Nat) (w : World) (ho : o ≤ w.heap.size) (h1 : I64 L.s.keys) (h2 : I64 L.s.vers) (h3 : I64 L.s.byts) (h4 : L.s.last < 18446744073709551616) (h5 : I64 L.marks) (h6 : I64 L.recs) (h7 : I64 L.live) :
  Calls Tryz.prog 35 #[limT L] w fun r w' => Below w.heap.size w w' ∧
   (if MayT L = true then ∃ p F, r = .returned (ptrS p) ∧ St o w' p F L q2Z ∧ ∀ k, F k → w.heap.size ≤ k else r = .returned (.pointer none)) := by
 have hba : Below w.heap.size w (w.alloc (.cells #[.int .i64 L.s.keys, .int .i64 L.s.vers, .int .i64 L.s.byts, .int .i64 L.marks, .int .i64 L.recs, .int .i64 L.live, .int .u64 L.s.last] 24)) := (Below.refl _ w).alloc (Nat.le_refl _) _
 have HC := qh (K.new L o (w.alloc (.cells #[.int .i64 L.s.keys, .int .i64 L.s.vers, .int .i64 L.s.byts, .int .i64 L.marks, .int .i64 L.recs, .int .i64 L.live, .int .u64 L.s.last] 24)) (Nat.le_trans ho hba.size) h1 h2 h3 h4 h5 h6 h7)
 have HB := qh hba
 clear hba
 unfold limT q3B at *
 go_enter Tryz.func35, Tryz.ntmps35
 go_wp2_with fail
 refine HC.out.mono ?_
 rintro r w2 ⟨hb2, hr⟩
 have HB2 := qh (HB.out.trans (hb2.mono HB.out.size))
 clear hb2
 by_cases hm : MayT L = true
 ·rw [if_pos hm] at hr
  obtain ⟨p, F, rfl, hst, hF⟩ := hr
  have HQ := qh (And.intro hst hF)
  have HM := qh hm
  clear hst hF hm
  go_wp2_with fail
  go_ret
  refine ⟨HB2.out, ?_⟩
  exact ⟨p, rfl, F, HQ.out.1, fun k hk => Nat.le_trans (by simp) (HQ.out.2 k hk)⟩
 ·rw [if_neg hm] at hr
  have HM := qh hm
  clear hm
  subst hr
  go_wp2_with fail
  go_ret
  exact ⟨HB2.out, rfl⟩
theorem q5G (k : List UInt8) (x : UInt8) (w : World) : Calls Tryz.prog 51 #[.string (bs k), .string (bs [x])] w fun r w' => ∃ A c, r = .returned (q4o ⟨k, false, [x]⟩ A c) ∧ SlI w' w.heap.size w'.heap.size A c [x] ∧ Below w.heap.size w w' := by
 have hz : (bs [x]).size = 1 := q20 [x]
 obtain ⟨X, hX⟩ : ∃ X, bs [x] = X := ⟨_, rfl⟩
 rw [hX] at hz ⊢
 have HX := qh hX
 clear hX
 obtain ⟨w0, hw0⟩ : ∃ y, w.alloc (.cells #[.string ⟨#[]⟩, .bool false, .slice none 0 0] 37) = y := ⟨_, rfl⟩
 have b0 : Below w.heap.size w w0 := by rw [← hw0]; exact (Below.refl _ w).alloc (Nat.le_refl _) _
 have h0 : w0.heap[w.heap.size]? = some (.cells #[.string ⟨#[]⟩, .bool false, .slice none 0 0] 37 (0, 0)) := by rw [← hw0]; exact heap_alloc_new w _
 have hs0 : w0.heap.size = w.heap.size + 1 := by rw [← hw0]; simp
 have HW0 := qh hw0
 have H0 := qh h0
 have HS0 := qh hs0
 have HB0 := qh b0
 clear hw0 b0 h0 hs0
 have hcv := run_bytes_of_string (P := Tryz.prog) w0 9 35 5 X Tryz.underlying9 Tryz.underlying35 Tryz.underlying5
 have hg1 := grownCap_ge w0 1 0 5
 have hg2 := grownCap_le_maxLen w0 1 0 5 (by decide)
 rw [hz] at hcv
 generalize grownCap w0 1 0 5 = C at *
 obtain ⟨w1, hw1⟩ : ∃ y, w0.drew.alloc (.cells (bytesRow X C) 5 ((bytesRow X C).size, (bytesRow X C).size + 1)) = y := ⟨_, rfl⟩
 rw [hw1] at hcv
 have b1 : Below w.heap.size w w1 := by rw [← hw1]; exact (HB0.out.drew).alloc HB0.out.size _
 have hr1 : w1.heap[w.heap.size + 1]? = some (.cells (bytesRow X C) 5 ((bytesRow X C).size, (bytesRow X C).size + 1)) := by rw [← hw1, ← HS0.out]; exact heap_alloc_new w0.drew _
 have h1 : w1.heap[w.heap.size]? = some (.cells #[.string ⟨#[]⟩, .bool false, .slice none 0 0] 37 (0, 0)) := by rw [← hw1]; exact q01 H0.out ((Below.refl _ w0).drew.alloc (Nat.le_refl _) _) (q00 H0.out)
 have hs1 : w1.heap.size = w.heap.size + 2 := by rw [← hw1]; show (w0.alloc _).heap.size = _; simp [HS0.out]
 have f0 := q02 h1 0
 have f1 := q02 h1 1
 have f2 := q02 h1 2
 have z0 := cell_of_row w1 _ 0 _ _ _ h1
 have z1 := cell_of_row w1 _ 1 _ _ _ h1
 have z2 := cell_of_row w1 _ 2 _ _ _ h1
 have HR1 := qh hr1
 have HS1 := qh hs1
 have HB1 := qh b1
 have HZ := qh (q2z h1 (.string (bs k)) (.bool false) (.slice (some ⟨w.heap.size + 1, 0, none⟩) 1 C))
 rw [HS0.out] at hcv
 clear hr1 hs1 b1 hw1 h1
 go_enter Tryz.func51, Tryz.ntmps51
 go_upto_region 1 with fail
 rw [HW0.out]
 clear HW0
 go_wp2_with fail
 have t0 := cell_of_row _ _ 0 _ _ _ HZ.out
 have t1 := cell_of_row _ _ 1 _ _ _ HZ.out
 have t2 := cell_of_row _ _ 2 _ _ _ HZ.out
 refine bodyPost_ret (v := q4o ⟨k, false, [x]⟩ (some ⟨w.heap.size + 1, 0, none⟩) C) (by simp [results, Tryz.results51, go_sem, t0, t1, t2]; rfl) rfl ?_
 refine ⟨_, _, rfl, ⟨hg1, hg2, (fun e => by cases e), fun _ => ⟨w.heap.size + 1, 0, rfl, Nat.le_succ _, ?_, fun j hj => ?_⟩⟩, Below.box3 HB1.out (Nat.le_refl _) _ _ _⟩
 ·rw [show (World.setCell _ _ _).heap.size = w1.heap.size by simp [World.setCell], HS1.out]
  omega
 ·have hj0 : j = 0 := by simpa using hj
  subst hj0
  rw [World.cell?_of_block (q30 (by simp) _ _ _), cell_of_row _ (w.heap.size + 1) _ _ _ _ HR1.out, ← HX.out]
  unfold bytesRow
  rw [Array.getElem?_append_left (by simp [bs])]
  simp [bs]
structure q2t where
 ahead : Bool
 behind : Bool
 reach : Nat
 first : Nat
def q0A (r : RecS) : Nat := if r.writes.isEmpty then r.began else r.last
def q0v (s : q2t) (r : RecS) : q2t := ⟨true, s.behind, max s.reach (q0A r), s.first⟩
def q0i (s : q2t) (r : RecS) : q2t := ⟨s.ahead, true, s.reach, if !s.behind || decide (r.first < s.first) then r.first else s.first⟩
def q1B (s : q2t) : Bool := s.ahead && s.behind && decide (s.first ≤ s.reach)
def q1h (t r : RecS) : Bool := decide (t.began < r.last) && q28 r.reads t.writes
def q1I (t r : RecS) : Bool := decide (t.began < r.last) && q28 t.reads r.writes
def q3L (t : RecS) (s : q2t) (r : RecS) : q2t := if q1h t r = true then q0v s r else s
def qci (t : RecS) (s : q2t) (r : RecS) : q2t := if q1I t r = true then q0i s r else s
def q5b (t : RecS) (s : q2t) (r : RecS) : q2t := qci t (q3L t s r) r
def qgp : q2t := ⟨false, false, 0, 0⟩
def q25 (l : List RecS) (t : RecS) (j : Nat) : q2t := (l.take j).foldl (q5b t) qgp
theorem q9g {l : List RecS} {t : RecS} {j : Nat} (hj : j < l.length) : q25 l t (j + 1) = q5b t (q25 l t j) (l[j]'hj) := by
 unfold q25
 rw [List.take_succ_eq_append_getElem hj, List.foldl_append]
 rfl
structure q8b (p : List RecS) (t : RecS) (s : q2t) : Prop where
 reach : ∀ b ∈ p, q1h t b = true → s.ahead = true ∧ q0A b ≤ s.reach
 some_r : s.ahead = true → ∃ b ∈ p, q1h t b = true ∧ (q0A b = s.reach)
 first : ∀ a ∈ p, q1I t a = true → s.behind = true ∧ s.first ≤ a.first
 some_f : s.behind = true → ∃ a ∈ p, q1I t a = true ∧ a.first = s.first
 none_r : s.ahead = false → s.reach = 0
 none_f : s.behind = false → s.first = 0
theorem qgj (t : RecS) : q8b [] t qgp := ⟨(fun b hb => by cases hb), (fun h => by cases h), (fun b hb => by cases hb), (fun h => by cases h), fun _ => rfl, fun _ => rfl⟩
theorem qgi {p : List RecS} {t r : RecS} {s : q2t} (h : q8b p t s) : q8b (p ++ [r]) t (q5b t s r) := by
 have hA : q8b p t s ∧ (q1h t r = true → (q3L t s r).ahead = true ∧ q0A r ≤ (q3L t s r).reach) ∧ (∀ b ∈ p, q1h t b = true → (q3L t s r).ahead = true ∧ q0A b ≤ (q3L t s r).reach) ∧
   ((q3L t s r).ahead = true → ∃ b ∈ p ++ [r], q1h t b = true ∧ q0A b = (q3L t s r).reach) ∧ (q3L t s r).behind = s.behind ∧ (q3L t s r).first = s.first ∧ ((q3L t s r).ahead = false → (q3L t s r).reach = 0) := by
  refine ⟨h, ?_⟩
  unfold q3L
  by_cases hr : q1h t r = true
  ·rw [if_pos hr]
   refine ⟨fun _ => ⟨rfl, Nat.le_max_right _ _⟩, fun b hb hrb => ⟨rfl, Nat.le_trans (h.reach b hb hrb).2 (Nat.le_max_left _ _)⟩, fun _ => ?_, rfl, rfl, fun e => by cases e⟩
   by_cases hm : s.reach ≤ q0A r
   ·exact ⟨r, by simp, hr, by show q0A r = max s.reach (q0A r); omega⟩
   ·cases ha : s.ahead with
    | false =>
     have := h.none_r ha
     omega
    | true =>
     obtain ⟨b, hb, h1, h2⟩ := h.some_r ha
     exact ⟨b, by simp [hb], h1, by show q0A b = max s.reach (q0A r); omega⟩
  ·rw [if_neg hr]
   refine ⟨fun e => absurd e hr, h.reach, fun ha => ?_, rfl, rfl, h.none_r⟩
   obtain ⟨b, hb, h1, h2⟩ := h.some_r ha
   exact ⟨b, by simp [hb], h1, h2⟩
 obtain ⟨_, a1, a2, a3, a4, a5, a6⟩ := hA
 unfold q5b
 generalize q3L t s r = u at *
 unfold qci
 by_cases hw : q1I t r = true
 ·rw [if_pos hw]
  refine ⟨fun b hb hrb => ?_, a3, fun a ha hwa => ?_, fun _ => ?_, a6, fun e => by cases e⟩
  ·rcases List.mem_append.1 hb with hb | hb
   ·exact a2 b hb hrb
   ·rw [List.mem_singleton] at hb
    subst hb
    exact a1 hrb
  ·refine ⟨rfl, ?_⟩
   show (if !u.behind || decide (r.first < u.first) then r.first else u.first) ≤ a.first
   rcases List.mem_append.1 ha with ha | ha
   ·obtain ⟨h1, h2⟩ := h.first a ha hwa
    rw [a4, a5, h1]
    by_cases hlt : r.first < s.first
    ·rw [decide_eq_true hlt]
     simp only [Bool.or_true, if_true]
     omega
    ·rw [decide_eq_false hlt]
     simpa using h2
   ·rw [List.mem_singleton] at ha
    subst ha
    by_cases hlt : a.first < u.first
    ·rw [decide_eq_true hlt]
     simp
    ·rw [decide_eq_false hlt]
     cases u.behind
     ·simp
     ·simp; omega
  ·show ∃ a ∈ p ++ [r], q1I t a = true ∧ a.first = if !u.behind || decide (r.first < u.first) then r.first else u.first
   rw [a4, a5]
   cases hb : s.behind with
   | false => exact ⟨r, by simp, hw, by simp⟩
   | true =>
    by_cases hlt : r.first < s.first
    ·exact ⟨r, by simp, hw, by rw [decide_eq_true hlt]; simp⟩
    ·obtain ⟨a, ha, h1, h2⟩ := h.some_f hb
     exact ⟨a, by simp [ha], h1, by rw [decide_eq_false hlt]; simpa using h2⟩
 ·rw [if_neg hw]
  refine ⟨fun b hb hrb => ?_, a3, fun a ha hwa => ?_, fun hb => ?_, a6, fun e => by rw [a5]; rw [a4] at e; exact h.none_f e⟩
  ·rcases List.mem_append.1 hb with hb | hb
   ·exact a2 b hb hrb
   ·rw [List.mem_singleton] at hb
    subst hb
    exact a1 hrb
  ·rcases List.mem_append.1 ha with ha | ha
   ·rw [a4, a5]; exact h.first a ha hwa
   ·rw [List.mem_singleton] at ha
    subst ha
    exact absurd hwa hw
  ·rw [a4] at hb
   obtain ⟨a, ha, h1, h2⟩ := h.some_f hb
   exact ⟨a, by simp [ha], h1, by rw [a5]; exact h2⟩
theorem q7Y (l : List RecS) (t : RecS) : ∀ j, j ≤ l.length → q8b (l.take j) t (q25 l t j)
 | 0, _ => qgj t
 | j + 1, h => by
  rw [q9g (by omega), List.take_succ_eq_append_getElem (by omega)]
  exact qgi (q7Y l t j (by omega))
theorem q5q (a b : RecS) : qa1 a b = decide (a.first ≤ q0A b) := by
 unfold qa1 q0A
 split <;> rfl
theorem q96 {l : List RecS} {t b : RecS} : (b ∈ l ∧ q1h t b = true) ↔ (b ∈ q0c l t.began ∧ q28 b.reads t.writes = true) := by
 unfold q1h q0c
 rw [Bool.and_eq_true, List.mem_filter, and_assoc]
theorem q2E {l : List RecS} {t a : RecS} : (a ∈ l ∧ q1I t a = true) ↔ (a ∈ q3v (q0c l t.began) t) := by
 unfold q1I q3v q0c
 rw [Bool.and_eq_true, List.mem_filter, List.mem_filter, and_assoc]
theorem q4Q {l : List RecS} {a : RecS} {j : Nat} (h : a ∈ l.take j) : a ∈ l := List.mem_of_mem_take h
theorem qaj {l : List RecS} {t : RecS} {j : Nat} (hj : j ≤ l.length) (h : q1B (q25 l t j) = true) : q1M l t = none := by
 have ok := q7Y l t j hj
 unfold q1B at h
 rw [Bool.and_eq_true, Bool.and_eq_true, decide_eq_true_eq] at h
 obtain ⟨⟨h1, h2⟩, h3⟩ := h
 obtain ⟨b, hb, b1, b2⟩ := ok.some_r h1
 obtain ⟨a, ha, a1, a2⟩ := ok.some_f h2
 obtain ⟨c1, c2⟩ := q96.1 ⟨q4Q hb, b1⟩
 have c3 := q2E.1 ⟨q4Q ha, a1⟩
 unfold q1M
 rw [if_pos]
 refine List.any_eq_true.2 ⟨a, c3, ?_⟩
 rw [Bool.or_eq_true]
 right
 refine List.any_eq_true.2 ⟨b, c1, ?_⟩
 rw [c2, q5q, Bool.true_and, decide_eq_true_eq]
 omega
theorem qfi {l : List RecS} {t : RecS} {j : Nat} (hj : j < l.length) (hw : q1I t (l[j]'hj) = true) (ho : outB t (l[j]'hj) = true) : q1M l t = none := by
 unfold q1M
 rw [if_pos]
 refine List.any_eq_true.2 ⟨l[j]'hj, q2E.1 ⟨List.getElem_mem hj, hw⟩, ?_⟩
 rw [ho, Bool.true_or]
def qbX (l : List RecS) (t : RecS) (j : Nat) : Prop := ∀ a ∈ l.take j, q1I t a = true → outB t a = false
theorem qbZ (l : List RecS) (t : RecS) : qbX l t 0 := fun a ha => by simp at ha
theorem qbY {l : List RecS} {t : RecS} {j : Nat} (h : qbX l t j) (hj : j < l.length) (hn : q1I t (l[j]'hj) = true → outB t (l[j]'hj) = false) : qbX l t (j + 1) := fun a ha hw => by
 rw [List.take_succ_eq_append_getElem hj] at ha
 rcases List.mem_append.1 ha with ha | ha
 ·exact h a ha hw
 ·rw [List.mem_singleton] at ha
  subst ha
  exact hn hw
theorem qdW {l : List RecS} {t : RecS} {n : Nat} (hn : n = l.length) (hd : q1B (q25 l t n) = false) (ho : qbX l t n) : q1M l t = some (q25 l t n).first := by
 subst hn
 have ok := q7Y l t l.length (Nat.le_refl _)
 unfold qbX at ho
 rw [List.take_length] at ok ho
 generalize q25 l t l.length = s at *
 unfold q1M
 rw [if_neg]
 ·congr 1
  cases hb : s.behind with
  | false =>
   rw [ok.none_f hb]
   have e : q3v (q0c l t.began) t = [] := by
    cases he : q3v (q0c l t.began) t with
    | nil => rfl
    | cons a m =>
     obtain ⟨h1, h2⟩ := q2E.2 (show a ∈ q3v (q0c l t.began) t by rw [he]; exact List.mem_cons_self ..)
     rw [(ok.first a h1 h2).1] at hb
     cases hb
   rw [e]
   rfl
  | true =>
   obtain ⟨a, ha, a1, a2⟩ := ok.some_f hb
   have hmem := q2E.1 ⟨ha, a1⟩
   have h1 := qgQ hmem
   obtain ⟨c, hc, ec⟩ := qgl (l := q3v (q0c l t.began) t) (fun e => by rw [e] at hmem; cases hmem)
   obtain ⟨c1, c2⟩ := q2E.2 hc
   have := (ok.first c c1 c2).2
   omega
 ·intro hc
  obtain ⟨a, ha, hs⟩ := List.any_eq_true.1 hc
  obtain ⟨a1, a2⟩ := q2E.2 ha
  rw [ho a a1 a2, Bool.false_or] at hs
  obtain ⟨b, hb, hs⟩ := List.any_eq_true.1 hs
  rw [Bool.and_eq_true, q5q, decide_eq_true_eq] at hs
  obtain ⟨b1, b2⟩ := q96.2 ⟨hb, hs.1⟩
  obtain ⟨f1, f2⟩ := ok.first a a1 a2
  obtain ⟨r1, r2⟩ := ok.reach b b1 b2
  have : q1B s = true := by
   unfold q1B
   rw [f1, r1]
   simp only [Bool.and_self, Bool.true_and, decide_eq_true_eq]
   omega
  rw [hd] at this
  cases this
theorem qei {t r : RecS} {s : q2t} (h1 : q1h t r = false) (h2 : q1I t r = false) : q5b t s r = s := by
 unfold q5b q3L qci
 rw [h1, h2]
 rfl
theorem qcj {t r : RecS} {s : q2t} (h1 : q1h t r = true) (h2 : q1I t r = false) : q5b t s r = q0v s r := by
 unfold q5b q3L qci
 rw [h1, h2]
 rfl
theorem qar {t r : RecS} {s : q2t} (h1 : q1h t r = false) (h2 : q1I t r = true) : q5b t s r = q0i s r := by
 unfold q5b q3L qci
 rw [h1, h2]
 rfl
theorem qeg {t r : RecS} {s : q2t} (h1 : q1h t r = true) (h2 : q1I t r = true) : q5b t s r = q0i (q0v s r) r := by
 unfold q5b q3L qci
 rw [h1, h2]
 rfl
theorem qft {l : List RecS} {t : RecS} {j M : Nat} (hj : j ≤ l.length) (h : ∀ r ∈ l, r.first < M ∧ r.last < M ∧ r.began < M) (hM : 0 < M) : (q25 l t j).first < M ∧ (q25 l t j).reach < M := by
 have ok := q7Y l t j hj
 constructor
 ·cases hb : (q25 l t j).behind with
  | false => rw [ok.none_f hb]; exact hM
  | true =>
   obtain ⟨a, ha, _, e⟩ := ok.some_f hb
   rw [← e]
   exact (h a (q4Q ha)).1
 ·cases hb : (q25 l t j).ahead with
  | false => rw [ok.none_r hb]; exact hM
  | true =>
   obtain ⟨b, hb, _, e⟩ := ok.some_r hb
   rw [← e]
   unfold q0A
   split
   ·exact (h b (q4Q hb)).2.2
   ·exact (h b (q4Q hb)).2.1
open Go.RowKit
instance : DecidableEq RecS := fun a b => decidable_of_iff (a.first = b.first ∧ a.last = b.last ∧ a.began = b.began ∧ a.out = b.out ∧ a.reads = b.reads ∧ a.writes = b.writes) (by cases a; cases b; simp)
def q0y (a b : RecS) : Bool := decide (a = b)
def q9e (a b : List RecS) : Bool := decide (a = b)
def jI (n : Int) (a b : List Sp) : List Sp := fitI n (q0a (a ++ b))
def okR (r : RecS) : Prop := r.reads.length ≤ 1000 ∧ r.writes.length ≤ 1000
def okRs (l : List RecS) : Prop := l.length ≤ 1000 ∧ q0C l ≤ 1000
theorem okRs.mem {l : List RecS} (h : okRs l) {r : RecS} (hr : r ∈ l) : okR r := by
 have h1 := qfb hr
 have h2 := h.2
 exact ⟨by omega, by omega⟩
structure SsiC : Prop where
 judge : ∀ (l : List RecS) (A : Option Addr) (c : Nat) (x : MR) (w : World), okRs l → okR x.r → ChR w w.heap.size A c l → OkMR w w.heap.size x → Calls Tryz.prog 135 #[.slice A l.length c, q0u x] w fun r w' => r = .returned (q3U (q1M l x.r)) ∧ Below w.heap.size w w'
 join : ∀ (x y : MR) (n : Int) (w : World), x.r.reads.length + y.r.reads.length ≤ 1000 → x.r.writes.length + y.r.writes.length ≤ 1000 → -9223372036854775808 ≤ n → n ≤ 9223372036854775807 → OkMR w w.heap.size x → OkMR w w.heap.size y → Calls Tryz.prog 202 #[q0u x, q0u y, .int .i64 n] w (qcm (q2B (jI n) x.r y.r) w)
 forget : ∀ (l : List RecS) (A : Option Addr) (c : Nat) (low : Nat) (w : World), okRs l → low < 18446744073709551616 → ChR w w.heap.size A c l → Calls Tryz.prog 137 #[.slice A l.length c, .int .u64 low] w (q89 (q0c l low) w)
 fit : ∀ (l : List RecS) (A : Option Addr) (c : Nat) (n marks : Int) (w : World), okRs l → -9223372036854775808 ≤ n → n ≤ 9223372036854775807 → -9223372036854775808 ≤ marks → marks ≤ 9223372036854775807 → ChR w w.heap.size A c l → Calls Tryz.prog 138 #[.slice A l.length c, .int .i64 n, .int .i64 marks] w (q89 (fitR (jI marks) n.toNat l) w)
theorem qgK (n : Int) (a b : List Sp) : (jI n a b).length ≤ a.length + b.length := by
 have h1 := q3j (n := n) (q0a (a ++ b))
 have h2 := q1u (a ++ b)
 rw [List.length_append] at h2
 unfold jI
 omega
theorem qfc {l : List RecS} (f : RecS → Bool) : q0C (l.filter f) ≤ q0C l := by
 induction l with
 | nil => exact Nat.le_refl _
 | cons x l ih =>
  have e : q0C (x :: l) = (x.reads.length + x.writes.length) + q0C l := by simp [q0C]
  cases hf : f x with
  | true =>
   rw [List.filter_cons_of_pos (by simpa using hf)]
   have e2 : q0C (x :: l.filter f) = (x.reads.length + x.writes.length) + q0C (l.filter f) := by simp [q0C]
   omega
  | false =>
   rw [List.filter_cons_of_neg (by simp [hf])]
   omega
theorem okRs.forget {l : List RecS} (h : okRs l) (low : Nat) : okRs (q0c l low) := ⟨Nat.le_trans (q54 l low) h.1, Nat.le_trans (qfc _) h.2⟩
open Go.RowKit
theorem q0O {w : World} {b : Nat} {e : TypeId} {fz : Nat × Nat} {a0 a1 a2 a3 a4 a5 : Value} (h : w.heap[b]? = some (.cells #[a0, a1, a2, a3, a4, a5] e fz)) :
  w.cell? ⟨b, 0, none⟩ = some a0 ∧ w.cell? ⟨b, 1, none⟩ = some a1 ∧ w.cell? ⟨b, 2, none⟩ = some a2 ∧ w.cell? ⟨b, 3, none⟩ = some a3 ∧ w.cell? ⟨b, 4, none⟩ = some a4 ∧ w.cell? ⟨b, 5, none⟩ = some a5 :=
 ⟨cell_of_row w b 0 _ _ _ h, cell_of_row w b 1 _ _ _ h, cell_of_row w b 2 _ _ _ h, cell_of_row w b 3 _ _ _ h, cell_of_row w b 4 _ _ _ h, cell_of_row w b 5 _ _ _ h⟩
theorem ChR.len {w : World} {A : Option Addr} {c : Nat} {l : List RecS} (h : ChR w w.heap.size A c l) : l.length ≤ 9223372036854775807 := by have := h.1; have := h.2.1; unfold maxLen at this; omega
end Go.Proofs.YtdpbllacfljmoaaGreat
