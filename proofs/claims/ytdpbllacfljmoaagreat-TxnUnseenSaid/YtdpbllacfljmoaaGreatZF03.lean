import Derived.Test.YtdpbllacfljmoaaGreatZF01
import Derived.Test.YtdpbllacfljmoaaGreatZF02
import Derived.Deep.LoopGhost
import Derived.RegionTactic
import Derived.Test.YtdpbllacfljmoaaGreatZF00
import Derived.OpenShut
import Derived.BigQuiet
set_option maxRecDepth 100000
set_option maxHeartbeats 16000000
set_option linter.unusedVariables false
namespace Go.Proofs.YtdpbllacfljmoaaGreat
open Go.RowKit
def SlI (w : World) (lo hi : Nat) (A : Option Addr) (c : Nat) (l : List UInt8) : Prop := l.length ≤ c ∧ c ≤ maxLen ∧ (A = none → c = 0) ∧ Rd w lo hi A l
structure MW where
 w : Wr
 A : Option Addr
 c : Nat
def q0l (x : MW) : List Value := [.string (bs x.w.key), .bool x.w.gone, .slice x.A x.w.dat.length x.c]
theorem mwF : q12 3 q0l := ⟨by decide, fun _ => rfl, fun x v hv => by
 simp only [q0l, List.mem_cons, List.not_mem_nil, or_false] at hv
 rcases hv with rfl | rfl | rfl <;> rfl⟩
def OkMW (w : World) (lo hi : Nat) (x : MW) : Prop := x.w.key.length ≤ maxLen ∧ SlI w lo hi x.A x.c x.w.dat
def RowW (w : World) (lo hi : Nat) (A : Option Addr) (l : List Wr) : Prop := ∃ ms : List MW, ms.map MW.w = l ∧ RowG q0l w lo hi A ms ∧ ∀ x ∈ ms, OkMW w lo hi x
def ChW (w : World) (lo hi : Nat) (A : Option Addr) (c : Nat) (l : List Wr) : Prop := l.length ≤ c ∧ c ≤ maxLen ∧ (A = none → c = 0) ∧ RowW w lo hi A l
def I64 (n : Int) : Prop := -9223372036854775808 ≤ n ∧ n ≤ 9223372036854775807
structure MP where
 k : KeyS
 b : List UInt8
 A : Option Addr
 c : Nat
def q0e (x : MP) : List Value := [.string (bs x.k), .slice x.A x.b.length x.c]
def MP.p (x : MP) : KeyS × List UInt8 := (x.k, x.b)
theorem mpF : q12 2 q0e := ⟨by decide, fun _ => rfl, fun x v hv => by
 simp only [q0e, List.mem_cons, List.not_mem_nil, or_false] at hv
 rcases hv with rfl | rfl <;> rfl⟩
def RowP (w : World) (lo hi : Nat) (A : Option Addr) (l : List (KeyS × List UInt8)) : Prop := ∃ ms : List MP, ms.map MP.p = l ∧ RowG q0e w lo hi A ms ∧ ∀ x ∈ ms, SlI w lo hi x.A x.c x.b
def ChP (w : World) (lo hi : Nat) (A : Option Addr) (c : Nat) (l : List (KeyS × List UInt8)) : Prop := l.length ≤ c ∧ c ≤ maxLen ∧ (A = none → c = 0) ∧ RowP w lo hi A l
structure Mut (F : Nat → Prop) (w w' : World) : Prop where
 os : w'.os = w.os
 tape : w'.tape = w.tape
 output : w'.output = w.output
 size : w.heap.size ≤ w'.heap.size
 block : ∀ k, k < w.heap.size → ¬ F k → w'.heap[k]? = w.heap[k]?
section
variable {F G : Nat → Prop} {w w' w'' : World} {lo hi lo' hi' B : Nat} {A : Option Addr} {c : Nat}
theorem Mut.refl (F : Nat → Prop) (w : World) : Mut F w w := ⟨rfl, rfl, rfl, Nat.le_refl _, fun _ _ _ => rfl⟩
theorem Mut.trans (h : Mut F w w') (k : Mut G w' w'') (hg : ∀ k, G k → F k ∨ w.heap.size ≤ k) : Mut F w w'' :=
 ⟨k.os.trans h.os, k.tape.trans h.tape, k.output.trans h.output, Nat.le_trans h.size k.size, fun i hi hf => (k.block i (Nat.lt_of_lt_of_le hi h.size) fun hgi => by
  rcases hg i hgi with h1 | h1
  ·exact hf h1
  ·omega).trans (h.block i hi hf)⟩
theorem Mut.wide (h : Mut F w w') (hg : ∀ k, F k → G k) : Mut G w w' := ⟨h.os, h.tape, h.output, h.size, fun k hk hn => h.block k hk fun hf => hn (hg k hf)⟩
theorem Mut.below (h : Mut F w w') (hB : B ≤ w.heap.size) (hF : ∀ k, F k → B ≤ k) : Below B w w' := ⟨h.os, h.tape, h.output, h.size, fun k hk => h.block k (Nat.lt_of_lt_of_le hk hB) fun hf => by have := hF k hf; omega⟩
theorem Below.mut (h : Below w.heap.size w w') (F : Nat → Prop) : Mut F w w' := ⟨h.os, h.tape, h.output, h.size, fun k hk _ => h.block k hk⟩
theorem SlI.sl {d : List UInt8} (h : SlI w lo hi A c d) : Sl w hi A c d := ⟨h.1, h.2.1, h.2.2.1, h.2.2.2.wide (Nat.zero_le _) (Nat.le_refl _)⟩
theorem SlI.none_ (w : World) (lo hi : Nat) : SlI w lo hi none 0 [] := ⟨Nat.le_refl _, Nat.zero_le _, fun _ => rfl, Rd.nil_⟩
theorem SlI.keep {d : List UInt8} (h : SlI w lo hi A c d) (hk : ∀ g, lo ≤ g → g < hi → w'.heap[g]? = w.heap[g]?) : SlI w' lo hi A c d := ⟨h.1, h.2.1, h.2.2.1, h.2.2.2.keep fun p h1 h2 => World.cell?_of_block (hk p.block h1 h2)⟩
theorem SlI.wide {d : List UInt8} (h : SlI w lo hi A c d) (h1 : lo' ≤ lo) (h2 : hi ≤ hi') : SlI w lo' hi' A c d := ⟨h.1, h.2.1, h.2.2.1, h.2.2.2.wide h1 h2⟩
theorem ChP.wide {l : List (KeyS × List UInt8)} (h : ChP w lo hi A c l) (h1 : lo' ≤ lo) (h2 : hi ≤ hi') : ChP w lo' hi' A c l := by
 obtain ⟨k1, k2, k3, ms, e, h4, h5⟩ := h
 exact ⟨k1, k2, k3, ms, e, h4.wide h1 h2, fun x hx => (h5 x hx).wide h1 h2⟩
theorem SlI.below {d : List UInt8} (h : SlI w lo hi A c d) (hb : Below B w w') (hB : hi ≤ B) (hh : hi ≤ hi') : SlI w' lo hi' A c d := ⟨h.1, h.2.1, h.2.2.1, (h.2.2.2.below hb hB).wide (Nat.le_refl _) hh⟩
theorem OkMW.below {x : MW} (h : OkMW w lo hi x) (hb : Below B w w') (hB : hi ≤ B) (hh : hi ≤ hi') : OkMW w' lo hi' x := ⟨h.1, h.2.below hb hB hh⟩
theorem OkMW.keep {x : MW} (h : OkMW w lo hi x) (hk : ∀ g, lo ≤ g → g < hi → w'.heap[g]? = w.heap[g]?) : OkMW w' lo hi x := ⟨h.1, h.2.keep hk⟩
theorem RowW.below {l : List Wr} (h : RowW w lo hi A l) (hb : Below B w w') (hB : hi ≤ B) (hh : hi ≤ hi') : RowW w' lo hi' A l := by
 obtain ⟨ms, e, h1, h2⟩ := h
 exact ⟨ms, e, (h1.below hb hB).wide (Nat.le_refl _) hh, fun x hx => (h2 x hx).below hb hB hh⟩
theorem ChW.keep {l : List Wr} (h : ChW w lo hi A c l) (hk : ∀ g, lo ≤ g → g < hi → w'.heap[g]? = w.heap[g]?) : ChW w' lo hi A c l := by
 obtain ⟨k1, k2, k3, ms, e, h4, h5⟩ := h
 exact ⟨k1, k2, k3, ms, e, h4.keep fun p k1 k2 => World.cell?_of_block (hk p.block k1 k2), fun x hx => (h5 x hx).keep hk⟩
theorem ChW.wide {l : List Wr} (h : ChW w lo hi A c l) (h1 : lo' ≤ lo) (h2 : hi ≤ hi') : ChW w lo' hi' A c l := by
 obtain ⟨k1, k2, k3, ms, e, h4, h5⟩ := h
 exact ⟨k1, k2, k3, ms, e, h4.wide h1 h2, fun x hx => ⟨(h5 x hx).1, (h5 x hx).2.wide h1 h2⟩⟩
theorem RowW.at_ {l : List Wr} (h : RowW w lo hi A l) {j : Nat} (hj : j < l.length) :
  ∃ b o A' c', A = some ⟨b, o, none⟩ ∧ b < hi ∧ w.cell? ⟨b, o + j * 3, none⟩ = some (.string (bs (l[j]'hj).key)) ∧ w.cell? ⟨b, o + j * 3 + 1, none⟩ = some (.bool (l[j]'hj).gone) ∧ w.cell? ⟨b, o + j * 3 + 2, none⟩ = some (.slice A' (l[j]'hj).dat.length c') ∧
   SlI w lo hi A' c' (l[j]'hj).dat ∧ (l[j]'hj).key.length ≤ maxLen := by
 obtain ⟨ms, rfl, h1, h2⟩ := h
 have hj' : j < ms.length := by simpa using hj
 obtain ⟨b, o, e, _, hb, hc⟩ := h1.at_ mwF hj'
 obtain ⟨k1, k2⟩ := h2 _ (List.getElem_mem hj')
 refine ⟨b, o, ms[j].A, ms[j].c, e, hb, ?_, ?_, ?_, by simpa using k2, by simpa using k1⟩
 ·have := hc 0 _ rfl
  simpa using this
 ·have := hc 1 _ rfl
  simpa using this
 ·have := hc 2 _ rfl
  simpa using this
theorem RowP.at_ {l : List (KeyS × List UInt8)} (h : RowP w lo hi A l) {j : Nat} (hj : j < l.length) :
  ∃ b o A' c', A = some ⟨b, o, none⟩ ∧ b < hi ∧ w.cell? ⟨b, o + j * 2, none⟩ = some (.string (bs (l[j]'hj).1)) ∧ w.cell? ⟨b, o + j * 2 + 1, none⟩ = some (.slice A' (l[j]'hj).2.length c') ∧ SlI w lo hi A' c' (l[j]'hj).2 := by
 obtain ⟨ms, rfl, h1, h2⟩ := h
 have hj' : j < ms.length := by simpa using hj
 obtain ⟨b, o, e, _, hb, hc⟩ := h1.at_ mpF hj'
 have k := h2 _ (List.getElem_mem hj')
 refine ⟨b, o, ms[j].A, ms[j].c, e, hb, ?_, ?_, by simpa [MP.p] using k⟩
 ·have := hc 0 _ rfl
  simpa [MP.p] using this
 ·have := hc 1 _ rfl
  simpa [MP.p] using this
end
open Go.RowKit
def q3B (L : LimS) (m r v : Int) : Value := .agg #[.int .i64 L.keys, .int .i64 L.vers, .int .i64 L.byts, .int .i64 m, .int .i64 r, .int .i64 v, .int .u64 L.last]
def okW (l : List Wr) : Prop := l.length ≤ 1048576 ∧ ∀ w ∈ l, w.key.length ≤ 1048576 ∧ w.dat.length ≤ 1048576
def ptrS (p : Nat) : Value := .pointer (some ⟨p, 0, none⟩)
def q0w (k : KeyS) : List Value := [.string (bs k)]
theorem kF : q12 1 q0w := ⟨by decide, fun _ => rfl, fun x v hv => by
 simp only [q0w, List.mem_cons, List.not_mem_nil, or_false] at hv
 rcases hv with rfl
 rfl⟩
abbrev q7w := World → Nat → (Nat → Prop) → LimS → PS → Prop
def q9v (St : q7w) (w : World) (p : Nat) (F : Nat → Prop) (L : LimS) (st : PS) (v : Value) (r : Ending) (w' : World) : Prop :=
 r = .returned v ∧ ∃ F', St w' p F' L st ∧ Mut F w w' ∧ ∀ k, F' k → F k ∨ w.heap.size ≤ k
structure qgy (St : q7w) : Prop where
 keep : ∀ {w w' : World} {p : Nat} {F : Nat → Prop} {L : LimS} {st : PS}, St w p F L st → (∀ k, F k → w'.heap[k]? = w.heap[k]?) → St w' p F L st
 upto : ∀ {w : World} {p : Nat} {F : Nat → Prop} {L : LimS} {st : PS}, St w p F L st → ∀ k, F k → k < w.heap.size
 okay : ∀ {w : World} {p : Nat} {F : Nat → Prop} {L : LimS} {st : PS}, St w p F L st → OkS st ∧ InS L st ∧ MayS L = true ∧ q7x st.K ∧ L.last < 18446744073709551616
 check : ∀ (l : List Wr) (lo hi : Nat) (A : Option Addr) (c : Nat) (w : World), okW l → ChW w lo hi A c l → hi ≤ w.heap.size →
  Calls Tryz.prog 83 #[.slice A l.length c] w fun r w' => r = .returned (.int .i64 (q0h [] l)) ∧ Below w.heap.size w w'
 new : ∀ (L : LimS) (m r v : Int) (w : World), I64 L.keys → I64 L.vers → I64 L.byts → L.last < 18446744073709551616 →
  Calls Tryz.prog 53 #[q3B L m r v] w fun r w' => Below w.heap.size w w' ∧
   (if MayS L = true then ∃ p F, r = .returned (.tuple #[ptrS p, .int .i64 0]) ∧ St w' p F L ⟨0, []⟩ ∧ ∀ k, F k → w.heap.size ≤ k else r = .returned (.tuple #[.pointer none, .int .i64 1]))
 now : ∀ (p : Nat) (F : Nat → Prop) (L : LimS) (st : PS) (w : World), St w p F L st →
  Calls Tryz.prog 65 #[ptrS p] w fun r w' => r = .returned (.int .u64 st.time) ∧ Below w.heap.size w w'
 count : ∀ (p : Nat) (F : Nat → Prop) (L : LimS) (st : PS) (w : World), St w p F L st →
  Calls Tryz.prog 67 #[ptrS p] w fun r w' => r = .returned (.agg #[.int .i64 (st.K.length : Nat), .int .i64 (q1q st.K : Nat), .int .i64 (q3f st.K : Nat)]) ∧ Below w.heap.size w w'
 latest : ∀ (p : Nat) (F : Nat → Prop) (L : LimS) (st : PS) (k : KeyS) (w : World), St w p F L st → k.length ≤ 1048576 →
  Calls Tryz.prog 188 #[ptrS p, .string (bs k)] w fun r w' => r = .returned (.int .u64 (q24 (q03 st.K k) : Nat)) ∧ Below w.heap.size w w'
 read : ∀ (p : Nat) (F : Nat → Prop) (L : LimS) (st : PS) (k : KeyS) (t : Nat) (w : World), St w p F L st → k.length ≤ 1048576 → t < 18446744073709551616 →
  Calls Tryz.prog 80 #[ptrS p, .string (bs k), .int .u64 t] w fun r w' => ∃ A c, r = .returned (.tuple #[.slice A ((q1v st.K k t).getD []).length c, .bool (q1v st.K k t).isSome]) ∧
   SlI w' w.heap.size w'.heap.size A c ((q1v st.K k t).getD []) ∧ Below w.heap.size w w'
 scan : ∀ (p : Nat) (F : Nat → Prop) (L : LimS) (st : PS) (lo hi : KeyS) (t : Nat) (w : World), St w p F L st → lo.length ≤ 1048576 → hi.length ≤ 1048576 → t < 18446744073709551616 →
  Calls Tryz.prog 74 #[ptrS p, .string (bs lo), .string (bs hi), .int .u64 t] w fun r w' => ∃ A c, r = .returned (.slice A (q1w st.K lo hi t).length c) ∧
   ChP w' w.heap.size w'.heap.size A c (q1w st.K lo hi t) ∧ Below w.heap.size w w'
 commit : ∀ (p : Nat) (F : Nat → Prop) (L : LimS) (st : PS) (l : List Wr) (lo hi : Nat) (A : Option Addr) (c low : Nat) (w : World), St w p F L st → okW l → ChW w lo hi A c l → hi ≤ w.heap.size → (∀ k, F k → k < lo ∨ hi ≤ k) → low < 18446744073709551616 →
  Calls Tryz.prog 136 #[ptrS p, .slice A l.length c, .int .u64 low] w
   (q9v St w p F L (q09 L st l low).1 (.tuple #[.int .u64 (q09 L st l low).2.1, .int .i64 (q09 L st l low).2.2]))
 collect : ∀ (p : Nat) (F : Nat → Prop) (L : LimS) (st : PS) (low : Nat) (w : World), St w p F L st → low < 18446744073709551616 →
  Calls Tryz.prog 89 #[ptrS p, .int .u64 low] w
   (q9v St w p F L ⟨st.time, q05 st.K low⟩ (.int .i64 ((q1q st.K - q1q (q05 st.K low) : Nat) : Int)))
 clone : ∀ (p : Nat) (F : Nat → Prop) (L : LimS) (st : PS) (w : World), St w p F L st →
  Calls Tryz.prog 87 #[ptrS p] w fun r w' => ∃ q F', r = .returned (ptrS q) ∧ St w' q F' L st ∧ (∀ k, F' k → w.heap.size ≤ k) ∧ Below w.heap.size w w'
open Go.RowKit
theorem q7W (n : Int) (w : World) : Calls Tryz.prog 99 #[.int .i64 n] w fun r w' => r = .returned (.bool (q2V n)) ∧ w = w' := by
 unfold q2V
 by_cases h1 : 1 ≤ n
 ·have d1 : decide (1 ≤ n) = true := by rw [decide_eq_true_iff]; exact h1
  go_enter Tryz.func99, Tryz.ntmps99
  go_wp2
  go_ret
  exact ⟨by simp [d1], rfl⟩
 ·have d1 : decide (1 ≤ n) = false := by rw [decide_eq_false_iff_not]; exact h1
  go_enter Tryz.func99, Tryz.ntmps99
  go_wp2
  go_ret
  exact ⟨by simp, rfl⟩
theorem qgd (L : LimS) (m r v : Int) (w : World) : Calls Tryz.prog 55 #[q3B L m r v] w fun r w' => r = .returned (.bool (MayS L)) ∧ Below w.heap.size w w' := by
 obtain ⟨keys, vers, byts, last⟩ := L
 have HB := qh ((Below.refl _ w).alloc (Nat.le_refl _) (.cells #[.int .i64 keys, .int .i64 vers, .int .i64 byts, .int .i64 m, .int .i64 r, .int .i64 v, .int .u64 last] 24))
 have H1 := qh (fun W => q7W keys W)
 have H2 := qh (fun W => q7W vers W)
 have H3 := qh (fun W => q7W byts W)
 have HM : Hid (MayS ⟨keys, vers, byts, last⟩ = (q2V keys && q2V vers && q2V byts && decide (1 ≤ last))) := qh rfl
 have d0 : decide (1 ≤ (last : Int)) = decide (1 ≤ last) := by rw [decide_eq_decide]; omega
 unfold q3B
 simp only
 rw [HM.out]
 generalize q2V keys = r1 at *
 generalize q2V vers = r2 at *
 generalize q2V byts = r3 at *
 clear HM
 cases r1
 ·go_enter Tryz.func55, Tryz.ntmps55
  go_wp2_with fail
  refine (H1.out _).mono ?_
  rintro r w' ⟨rfl, rfl⟩
  go_wp2_with fail
  go_ret
  exact ⟨rfl, HB.out⟩
 ·cases r2
  ·go_enter Tryz.func55, Tryz.ntmps55
   go_wp2_with fail
   refine (H1.out _).mono ?_
   rintro r w' ⟨rfl, rfl⟩
   go_wp2_with fail
   refine (H2.out _).mono ?_
   rintro r w' ⟨rfl, rfl⟩
   go_wp2_with fail
   go_ret
   exact ⟨rfl, HB.out⟩
  ·cases r3
   ·go_enter Tryz.func55, Tryz.ntmps55
    go_wp2_with fail
    refine (H1.out _).mono ?_
    rintro r w' ⟨rfl, rfl⟩
    go_wp2_with fail
    refine (H2.out _).mono ?_
    rintro r w' ⟨rfl, rfl⟩
    go_wp2_with fail
    refine (H3.out _).mono ?_
    rintro r w' ⟨rfl, rfl⟩
    go_wp2_with fail
    go_ret
    exact ⟨rfl, HB.out⟩
   ·go_enter Tryz.func55, Tryz.ntmps55
    go_wp2_with fail
    refine (H1.out _).mono ?_
    rintro r w' ⟨rfl, rfl⟩
    go_wp2_with fail
    refine (H2.out _).mono ?_
    rintro r w' ⟨rfl, rfl⟩
    go_wp2_with fail
    refine (H3.out _).mono ?_
    rintro r w' ⟨rfl, rfl⟩
    go_wp2_with fail
    go_ret
    exact ⟨by simp, HB.out⟩
end Go.Proofs.YtdpbllacfljmoaaGreat
namespace Go.Proofs.YtdpbllacfljmoaaGreat
open Go.RowKit
theorem qeO (m : Nat) (h : m < 256) : ((UInt8.ofNat m).toNat : Int) = (m : Int) := by
 have : (UInt8.ofNat m).toNat = m := by simp; omega
 omega
open Go.RowKit
open Go.RowKit
open Go.RowKit
theorem q5A {w : World} {lo hi c n : Nat} {A : Option Addr} {m : List UInt8} (hn : n = m.length) (hr : Rd w lo hi A m) : (convert 35 9 (.slice A n c)).run Tryz.prog w = .ok (.string ⟨m.toArray⟩) w :=
 qcD 35 9 5 Tryz.underlying35 Tryz.underlying5 Tryz.underlying9 hn hr
open Go.RowKit
def qgZ (k : IntKind) (w : World) (a : Option Addr) (len cap : Nat) (zs : List Int) : Prop :=
 (a = none ∧ len = 0 ∧ cap = 0 ∧ zs = []) ∨
 ∃ x, a = some x ∧ len ≤ cap ∧ cap ≤ maxLen ∧ zs.length = cap ∧ (∀ i, i < zs.length → w.cell? (x.add i) = some (.int k (zs.getD i 0))) ∧ ∀ n ∈ zs, (Lit.int k n).wf = true
theorem qeP {w : World} {a : Option Addr} {len cap : Nat} {zs : List Int} (h : qgZ .u8 w a len cap zs) :
  ∃ l : List UInt8, len = l.length ∧ len ≤ cap ∧ cap ≤ maxLen ∧ (a = none → cap = 0) ∧ Rd w 0 w.heap.size a l := by
 rcases h with ⟨rfl, rfl, rfl, rfl⟩ | ⟨x, rfl, h1, h2, h3, hc, hw⟩
 ·exact ⟨[], rfl, Nat.le_refl _, Nat.zero_le _, fun _ => rfl, Rd.nil_⟩
 ·refine ⟨(zs.take len).map fun n => UInt8.ofNat n.toNat, by rw [List.length_map, List.length_take]; omega, h1, h2, fun h => (by cases h), fun hp => ?_⟩
  rw [List.length_map, List.length_take] at hp
  obtain ⟨b, off, rfl, hc'⟩ := ints_at hc (by omega)
  refine ⟨b, off, rfl, Nat.zero_le _, World.block_lt_of_cell? w ⟨b, off + 0, none⟩ (hc' 0 (by omega)), fun j hj => ?_⟩
  rw [List.length_map, List.length_take] at hj
  have hjz : j < zs.length := by omega
  rw [hc' j hjz, List.getElem_map, List.getElem_take, List.getD_eq_getElem?_getD, List.getElem?_eq_getElem hjz]
  have hb := bounds_u8 (hw _ (List.getElem_mem hjz))
  have e : ((UInt8.ofNat (zs[j]).toNat).toNat : Int) = zs[j] := by rw [qeO _ (by omega)]; omega
  rw [e]
  rfl
theorem qd0 (A1 A2 : Option Addr) (c1 c2 n1 n2 lo1 hi1 lo2 hi2 : Nat) (l1 l2 : List UInt8) (w : World) (e1 : n1 = l1.length) (e2 : n2 = l2.length) (h1 : Rd w lo1 hi1 A1 l1) (h2 : Rd w lo2 hi2 A2 l2) :
  Calls Tryz.prog 40 #[.slice A1 n1 c1, .slice A2 n2 c2] w fun e w' => e = .returned (.bool (l1 == l2)) ∧ w = w' := by
 have k1 := q5A (c := c1) e1 h1
 have k2 := q5A (c := c2) e2 h2
 clear h1 h2 e1 e2
 go_enter Tryz.func40, Tryz.ntmps40
 go_wp2
 go_ret
 exact ⟨rfl, rfl⟩
open Go.RowKit
theorem q04 {P : Program} {C : World → Prop} {id : Nat} {Q : Exit → Act → World → Prop} {a : Act} {w : World} {l : List Oper} (hm : P.follows .mixedOrders = true) (hB : Region.lexB .any l.toArray = true) (hC : C w.drew)
  (h : wpQuiet P l.toArray C (fun a' => ∀ w', C w' → Q .normal a' w') l a) : (Code.region id l.toArray true).wp P Q a w :=
 wp_region_quiet (C := C) hm hB hC (by simpa using h)
end Go.Proofs.YtdpbllacfljmoaaGreat
