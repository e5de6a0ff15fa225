import Derived.Test.YtdpbllacfljmoaaGreatZF03
import Derived.Deep.DeepCutAuto
import Derived.BigQuiet
import Derived.Test.YtdpbllacfljmoaaGreatZF01
import Derived.Deep.LoopGhost
import Derived.RegionTactic
import Derived.Deep.RegionHeld3
set_option maxRecDepth 100000
set_option maxHeartbeats 16000000
set_option linter.unusedVariables false
namespace Go.Proofs.YtdpbllacfljmoaaGreat
open Go.RowKit
def q5P (w w' : World) : Prop := w'.heap = w.heap ∧ Below w.heap.size w w'
def q5a (a b : List (KeyS × List UInt8)) : Bool := decide (a = b)
theorem q4K (l m : List (KeyS × List UInt8)) (A B : Option Addr) (c d : Nat) (lo1 hi1 lo2 hi2 : Nat) (w : World) (hl : l.length ≤ 9223372036854775807) (hm : m.length ≤ 9223372036854775807) (hr : RowP w lo1 hi1 A l) (hrm : RowP w lo2 hi2 B m) :
    Calls Tryz.prog 32 #[.slice A l.length c, .slice B m.length d] w fun r w' => r = .returned (.bool (q5a l m)) ∧ Below w.heap.size w w' := by
  by_cases hlen : l.length = m.length
  · have HR := qh hr
    have HRM := qh hrm
    rw [hlen]
    have HLen := qh hlen
    clear hr hrm hlen hl
    go_enter Tryz.func32, Tryz.ntmps32
    go_wp2
    go_loopg [5, 13] m.length (fun q _ i wr => ∃ j : Nat, j + q = m.length ∧ i = .int .i64 j ∧ l.take j = m.take j ∧ Below w.heap.size w wr ∧ wr.heap = w.heap)
    case atStart => exact ⟨0, by omega, rfl, rfl, Below.refl _ _, rfl⟩
    case round =>
      obtain ⟨j, hk, rfl, hall, hb, hh⟩ := hrel
      have HK := qh hk
      have HA := qh hall
      have HB := qh hb
      have HH := qh hh
      clear hall hb hk hh
      by_cases hjm : j < m.length
      · have hlt : decide ((j : Int) < (m.length : Int)) = true := by simpa using hjm
        have hlt3 : decide (j < m.length) = true := by simpa using hjm
        have hj : j < l.length := by rw [HLen.out]; exact hjm
        obtain ⟨b, o, A', c', rfl, hbl, c0, c1, hs⟩ := HR.out.at_ hj
        obtain ⟨b', o', B', d', rfl, hbl2, e0, e1, hs2⟩ := HRM.out.at_ hjm
        have hcell : ∀ W, q5P wr W → ∀ p, W.cell? p = w.cell? p := fun W h p => World.cell?_of_block (by rw [h.1, HH.out])
        have HCl := qh (fun (W : World) (h : q5P wr W) => And.intro ((hcell W h _).trans c0) (And.intro ((hcell W h _).trans c1) (And.intro ((hcell W h _).trans e0) ((hcell W h _).trans e1))))
        have HK1 : Hid (∀ W : World, q5P wr W → (convert 35 9 (.slice A' l[j].2.length c')).run Tryz.prog W = .ok (.string (bs l[j].2)) W) := qh fun W h => q5A rfl (hs.2.2.2.keep fun p _ _ => hcell W h p)
        have HK2 : Hid (∀ W : World, q5P wr W → (convert 35 9 (.slice B' m[j].2.length d')).run Tryz.prog W = .ok (.string (bs m[j].2)) W) := qh fun W h => q5A rfl (hs2.2.2.2.keep fun p _ _ => hcell W h p)
        clear c0 c1 e0 e1
        have HT1 := qh (show l.take (j + 1) = l.take j ++ [l[j]] from by rw [List.take_succ_eq_append_getElem hj])
        have HT2 := qh (show m.take (j + 1) = m.take j ++ [m[j]] from by rw [List.take_succ_eq_append_getElem hjm])
        have HNe := qh (fun (h : l[j] ≠ m[j]) => (show q5a l m = false by
          unfold q5a
          rw [decide_eq_false_iff_not]
          intro e
          subst e
          exact h rfl))
        clear hs hs2 hcell
        generalize l[j] = x at *
        generalize m[j] = y at *
        obtain ⟨x1, x2⟩ := x
        obtain ⟨y1, y2⟩ := y
        simp only at HCl HK1 HK2
        by_cases hx : x1 = y1
        · subst hx
          have q1 : ((bs x1).toList == (bs x1).toList) = true := beq_self_eq_true _
          by_cases hy : x2 = y2
          · subst hy
            have q2 : ((bs x2).toList == (bs x2).toList) = true := beq_self_eq_true _
            go_wp2
            refine q04 (C := q5P wr) (by kernel_rfl) (by kernel_rfl) ⟨rfl, (Below.refl _ _).drew⟩ ?_
            repeat (
              refine no_implicit_lambda% (wpQuiet_step ?_)
              intro K hK
              go_simp
              first
              | (refine no_implicit_lambda% (hK _ ?_); clear hK K)
              | (apply Exists.intro
                 refine ⟨fun _ => ?_, hK _ ?_⟩
                 (first
                   | (intro _; with_reducible rfl)
                   | (intro hw; obtain ⟨z0, z1, z2, z3⟩ := HCl.out _ hw; go_simp; with_reducible exact ⟨rfl, rfl⟩)
                   | (intro hw; obtain ⟨z0, z1, z2, z3⟩ := HCl.out _ hw; go_simp; with_reducible rfl)
                   | (intro hw; have z1 := HK1.out _ hw; have z2 := HK2.out _ hw; go_simp; with_reducible exact ⟨rfl, rfl⟩)
                   | (intro hw; have z1 := HK1.out _ hw; have z2 := HK2.out _ hw; go_simp; with_reducible rfl)
                   | (intro hw; go_simp; with_reducible exact ⟨rfl, rfl⟩))
                 clear hK K))
            refine wpQuiet_nil ?_
            intro w8 hb8
            have HB8 := qh hb8
            clear hb8
            go_wp2_with fail
            go_roundg (gk - 1)
            case measure => have := HK.out; omega
            case rel => exact ⟨j + 1, by have := HK.out; omega, by go_num, by rw [HT1.out, HT2.out, HA.out], HB.out.trans (HB8.out.2.mono HB.out.size), HB8.out.1.trans HH.out⟩
          · have q2 : ((bs x2).toList == (bs y2).toList) = false := by rw [q4a]; exact q5S hy
            have HF := qh (HNe.out (by simp [hy]))
            clear hy
            go_wp2
            refine q04 (C := q5P wr) (by kernel_rfl) (by kernel_rfl) ⟨rfl, (Below.refl _ _).drew⟩ ?_
            repeat (
              refine no_implicit_lambda% (wpQuiet_step ?_)
              intro K hK
              go_simp
              first
              | (refine no_implicit_lambda% (hK _ ?_); clear hK K)
              | (apply Exists.intro
                 refine ⟨fun _ => ?_, hK _ ?_⟩
                 (first
                   | (intro _; with_reducible rfl)
                   | (intro hw; obtain ⟨z0, z1, z2, z3⟩ := HCl.out _ hw; go_simp; with_reducible exact ⟨rfl, rfl⟩)
                   | (intro hw; obtain ⟨z0, z1, z2, z3⟩ := HCl.out _ hw; go_simp; with_reducible rfl)
                   | (intro hw; have z1 := HK1.out _ hw; have z2 := HK2.out _ hw; go_simp; with_reducible exact ⟨rfl, rfl⟩)
                   | (intro hw; have z1 := HK1.out _ hw; have z2 := HK2.out _ hw; go_simp; with_reducible rfl)
                   | (intro hw; go_simp; with_reducible exact ⟨rfl, rfl⟩))
                 clear hK K))
            refine wpQuiet_nil ?_
            intro w8 hb8
            have HB8 := qh hb8
            clear hb8
            go_wp2_with fail
            go_ret
            rw [HF.out]
            exact ⟨rfl, HB.out.trans (HB8.out.2.mono HB.out.size)⟩
        · have q1 : ((bs x1).toList == (bs y1).toList) = false := by rw [q4a]; exact q5S hx
          have HF := qh (HNe.out (by simp [hx]))
          clear hx
          go_wp2
          refine q04 (C := q5P wr) (by kernel_rfl) (by kernel_rfl) ⟨rfl, (Below.refl _ _).drew⟩ ?_
          repeat (
            refine no_implicit_lambda% (wpQuiet_step ?_)
            intro K hK
            go_simp
            first
            | (refine no_implicit_lambda% (hK _ ?_); clear hK K)
            | (apply Exists.intro
               refine ⟨fun _ => ?_, hK _ ?_⟩
               (first
                 | (intro _; with_reducible rfl)
                 | (intro hw; obtain ⟨z0, z1, z2, z3⟩ := HCl.out _ hw; go_simp; with_reducible exact ⟨rfl, rfl⟩)
                 | (intro hw; obtain ⟨z0, z1, z2, z3⟩ := HCl.out _ hw; go_simp; with_reducible rfl)
                 | (intro hw; have z1 := HK1.out _ hw; have z2 := HK2.out _ hw; go_simp; with_reducible exact ⟨rfl, rfl⟩)
                 | (intro hw; have z1 := HK1.out _ hw; have z2 := HK2.out _ hw; go_simp; with_reducible rfl)
                 | (intro hw; go_simp; with_reducible exact ⟨rfl, rfl⟩))
               clear hK K))
          refine wpQuiet_nil ?_
          intro w8 hb8
          have HB8 := qh hb8
          clear hb8
          go_wp2_with fail
          go_ret
          rw [HF.out]
          exact ⟨rfl, HB.out.trans (HB8.out.2.mono HB.out.size)⟩
      · have hj' : j = m.length := by have := HK.out; omega
        have hlt : decide ((j : Int) < (m.length : Int)) = false := by simpa using hjm
        have HF := qh (show q5a l m = true by
          have h := HA.out
          rw [hj', List.take_length, ← HLen.out, List.take_length] at h
          unfold q5a
          rw [decide_eq_true_iff]
          exact h)
        clear hj'
        go_wp2
        go_ret
        rw [HF.out]
        exact ⟨rfl, HB.out⟩
  · have hle : ((l.length : Int) == (m.length : Int)) = false := by rw [beq_eq_false_iff_ne]; omega
    have hle2 : ((l.length : Int) != (m.length : Int)) = true := by rw [bne, hle]; rfl
    have e : q5a l m = false := by unfold q5a; rw [decide_eq_false_iff_not]; intro e; exact hlen (by rw [e])
    rw [e]
    clear e hlen hr hrm
    go_enter Tryz.func32, Tryz.ntmps32
    go_wp2
    go_ret
    exact ⟨rfl, Below.refl _ _⟩
open Go.RowKit
def q1d (t : q2X) (A : Option Addr) (c : Nat) (B : Option Addr) (d : Nat) : Value := .agg #[.int .u64 t.n, .int .i64 t.e, .slice A t.b.length c, .bool t.is, .slice B t.scan.length d]
def qe8 (a b : q2X) : Bool := decide (a.n = b.n) && decide (a.e = b.e) && (a.b == b.b) && (a.is == b.is) && q5a a.scan b.scan
theorem qfr (a b : q2X) : qe8 a b = true ↔ a = b := by
 unfold qe8 q5a
 cases a; cases b
 simp [and_assoc]
theorem qgV (a b : Nat) : ((a : Int) == (b : Int)) = decide (a = b) := by
 rw [Bool.eq_iff_iff, beq_iff_eq, decide_eq_true_iff]
 omega
theorem qgF (a b : Int) : (a == b) = decide (a = b) := by
 rw [Bool.eq_iff_iff, beq_iff_eq, decide_eq_true_iff]
def qcn (w : World) (lo hi : Nat) (t : q2X) (A : Option Addr) (c : Nat) (B : Option Addr) (d : Nat) : Prop := SlI w lo hi A c t.b ∧ ChP w lo hi B d t.scan
theorem qfW (l1 l2 : List UInt8) (A1 A2 : Option Addr) (c1 c2 : Nat) {lo1 hi1 lo2 hi2 : Nat} (w : World) (h1 : SlI w lo1 hi1 A1 c1 l1) (h2 : SlI w lo2 hi2 A2 c2 l2) :
  Calls Tryz.prog 40 #[.slice A1 l1.length c1, .slice A2 l2.length c2] w fun e w' => e = .returned (.bool (l1 == l2)) ∧ w = w' :=
 qd0 A1 A2 c1 c2 l1.length l2.length lo1 hi1 lo2 hi2 l1 l2 w rfl rfl h1.2.2.2 h2.2.2.2
open Go.RowKit
theorem qeK {w : World} {b : Nat} {e : TypeId} {a0 a1 a2 a3 a4 a5 a6 : Value} (h : w.heap[b]? = some (.cells #[a0, a1, a2, a3, a4, a5, a6] e (0, 0))) (v0 v1 v2 v3 v4 v5 v6 : Value) :
  (((((((w.setCell ⟨b, 0, none⟩ v0).setCell ⟨b, 1, none⟩ v1).setCell ⟨b, 2, none⟩ v2).setCell ⟨b, 3, none⟩ v3).setCell ⟨b, 4, none⟩ v4).setCell ⟨b, 5, none⟩ v5).setCell ⟨b, 6, none⟩ v6).heap[b]? = some (.cells #[v0, v1, v2, v3, v4, v5, v6] e (0, 0)) := by
 simp [World.setCell, Array.getElem?_modify, h]
theorem Below.box7 {w w' : World} {B b : Nat} (h : Below B w w') (hb : B ≤ b) (v0 v1 v2 v3 v4 v5 v6 : Value) : Below B w (((((((w'.setCell ⟨b, 0, none⟩ v0).setCell ⟨b, 1, none⟩ v1).setCell ⟨b, 2, none⟩ v2).setCell ⟨b, 3, none⟩ v3).setCell ⟨b, 4, none⟩ v4).setCell ⟨b, 5, none⟩ v5).setCell ⟨b, 6, none⟩ v6) :=
 ((((((h.setCell hb _).setCell hb _).setCell hb _).setCell hb _).setCell hb _).setCell hb _).setCell hb _
open Go.RowKit
theorem q2Q {w : World} {b : Nat} {e : TypeId} {a0 a1 a2 a3 a4 : Value} (h : w.heap[b]? = some (.cells #[a0, a1, a2, a3, a4] e (0, 0))) (v0 v1 v2 v3 v4 : Value) :
  (((((w.setCell ⟨b, 0, none⟩ v0).setCell ⟨b, 1, none⟩ v1).setCell ⟨b, 2, none⟩ v2).setCell ⟨b, 3, none⟩ v3).setCell ⟨b, 4, none⟩ v4).heap[b]? = some (.cells #[v0, v1, v2, v3, v4] e (0, 0)) := by
 simp [World.setCell, Array.getElem?_modify, h]
theorem q4D (w : World) (p : Addr) (v : Value) : Mut (fun k => k = p.block) w (w.setCell p v) := by
 have h := (Below.refl 0 w).setCell (Nat.zero_le p.block) v
 refine ⟨h.os, h.tape, h.output, h.size, fun k _ hk => ?_⟩
 have hk' : p.block ≠ k := fun e => hk e.symm
 simp [World.setCell, Array.getElem?_modify, hk']
theorem q2j (w : World) (b : Nat) (v0 v1 v2 v3 v4 : Value) : Mut (fun k => k = b) w (((((w.setCell ⟨b, 0, none⟩ v0).setCell ⟨b, 1, none⟩ v1).setCell ⟨b, 2, none⟩ v2).setCell ⟨b, 3, none⟩ v3).setCell ⟨b, 4, none⟩ v4) :=
 (((((q4D w ⟨b, 0, none⟩ v0).trans (q4D _ ⟨b, 1, none⟩ v1) (fun _ h => .inl h)).trans (q4D _ ⟨b, 2, none⟩ v2) (fun _ h => .inl h)).trans (q4D _ ⟨b, 3, none⟩ v3) (fun _ h => .inl h)).trans (q4D _ ⟨b, 4, none⟩ v4) (fun _ h => .inl h))
open Go.RowKit
def st2 : PS := ⟨2, [([97], [⟨1, false, [120]⟩, ⟨2, true, []⟩])]⟩
open Go.RowKit
theorem qas (t : TypeId) (a b : ByteArray) : binOp .leq t (.string a) (.string b) = pure (.bool (Op.bytesLess a.toList b.toList || a.toList == b.toList)) := by simp [binOp, Op.stringOp]
theorem q0b {w : World} {b g : Nat} (hg : g ≠ b) (o : Nat) (v : Value) : (w.setCell ⟨b, o, none⟩ v).heap[g]? = w.heap[g]? := by
 have hg' : b ≠ g := fun e => hg e.symm
 simp [World.setCell, Array.getElem?_modify, hg']
section
variable {St : q7w} {w : World}
end
open Go.RowKit
theorem q9h (a b : List Ver) : q0z (a ++ b) = q0z a + q0z b := by
 induction a with
 | nil => simp [q0z]
 | cons x a ih =>
  have e : ∀ l : List Ver, q0z (x :: l) = x.dat.length + q0z l := fun l => by simp [q0z]
  rw [List.cons_append, e, e, ih]
  omega
theorem qcf {l : List Ver} {j : Nat} (hj : j < l.length) : q0z (l.take (j + 1)) = q0z (l.take j) + (l[j]'hj).dat.length := by
 rw [List.take_succ_eq_append_getElem hj, q9h]
 rfl
theorem q7Z (l : List Ver) (j : Nat) : q0z (l.take j) ≤ q0z l := by
 have h : q0z l = q0z (l.take j) + q0z (l.drop j) := by
  rw [← q9h, List.take_append_drop]
 omega
open Go.RowKit
def optH (o : Option Ver) : Ver := o.getD Ver0
open Go.RowKit
open Go.RowKit
def ChH (w : World) (hi : Nat) (A : Option Addr) (c : Nat) (l : List Ver) : Prop := l.length ≤ c ∧ c ≤ maxLen ∧ (A = none → c = 0) ∧ RowH w hi A l
theorem ChH.none_ (w : World) (hi : Nat) : ChH w hi none 0 [] := ⟨Nat.le_refl _, Nat.zero_le _, fun _ => rfl, RowH.nil_ _ _ _⟩
open Go.RowKit
section
variable {w w' : World} {hi hi' B : Nat} {A : Option Addr} {ms : List MV}
end
open Go.RowKit
structure MOne where
 key : KeyS
 A : Option Addr
 c : Nat
 ms : List MV
def RowS {α : Type} (cs : α → List Value) (w : World) (S : Nat → Prop) (A : Option Addr) (l : List α) : Prop :=
 0 < l.length → ∃ b o, A = some ⟨b, o, none⟩ ∧ S b ∧ ∀ j u, (q0g cs l)[j]? = some u → w.cell? ⟨b, o + j, none⟩ = some u
def RdS (w : World) (S : Nat → Prop) (A : Option Addr) (l : List UInt8) : Prop :=
 0 < l.length → ∃ b o, A = some ⟨b, o, none⟩ ∧ S b ∧ ∀ j (h : j < l.length), w.cell? ⟨b, o + j, none⟩ = some (.int .u8 ((l[j]'h).toNat : Int))
section
variable {α : Type} {k : Nat} {cs : α → List Value} {w w' : World} {S T : Nat → Prop} {A : Option Addr} {l : List α}
theorem RowS.block (hF : q12 k cs) (h : RowS cs w S A l) (hn : 0 < l.length) : ∃ b o, A = some ⟨b, o, none⟩ ∧ S b ∧ b < w.heap.size ∧ ∀ j u, (q0g cs l)[j]? = some u → w.cell? ⟨b, o + j, none⟩ = some u := by
 obtain ⟨b, o, e, hs, hc⟩ := h hn
 have h0 : 0 < (q0g cs l).length := by rw [hF.flat_len]; exact Nat.mul_pos hn hF.pos
 have := World.block_lt_of_cell? w _ (hc 0 _ (List.getElem?_eq_getElem h0))
 exact ⟨b, o, e, hs, by simpa using this, hc⟩
theorem RowS.rowG (hF : q12 k cs) (h : RowS cs w S A l) : RowG cs w 0 w.heap.size A l := fun hn => by
 obtain ⟨b, o, e, _, hb, hc⟩ := h.block hF hn
 exact ⟨b, o, e, Nat.zero_le _, hb, hc⟩
theorem RowS.keep (hF : q12 k cs) (h : RowS cs w S A l) (hk : ∀ g, S g → g < w.heap.size → w'.heap[g]? = w.heap[g]? ∧ T g) : RowS cs w' T A l := fun hn => by
 obtain ⟨b, o, e, hs, hb, hc⟩ := h.block hF hn
 obtain ⟨h1, h2⟩ := hk b hs hb
 exact ⟨b, o, e, h2, fun j u hj => (World.cell?_of_block (a := ⟨b, o + j, none⟩) h1).trans (hc j u hj)⟩
theorem RowS.of_new {lo hi : Nat} (h : RowG cs w lo hi A l) (hS : ∀ g, lo ≤ g → S g) : RowS cs w S A l := fun hn => by
 obtain ⟨b, o, e, h1, _, hc⟩ := h hn
 exact ⟨b, o, e, hS b h1, hc⟩
theorem RdS.block {d : List UInt8} (h : RdS w S A d) (hn : 0 < d.length) : ∃ b o, A = some ⟨b, o, none⟩ ∧ S b ∧ b < w.heap.size ∧ ∀ j (h : j < d.length), w.cell? ⟨b, o + j, none⟩ = some (.int .u8 ((d[j]'h).toNat : Int)) := by
 obtain ⟨b, o, e, hs, hc⟩ := h hn
 have := World.block_lt_of_cell? w _ (hc 0 hn)
 exact ⟨b, o, e, hs, by simpa using this, hc⟩
theorem RdS.rd {d : List UInt8} (h : RdS w S A d) : Rd w 0 w.heap.size A d := fun hn => by
 obtain ⟨b, o, e, _, hb, hc⟩ := h.block hn
 exact ⟨b, o, e, Nat.zero_le _, hb, hc⟩
theorem RdS.keep {d : List UInt8} (h : RdS w S A d) (hk : ∀ g, S g → g < w.heap.size → w'.heap[g]? = w.heap[g]? ∧ T g) : RdS w' T A d := fun hn => by
 obtain ⟨b, o, e, hs, hb, hc⟩ := h.block hn
 obtain ⟨h1, h2⟩ := hk b hs hb
 exact ⟨b, o, e, h2, fun j hj => (World.cell?_of_block (a := ⟨b, o + j, none⟩) h1).trans (hc j hj)⟩
theorem RdS.of_rd {d : List UInt8} {lo hi : Nat} (h : Rd w lo hi A d) (hS : ∀ g, lo ≤ g → g < hi → S g) : RdS w S A d := fun hn => by
 obtain ⟨b, o, e, h1, h2, hc⟩ := h hn
 exact ⟨b, o, e, hS b h1 h2, hc⟩
end
section
variable {w w' : World} {p : Nat} {S T : Nat → Prop} {L : LimS} {m r v : Int} {time : Nat} {A : Option Addr} {c : Nat} {os : List MOne}
end
structure Sp where
 lo : List UInt8
 hi : List UInt8
abbrev blo (a b : List UInt8) : Bool := !blt b a
def endS (hi k : List UInt8) : Bool := hi.isEmpty || blt k hi
def hasS (s : Sp) (k : List UInt8) : Bool := blo s.lo k && endS s.hi k
def q0f (s : Sp) : Bool := endS s.hi s.lo
def inP (l : List Sp) (k : List UInt8) : Bool := l.any fun s => hasS s k
def gapS (s t : Sp) : Prop := s.hi ≠ [] ∧ blt s.hi t.lo = true
def q0D : List Sp → Prop
 | [] => True
 | s :: l => q0f s = true ∧ (∀ t ∈ l, gapS s t) ∧ q0D l
theorem q1s (a : List UInt8) : blo a a = true := by simp [blo, q0V]
theorem q29 {a b : List UInt8} (h : blt a b = true) : blo a b = true := by simp [blo, q1Z h]
theorem q7z {a b : List UInt8} : blo a b = true ↔ blt a b = true ∨ a = b := by
 constructor
 ·intro h
  rcases q2c a b with g | g | g
  ·exact .inl g
  ·exact .inr g
  ·simp [blo, g] at h
 ·rintro (h | rfl)
  ·exact q29 h
  ·exact q1s _
theorem qaH {a b c : List UInt8} (h : blo a b = true) (h2 : blt b c = true) : blt a c = true := by
 rcases q7z.1 h with g | rfl
 ·exact q0p g h2
 ·exact h2
theorem q5t {a b c : List UInt8} (h : blt a b = true) (h2 : blo b c = true) : blt a c = true := by
 rcases q7z.1 h2 with g | rfl
 ·exact q0p h g
 ·exact h
theorem q1i {a b c : List UInt8} (h : blo a b = true) (h2 : blo b c = true) : blo a c = true := by
 rcases q7z.1 h with g | rfl
 ·exact q29 (q5t g h2)
 ·exact h2
theorem qaG {a b : List UInt8} (h : blo a b = true) (h2 : blo b a = true) : a = b := by
 rcases q7z.1 h with g | g
 ·rw [blo, g] at h2; cases h2
 ·exact g
theorem q4k {a b : List UInt8} (h : ¬ blo a b = true) : blt b a = true := by
 rcases q2c a b with g | g | g
 ·exact absurd (q29 g) h
 ·exact absurd (g ▸ q1s a) h
 ·exact g
theorem q7c {s : Sp} (h : q0f s = true) : hasS s s.lo = true := by
 unfold hasS
 rw [q1s]
 exact h
theorem q0x {s : Sp} {k : List UInt8} : hasS s k = true ↔ blo s.lo k = true ∧ endS s.hi k = true := by
 unfold hasS
 rw [Bool.and_eq_true]
theorem q0B {hi k : List UInt8} : endS hi k = true ↔ hi = [] ∨ blt k hi = true := by
 unfold endS
 rw [Bool.or_eq_true, List.isEmpty_iff]
theorem q1m {l : List Sp} {k : List UInt8} : inP l k = true ↔ ∃ s ∈ l, hasS s k = true := by
 unfold inP
 rw [List.any_eq_true]
theorem q4z {s t : Sp} (h : q0f s = true) (hg : gapS s t) : blt s.lo t.lo = true := by
 rcases q0B.1 h with g | g
 ·exact absurd g hg.1
 ·exact q0p g hg.2
theorem qa7 {s : Sp} {l : List Sp} (hg : ∀ t ∈ l, gapS s t) {k : List UInt8} (hk : blo k s.hi = true) : inP l k = false := by
 cases h : inP l k
 ·rfl
 ·obtain ⟨t, ht, hh⟩ := q1m.1 h
  have h1 := (q0x.1 hh).1
  have h2 := q5t (hg t ht).2 h1
  have h3 := qaH hk h2
  rw [q0V] at h3
  cases h3
theorem qdO {s : Sp} {l : List Sp} (h : q0D (s :: l)) {k : List UInt8} (hk : inP (s :: l) k = true) : blo s.lo k = true := by
 obtain ⟨t, ht, hh⟩ := q1m.1 hk
 rcases List.mem_cons.1 ht with rfl | ht
 ·exact (q0x.1 hh).1
 ·exact q1i (q29 (q4z h.1 (h.2.1 t ht))) (q0x.1 hh).1
theorem qdN : ∀ {a b : List Sp}, q0D a → q0D b → (∀ k, inP a k = inP b k) → a = b
 | [], [], _, _, _ => rfl
 | [], t :: b, _, hb, h => by
  have := h t.lo
  rw [q1m.2 ⟨t, List.mem_cons_self .., q7c hb.1⟩] at this
  cases this
 | s :: a, [], ha, _, h => by
  have := h s.lo
  rw [q1m.2 ⟨s, List.mem_cons_self .., q7c ha.1⟩] at this
  cases this
 | s :: a, t :: b, ha, hb, h => by
  have hs : inP (s :: a) s.lo = true := q1m.2 ⟨s, List.mem_cons_self .., q7c ha.1⟩
  have ht : inP (t :: b) t.lo = true := q1m.2 ⟨t, List.mem_cons_self .., q7c hb.1⟩
  have e1 : s.lo = t.lo := qaG (qdO ha (by rw [h]; exact ht)) (qdO hb (by rw [← h]; exact hs))
  have key : ∀ {x y : Sp} {p q : List Sp}, q0D (x :: p) → q0D (y :: q) → x.lo = y.lo → (∀ k, inP (x :: p) k = inP (y :: q) k) → x.hi ≠ [] → endS y.hi x.hi = true → False := by
   intro x y p q hx hy e hh hne hend
   have hxl : blt x.lo x.hi = true := by
    rcases q0B.1 hx.1 with g | g
    ·exact absurd g hne
    ·exact g
   have h1 : inP (y :: q) x.hi = true := q1m.2 ⟨y, List.mem_cons_self .., q0x.2 ⟨by rw [← e]; exact q29 hxl, hend⟩⟩
   rw [← hh] at h1
   obtain ⟨z, hz, hzz⟩ := q1m.1 h1
   rcases List.mem_cons.1 hz with rfl | hz
   ·rcases q0B.1 (q0x.1 hzz).2 with g | g
    ·exact hne g
    ·rw [q0V] at g; cases g
   ·have := qa7 hx.2.1 (q1s x.hi)
    rw [q1m.2 ⟨z, hz, hzz⟩] at this
    cases this
  have e2 : s.hi = t.hi := by
   by_cases hs0 : s.hi = []
   ·by_cases ht0 : t.hi = []
    ·rw [hs0, ht0]
    ·exact (key hb ha e1.symm (fun k => (h k).symm) ht0 (q0B.2 (.inl hs0))).elim
   ·by_cases ht0 : t.hi = []
    ·exact (key ha hb e1 h hs0 (q0B.2 (.inl ht0))).elim
    ·rcases q2c s.hi t.hi with g | g | g
     ·exact (key ha hb e1 h hs0 (q0B.2 (.inr g))).elim
     ·exact g
     ·exact (key hb ha e1.symm (fun k => (h k).symm) ht0 (q0B.2 (.inr g))).elim
  have e : s = t := by cases s; cases t; simp only at e1 e2; subst e1 e2; rfl
  subst e
  have ht : ∀ k, inP a k = inP b k := fun k => by
   have hk := h k
   have c : ∀ l : List Sp, inP (s :: l) k = (hasS s k || inP l k) := fun l => by simp [inP]
   rw [c, c] at hk
   cases hq : hasS s k
   ·rw [hq, Bool.false_or, Bool.false_or] at hk
    exact hk
   ·rcases q0B.1 (q0x.1 hq).2 with g | g
    ·have na : a = [] := by
      cases a with
      | nil => rfl
      | cons x a => exact absurd g (ha.2.1 x (List.mem_cons_self ..)).1
     have nb : b = [] := by
      cases b with
      | nil => rfl
      | cons x b => exact absurd g (hb.2.1 x (List.mem_cons_self ..)).1
     rw [na, nb]
    ·rw [qa7 ha.2.1 (q29 g), qa7 hb.2.1 (q29 g)]
  rw [qdN ha.2.2 hb.2.2 ht]
def maxS (a b : List UInt8) : List UInt8 := if blt a b = true then b else a
def minS (a b : List UInt8) : List UInt8 := if blt a b = true then a else b
def q2y (a b : Sp) : Bool := hasS a (maxS a.lo b.lo) && hasS b (maxS a.lo b.lo)
theorem qfF {a b k : List UInt8} : blo (maxS a b) k = true ↔ blo a k = true ∧ blo b k = true := by
 unfold maxS
 split
 ·next h => exact ⟨fun g => ⟨q1i (q29 h) g, g⟩, fun g => g.2⟩
 ·next h =>
  have hba : blo b a = true := by simp [blo, h]
  exact ⟨fun g => ⟨g, q1i hba g⟩, fun g => g.1⟩
theorem q1t {hi k j : List UInt8} (h : endS hi k = true) (hj : blo j k = true) : endS hi j = true := by
 rcases q0B.1 h with g | g
 ·exact q0B.2 (.inl g)
 ·exact q0B.2 (.inr (qaH hj g))
theorem q6s (a b : Sp) : q2y a b = true ↔ ∃ k, hasS a k = true ∧ hasS b k = true := by
 unfold q2y
 rw [Bool.and_eq_true]
 constructor
 ·exact fun h => ⟨_, h⟩
 ·rintro ⟨k, ha, hb⟩
  obtain ⟨a1, a2⟩ := q0x.1 ha
  obtain ⟨b1, b2⟩ := q0x.1 hb
  have hm := qfF.2 ⟨a1, b1⟩
  have hr := qfF.1 (q1s (maxS a.lo b.lo))
  exact ⟨q0x.2 ⟨hr.1, q1t a2 hm⟩, q0x.2 ⟨hr.2, q1t b2 hm⟩⟩
end Go.Proofs.YtdpbllacfljmoaaGreat
