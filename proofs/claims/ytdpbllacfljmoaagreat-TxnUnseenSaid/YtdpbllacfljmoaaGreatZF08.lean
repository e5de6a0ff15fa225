import Derived.Test.YtdpbllacfljmoaaGreatZF04
import Derived.Test.YtdpbllacfljmoaaGreatZF06
import Derived.Test.YtdpbllacfljmoaaGreatZF07
import Derived.Laws.Cover1
import Derived.Deep.DeepCutAuto
import Derived.Deep.RegionHeld3
import Derived.Test.YtdpbllacfljmoaaGreatZF03
set_option maxRecDepth 100000
set_option maxHeartbeats 16000000
set_option linter.unusedVariables false
namespace Go.Proofs.YtdpbllacfljmoaaGreat
open Go.RowKit
def ByS (w : World) (R : Nat → Prop) (A : Option Addr) (c : Nat) (d : List UInt8) : Prop := d.length ≤ c ∧ c ≤ maxLen ∧ (A = none → c = 0) ∧ RdS w R A d
def PaS (w : World) (R : Nat → Prop) (A : Option Addr) (c : Nat) (l : List (KeyS × List UInt8)) : Prop := l.length ≤ c ∧ c ≤ maxLen ∧ (A = none → c = 0) ∧ ∃ ms : List MP, ms.map MP.p = l ∧ RowS q0e w R A ms ∧ ∀ x ∈ ms, ByS w R x.A x.c x.b
def SpS (w : World) (R : Nat → Prop) (A : Option Addr) (c : Nat) (l : List Sp) : Prop := l.length ≤ c ∧ c ≤ maxLen ∧ (A = none → c = 0) ∧ RowS q07 w R A l
def OkRS (w : World) (R : Nat → Prop) (x : MR) : Prop := (x.r.first < 18446744073709551616 ∧ x.r.last < 18446744073709551616 ∧ x.r.began < 18446744073709551616 ∧ x.r.out < 18446744073709551616) ∧ SpS w R x.A x.c x.r.reads ∧ SpS w R x.B x.d x.r.writes
def ReS (w : World) (R : Nat → Prop) (A : Option Addr) (c : Nat) (l : List RecS) : Prop := l.length ≤ c ∧ c ≤ maxLen ∧ (A = none → c = 0) ∧ ∃ ms : List MR, ms.map MR.r = l ∧ RowS q0d w R A ms ∧ ∀ x ∈ ms, OkRS w R x
structure MD where
 d : q47
 A : Option Addr
 c : Nat
 B : Option Addr
 e : Nat
def q0S (x : MD) : List Value := [.int .i64 x.d.id, .int .u64 x.d.began, .int .u64 x.d.at_, .int .i64 x.d.start, .int .i64 x.d.end_, .slice x.A x.d.reads.length x.c, .slice x.B x.d.writes.length x.e]
theorem mdF : q12 7 q0S := ⟨by decide, fun _ => rfl, fun x v hv => by
 simp only [q0S, List.mem_cons, List.not_mem_nil, or_false] at hv
 rcases hv with rfl | rfl | rfl | rfl | rfl | rfl | rfl <;> rfl⟩
def OkDS (w : World) (R : Nat → Prop) (x : MD) : Prop := SpS w R x.A x.c x.d.reads ∧ SpS w R x.B x.e x.d.writes
def DoS (w : World) (R : Nat → Prop) (A : Option Addr) (c : Nat) (l : List q47) : Prop := l.length ≤ c ∧ c ≤ maxLen ∧ (A = none → c = 0) ∧ ∃ ms : List MD, ms.map MD.d = l ∧ RowS q0S w R A ms ∧ ∀ x ∈ ms, OkDS w R x
def qa9 (n : Nat) : List Value := [.int .i64 (n : Int)]
def InS_ (w : World) (R : Nat → Prop) (A : Option Addr) (c : Nat) (l : List Nat) : Prop := l.length ≤ c ∧ c ≤ maxLen ∧ (A = none → c = 0) ∧ RowS qa9 w R A l
section
variable {w w' : World} {R T : Nat → Prop} {A : Option Addr} {c : Nat}
theorem ByS.keep {d : List UInt8} (h : ByS w R A c d) (hk : ∀ g, R g → g < w.heap.size → w'.heap[g]? = w.heap[g]? ∧ T g) : ByS w' T A c d := ⟨h.1, h.2.1, h.2.2.1, h.2.2.2.keep hk⟩
theorem PaS.keep {l : List (KeyS × List UInt8)} (h : PaS w R A c l) (hk : ∀ g, R g → g < w.heap.size → w'.heap[g]? = w.heap[g]? ∧ T g) : PaS w' T A c l := by
 obtain ⟨h1, h2, h3, ms, e, hr, ho⟩ := h
 exact ⟨h1, h2, h3, ms, e, hr.keep mpF hk, fun x hx => (ho x hx).keep hk⟩
theorem SpS.keep {l : List Sp} (h : SpS w R A c l) (hk : ∀ g, R g → g < w.heap.size → w'.heap[g]? = w.heap[g]? ∧ T g) : SpS w' T A c l := ⟨h.1, h.2.1, h.2.2.1, h.2.2.2.keep spF hk⟩
theorem OkRS.keep {x : MR} (h : OkRS w R x) (hk : ∀ g, R g → g < w.heap.size → w'.heap[g]? = w.heap[g]? ∧ T g) : OkRS w' T x := ⟨h.1, h.2.1.keep hk, h.2.2.keep hk⟩
theorem DoS.keep {l : List q47} (h : DoS w R A c l) (hk : ∀ g, R g → g < w.heap.size → w'.heap[g]? = w.heap[g]? ∧ T g) : DoS w' T A c l := by
 obtain ⟨h1, h2, h3, ms, e, hr, ho⟩ := h
 exact ⟨h1, h2, h3, ms, e, hr.keep mdF hk, fun x hx => ⟨(ho x hx).1.keep hk, (ho x hx).2.keep hk⟩⟩
theorem ByS.sl {d : List UInt8} (h : ByS w R A c d) : SlI w 0 w.heap.size A c d := ⟨h.1, h.2.1, h.2.2.1, h.2.2.2.rd⟩
theorem PaS.ch {l : List (KeyS × List UInt8)} (h : PaS w R A c l) : ChP w 0 w.heap.size A c l := by
 obtain ⟨h1, h2, h3, ms, e, hr, ho⟩ := h
 exact ⟨h1, h2, h3, ms, e, hr.rowG mpF, fun x hx => (ho x hx).sl⟩
theorem SpS.ch {l : List Sp} (h : SpS w R A c l) : ChI w w.heap.size A c l := ⟨h.1, h.2.1, h.2.2.1, h.2.2.2.rowG spF⟩
theorem OkRS.ok {x : MR} (h : OkRS w R x) : OkMR w w.heap.size x := ⟨h.1.1, h.1.2.1, h.1.2.2.1, h.1.2.2.2, h.2.1.ch, h.2.2.ch⟩
theorem ReS.ch {l : List RecS} (h : ReS w R A c l) : ChR w w.heap.size A c l := by
 obtain ⟨h1, h2, h3, ms, e, hr, ho⟩ := h
 exact ⟨h1, h2, h3, ms, e, hr.rowG mrF, fun x hx => (ho x hx).ok⟩
theorem ByS.none_ (w : World) (R : Nat → Prop) : ByS w R none 0 [] := ⟨Nat.le_refl _, Nat.zero_le _, fun _ => rfl, fun h => absurd h (by simp)⟩
theorem PaS.none_ (w : World) (R : Nat → Prop) : PaS w R none 0 [] := ⟨Nat.le_refl _, Nat.zero_le _, fun _ => rfl, [], rfl, fun h => absurd h (by simp), by simp⟩
end
def q6P (w : World) (R : Nat → Prop) (t : q2X) (A : Option Addr) (c : Nat) (B : Option Addr) (d : Nat) : Prop := ByS w R A c t.b ∧ PaS w R B d t.scan
theorem q6P.keep {w w' : World} {R T : Nat → Prop} {t : q2X} {A B : Option Addr} {c d : Nat} (h : q6P w R t A c B d) (hk : ∀ g, R g → g < w.heap.size → w'.heap[g]? = w.heap[g]? ∧ T g) : q6P w' T t A c B d := ⟨h.1.keep hk, h.2.keep hk⟩
theorem q6P.in_ {w : World} {R : Nat → Prop} {t : q2X} {A B : Option Addr} {c d : Nat} (h : q6P w R t A c B d) : qcn w 0 w.heap.size t A c B d := ⟨h.1.sl, h.2.ch⟩
structure MOT where
 o : OpT
 A : Option Addr
 c : Nat
def q6y (x : MOT) : List Value := [.int .i64 x.o.what, .int .i64 x.o.id, .string (bs x.o.w.key), .bool x.o.w.gone, .slice x.A x.o.w.dat.length x.c, .string (bs x.o.hi)]
theorem otF : q12 6 q6y := ⟨by decide, fun _ => rfl, fun x v hv => by
 simp only [q6y, List.mem_cons, List.not_mem_nil, or_false] at hv
 rcases hv with rfl | rfl | rfl | rfl | rfl | rfl <;> rfl⟩
def q4o (x : Wr) (A : Option Addr) (c : Nat) : Value := .agg #[.string (bs x.key), .bool x.gone, .slice A x.dat.length c]
def qfh (o : OpT) (A : Option Addr) (c : Nat) : Value := .agg #[.int .i64 o.what, .int .i64 o.id, .string (bs o.w.key), .bool o.w.gone, .slice A o.w.dat.length c, .string (bs o.hi)]
def OkOT (w : World) (hi : Nat) (x : MOT) : Prop := I64 x.o.what ∧ I64 x.o.id ∧ x.o.w.key.length ≤ maxLen ∧ x.o.hi.length ≤ maxLen ∧ SlI w 0 hi x.A x.c x.o.w.dat
def qbn (w : World) (hi : Nat) (A : Option Addr) (l : List OpT) : Prop := ∃ ms : List MOT, ms.map MOT.o = l ∧ RowG q6y w 0 hi A ms ∧ ∀ x ∈ ms, OkOT w hi x
def ChOT (w : World) (hi : Nat) (A : Option Addr) (c : Nat) (l : List OpT) : Prop := l.length ≤ c ∧ c ≤ maxLen ∧ (A = none → c = 0) ∧ qbn w hi A l
section
variable {w w' : World} {hi hi' B : Nat} {A : Option Addr} {c : Nat} {l : List OpT} {x : MOT}
theorem OkOT.below (h : OkOT w hi x) (hb : Below B w w') (hB : hi ≤ B) (hh : hi ≤ hi') : OkOT w' hi' x := ⟨h.1, h.2.1, h.2.2.1, h.2.2.2.1, (h.2.2.2.2.keep fun g _ hg => hb.block g (by omega)).wide (Nat.le_refl _) hh⟩
theorem qbn.below (h : qbn w hi A l) (hb : Below B w w') (hB : hi ≤ B) (hh : hi ≤ hi') : qbn w' hi' A l := by
 obtain ⟨ms, e, h1, h2⟩ := h
 exact ⟨ms, e, (h1.below hb hB).wide (Nat.le_refl _) hh, fun x hx => (h2 x hx).below hb hB hh⟩
theorem ChOT.below (h : ChOT w hi A c l) (hb : Below B w w') (hB : hi ≤ B) (hh : hi ≤ hi') : ChOT w' hi' A c l := ⟨h.1, h.2.1, h.2.2.1, h.2.2.2.below hb hB hh⟩
theorem qbn.at_ (h : qbn w hi A l) {j : Nat} (hj : j < l.length) :
  ∃ b o, A = some ⟨b, o, none⟩ ∧ b < hi ∧ ∃ x : MOT, x.o = l[j]'hj ∧ OkOT w hi x ∧ w.cell? ⟨b, o + j * 6, none⟩ = some (.int .i64 x.o.what) ∧ w.cell? ⟨b, o + j * 6 + 1, none⟩ = some (.int .i64 x.o.id) ∧ w.cell? ⟨b, o + j * 6 + 2, none⟩ = some (.string (bs x.o.w.key)) ∧
   w.cell? ⟨b, o + j * 6 + 3, none⟩ = some (.bool x.o.w.gone) ∧ w.cell? ⟨b, o + j * 6 + 4, none⟩ = some (.slice x.A x.o.w.dat.length x.c) ∧ w.cell? ⟨b, o + j * 6 + 5, none⟩ = some (.string (bs x.o.hi)) := by
 obtain ⟨ms, rfl, h1, h2⟩ := h
 have hj' : j < ms.length := by simpa using hj
 obtain ⟨b, o, e, _, hb, hc⟩ := h1.at_ otF hj'
 exact ⟨b, o, e, hb, ms[j], by simp, h2 _ (List.getElem_mem hj'), by simpa using hc 0 _ rfl, hc 1 _ rfl, hc 2 _ rfl, hc 3 _ rfl, hc 4 _ rfl, hc 5 _ rfl⟩
end
open Go.RowKit
theorem qfg {h : List UInt8} (e : h.isEmpty = true) : ((bs h).toList == []) = true ∧ (bs h).toList = [] := by
 rw [List.isEmpty_iff] at e
 subst e
 rw [q1k]
 exact ⟨rfl, rfl⟩
theorem qff {h : List UInt8} (e : h.isEmpty = false) : ((bs h).toList == []) = false ∧ ¬ (bs h).toList = [] := by
 rw [List.isEmpty_eq_false_iff] at e
 rw [q1k]
 exact ⟨beq_eq_false_iff_ne.2 e, e⟩
open Go.RowKit
open Go.RowKit
theorem qh0 (a b c d : List UInt8) (w : World) : (Op.equalIn 10000 131 (.agg #[.string (bs a), .string (bs b)]) (.agg #[.string (bs c), .string (bs d)])).run Tryz.prog w = .ok (decide ((⟨a, b⟩ : Sp) = ⟨c, d⟩)) w := by
 simp [go_sem, Tryz.underlying131, Tryz.underlying9, q1k]
 by_cases h1 : a = c
 ·by_cases h2 : b = d
  ·simp [h1, h2]
  ·simp [h1, h2]
 ·simp [h1]
theorem q3I (l m : List Sp) (A B : Option Addr) (c d : Nat) (w : World) (hl : l.length ≤ 9223372036854775807) (hm : m.length ≤ 9223372036854775807) (hr : RowG q07 w 0 w.heap.size A l) (hrm : RowG q07 w 0 w.heap.size B m) :
    Calls Tryz.prog 72 #[.slice A l.length c, .slice B m.length d] w fun r w' => r = .returned (.bool (q4J l m)) ∧ Below w.heap.size w w' := by
  by_cases hlen : l.length = m.length
  · have HR := qh hr
    have HRM := qh hrm
    rw [hlen]
    have HLen := qh hlen
    clear hr hrm hlen hl
    go_enter Tryz.func72, Tryz.ntmps72
    go_wp2
    go_loopg [5, 13] m.length (fun q _ i wr => ∃ j : Nat, j + q = m.length ∧ i = .int .i64 j ∧ l.take j = m.take j ∧ Below w.heap.size w wr)
    case atStart => exact ⟨0, by omega, rfl, rfl, Below.refl _ _⟩
    case round =>
      obtain ⟨j, hk, rfl, hall, hb⟩ := hrel
      have HK := qh hk
      have HA := qh hall
      have HB := qh hb
      clear hall hb hk
      by_cases hjm : j < m.length
      · have hlt : decide ((j : Int) < (m.length : Int)) = true := by simpa using hjm
        have hlt3 : decide (j < m.length) = true := by simpa using hjm
        have hj : j < l.length := by rw [HLen.out]; exact hjm
        obtain ⟨b, o, rfl, _, hbl, hc⟩ := (HR.out.below HB.out (Nat.le_refl _)).at_ spF hj
        obtain ⟨b', o', rfl, _, hbl2, hc2⟩ := (HRM.out.below HB.out (Nat.le_refl _)).at_ spF hjm
        have HT1 := qh (show l.take (j + 1) = l.take j ++ [l[j]] from by rw [List.take_succ_eq_append_getElem hj])
        have HT2 := qh (show m.take (j + 1) = m.take j ++ [m[j]] from by rw [List.take_succ_eq_append_getElem hjm])
        have HNe := qh (fun (h : l[j] ≠ m[j]) => (show q4J l m = false by
          unfold q4J
          rw [decide_eq_false_iff_not]
          intro e
          subst e
          exact h rfl))
        have c0 := hc 0 _ rfl
        have c1 := hc 1 _ rfl
        have d0 := hc2 0 _ rfl
        have d1 := hc2 1 _ rfl
        simp only [Nat.add_zero] at c0 d0
        have hsz := HB.out.size
        clear hc hc2
        generalize l[j] = x at *
        generalize m[j] = y at *
        obtain ⟨x1, x2⟩ := x
        obtain ⟨y1, y2⟩ := y
        simp only at c0 c1 d0 d1
        have HCl := qh (fun (W : World) (h : Below wr.heap.size wr W) => And.intro ((h.cell (p := ⟨b, o + j * 2, none⟩) (by simp only; omega)).trans c0) (And.intro ((h.cell (p := ⟨b, o + j * 2 + 1, none⟩) (by simp only; omega)).trans c1) (And.intro ((h.cell (p := ⟨b', o' + j * 2, none⟩) (by simp only; omega)).trans d0) ((h.cell (p := ⟨b', o' + j * 2 + 1, none⟩) (by simp only; omega)).trans d1))))
        clear c0 c1 d0 d1 hsz hbl hbl2
        have hEq := qh0 x1 x2 y1 y2
        generalize hE : decide ((⟨x1, x2⟩ : Sp) = ⟨y1, y2⟩) = E at *
        have HE := qh hE
        have HEq := qh hEq
        clear hE hEq
        clear HEq
        cases E
        · have hne := of_decide_eq_false HE.out
          have HF := qh (HNe.out hne)
          have hfirst : ¬ (bs x1).toList = (bs y1).toList ∨ (x1 = y1 ∧ ¬ (bs x2).toList = (bs y2).toList) := by
            rw [q1k, q1k, q1k, q1k]
            by_cases e1 : x1 = y1
            · exact .inr ⟨e1, fun e2 => hne (by rw [e1, e2])⟩
            · exact .inl e1
          clear hne
          rcases hfirst with t1 | ⟨rfl, t2⟩
          all_goals
            go_wp2
            refine q04 (C := fun w' => Below wr.heap.size wr w') (by kernel_rfl) (by kernel_rfl) ((Below.refl _ _).drew) ?_
            repeat (
              refine no_implicit_lambda% (wpQuiet_step ?_)
              intro K hK
              go_simp
              first
              | (refine no_implicit_lambda% (hK _ ?_); clear hK K)
              | (apply Exists.intro
                 refine ⟨fun _ => ?_, hK _ ?_⟩
                 (first
                   | (intro hw; obtain ⟨z0, z1, z2, z3⟩ := HCl.out _ hw; go_simp; with_reducible exact ⟨rfl, rfl⟩)
                   | (intro hw; obtain ⟨z0, z1, z2, z3⟩ := HCl.out _ hw; go_simp; with_reducible rfl)
                   | (intro hw; go_simp; with_reducible rfl)
                   | (intro _; with_reducible rfl)
                   | (intro hw; go_simp; with_reducible exact ⟨rfl, rfl⟩))
                 clear hK K))
            refine wpQuiet_nil ?_
            intro w8 hb8
            have HB8 := qh hb8
            clear hb8
            go_wp2_with fail
            go_ret
            rw [HF.out]
            exact ⟨rfl, HB.out.trans (HB8.out.mono HB.out.size)⟩
        · have hqq := of_decide_eq_true HE.out
          have HF := qh hqq
          simp only [Sp.mk.injEq] at hqq
          obtain ⟨rfl, rfl⟩ := hqq
          all_goals
            go_wp2
            refine q04 (C := fun w' => Below wr.heap.size wr w') (by kernel_rfl) (by kernel_rfl) ((Below.refl _ _).drew) ?_
            repeat (
              refine no_implicit_lambda% (wpQuiet_step ?_)
              intro K hK
              go_simp
              first
              | (refine no_implicit_lambda% (hK _ ?_); clear hK K)
              | (apply Exists.intro
                 refine ⟨fun _ => ?_, hK _ ?_⟩
                 (first
                   | (intro hw; obtain ⟨z0, z1, z2, z3⟩ := HCl.out _ hw; go_simp; with_reducible exact ⟨rfl, rfl⟩)
                   | (intro hw; obtain ⟨z0, z1, z2, z3⟩ := HCl.out _ hw; go_simp; with_reducible rfl)
                   | (intro hw; go_simp; with_reducible rfl)
                   | (intro _; with_reducible rfl)
                   | (intro hw; go_simp; with_reducible exact ⟨rfl, rfl⟩))
                 clear hK K))
            refine wpQuiet_nil ?_
            intro w8 hb8
            have HB8 := qh hb8
            clear hb8
            go_wp2_with fail
            go_roundg (gk - 1)
            case measure => have := HK.out; omega
            case rel => exact ⟨j + 1, by have := HK.out; omega, by go_num, by rw [HT1.out, HT2.out, HA.out], HB.out.trans (HB8.out.mono HB.out.size)⟩
      · have hj' : j = m.length := by have := HK.out; omega
        have hlt : decide ((j : Int) < (m.length : Int)) = false := by simpa using hjm
        have HF := qh (show q4J l m = true by
          have h := HA.out
          rw [hj', List.take_length, ← HLen.out, List.take_length] at h
          unfold q4J
          rw [decide_eq_true_iff]
          exact h)
        clear hj'
        go_wp2
        go_ret
        rw [HF.out]
        exact ⟨rfl, HB.out⟩
  · have hle : ((l.length : Int) == (m.length : Int)) = false := by rw [beq_eq_false_iff_ne]; omega
    have hle2 : ((l.length : Int) != (m.length : Int)) = true := by rw [bne, hle]; rfl
    have e : q4J l m = false := by unfold q4J; rw [decide_eq_false_iff_not]; intro e; exact hlen (by rw [e])
    rw [e]
    clear e hlen hr hrm
    go_enter Tryz.func72, Tryz.ntmps72
    go_wp2
    go_ret
    exact ⟨rfl, Below.refl _ _⟩
end Go.Proofs.YtdpbllacfljmoaaGreat
