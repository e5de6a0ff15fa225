import Derived.Test.YtdpbllacfljmoaaGreatZF00
import Derived.OwnWalk
import Derived.ArgAppend
import Derived.Deep.RegionLawGrows
import Derived.Test.YtdpbllacfljmoaaGreatZF03
import Derived.Maps.AppendAt
import Derived.Test.YtdpbllacfljmoaaGreatZF04
import Derived.Lib.SlBytesConst
import Derived.Deep.LoopGhost
import Derived.RegionTactic
import Derived.Lib.SliceRun
import Derived.Laws.Cover1
import Derived.Shelf.Abstract
import Derived.Deep.DeepCutAuto
import Derived.IntWalk
import Derived.Deep.RegionHeld3
import Derived.Deep.RegionWith
set_option maxRecDepth 100000
set_option maxHeartbeats 16000000
set_option linter.unusedVariables false
namespace Go.Proofs.YtdpbllacfljmoaaGreat
open Go.RowKit
section
variable {α : Type} {k : Nat} {cs : α → List Value}
theorem qfa {P : Program} (w : World) {ops : Array Oper} {rest : List Oper} {o : Oper} {a : Act} {Q : Exit → Act → World → Prop} (hgd : o.guard = none) (l c : Operand) (t e : TypeId) (bytes : Nat)
  (hI : q2a P e k bytes) (ht : P.underlying t = some (.slice e)) (ho : o.op = .makeSlice t l c)
  (n : Nat) (kl kc : IntKind) (C : Int) (hl : a.eval l = .int kl 0) (hc : a.eval c = .int kc C) (hC : C = (n : Int)) (hn : n ≤ maxLen) (hb : bytes * n ≤ 281474976710656)
  (h : ∀ w', OwnG e k cs w' w.heap.size (.slice (some ⟨w.heap.size, 0, none⟩) 0 n) ([] : List α) → w.grownBy w' none → wpList P ops Q rest (a.put o.dst (.slice (some ⟨w.heap.size, 0, none⟩) 0 n)) w') : wpList P ops Q (o :: rest) a w := by
 obtain ⟨i, z, hi0, hz0, hzs, hz2, hz3⟩ := hI
 refine wpList_make_own w hgd l c t ho w.heap.size e i z k ht hi0 hz0 hz2 kl kc C n hl hc hC (by rw [hz3]; exact hb) hn (Nat.le_refl _) ?_
 intro w' h1 h2
 exact h w' h1 h2
theorem q5R {P : Program} (w : World) {ops : Array Oper} {rest : List Oper} {o : Oper} {a : Act} {Q : Exit → Act → World → Prop} (hgd : o.guard = none) (s x : Operand) (t e : TypeId) (bytes : Nat)
  (hF : q12 k cs) (hI : q2a P e k bytes) (ht : P.underlying t = some (.slice e)) (ho : o.op = .call { callee := .builtin .append, args := #[s, x], argTypes := #[t, t] })
  (base g n cap : Nat) (l : List α) (hs : a.eval s = .slice (some ⟨g, 0, none⟩) n cap) (hn : n = l.length) (hown : OwnG e k cs w base (.slice (some ⟨g, 0, none⟩) n cap) l)
  (lo up : Nat) (ad : Addr) (m c : Nat) (m' : List α) (hx : a.eval x = .slice (some ad) m c) (hm : m = m'.length) (hr : RowG cs w lo up (some ad) m')
  (hroom : n + m ≤ cap)
  (h : ∀ w', OwnG e k cs w' base (.slice (some ⟨g, 0, none⟩) (n + m) cap) (l ++ m') → w.grownBy w' (some g) → wpList P ops Q rest (a.put o.dst (.slice (some ⟨g, 0, none⟩) (n + m) cap)) w') : wpList P ops Q (o :: rest) a w := by
 subst hm hn
 obtain ⟨i, z, hi0, hz0, hzs, hz2, hz3⟩ := hI
 refine wpList_append_fits w hgd s x t ho base e i k ht hi0 hz2 g l.length cap (q0g cs l) hs hown ad m'.length c (q0g cs m') hx (hF.flat_len m') ?_ (hF.flat_one m') hroom ?_
 ·intro j u hu
  have h0 : 0 < m'.length := by
   have h1 := (List.getElem?_eq_some_iff.1 hu).1
   rw [hF.flat_len] at h1
   exact Nat.pos_of_ne_zero fun h => by rw [h] at h1; omega
  obtain ⟨b, o', hA, _, _, hc⟩ := hr h0
  injection hA with hA
  subst hA
  rw [q0Q]
  exact hc j u hu
 ·intro w' h1 h2
  refine h w' ?_ h2
  unfold OwnG
  rw [List.length_append, q0Z]
  exact h1
end
open Go.RowKit
section
variable {α : Type} {k : Nat} {cs : α → List Value}
theorem q13 {P : Program} (w : World) {ops : Array Oper} {rest : List Oper} {o : Oper} {a : Act} {Q : Exit → Act → World → Prop} (hgd : o.guard = none) (s x : Operand) (t e : TypeId) (bytes : Nat)
  (hF : q12 k cs) (hI : q2a P e k bytes) (ht : P.underlying t = some (.slice e)) (ho : o.op = .call { callee := .builtin .append, args := #[s, x], argTypes := #[t, t] })
  (base : Nat) (v : Value) (l : List α) (hs : a.eval s = v) (hown : OwnG e k cs w base v l)
  (lo up : Nat) (ad : Addr) (m c : Nat) (m' : List α) (hx : a.eval x = .slice (some ad) m c) (hm : m = m'.length) (hr : RowG cs w lo up (some ad) m')
  (h63 : l.length + m'.length ≤ maxLen) (hby : (l.length + m'.length) * bytes ≤ 140737488355328) (hbase : base ≤ w.heap.size)
  (h : ∀ v' w', OwnG e k cs w' base v' (l ++ m') → w.grownBy w' v.ownBlock → (v'.ownBlock = v.ownBlock ∨ v'.ownBlock = some w.heap.size) → wpList P ops Q rest (a.put o.dst v') w') : wpList P ops Q (o :: rest) a w := by
 subst hm
 obtain ⟨i, z, hi0, hz0, hzs, hz2, hz3⟩ := hI
 refine wpList_append_own_at (P := P) (w := w) hgd s x t ho base e i z k bytes ht hi0 hz0 hz2 hz3 hzs hF.pos v l.length (q0g cs l) hs hown ad m'.length c (q0g cs m') hx (hF.flat_len m') ?_ (hF.flat_one m') h63 hby hbase ?_
 ·intro j u hu
  have h0 : 0 < m'.length := by
   have h1 := (List.getElem?_eq_some_iff.1 hu).1
   rw [hF.flat_len] at h1
   exact Nat.pos_of_ne_zero fun h => by rw [h] at h1; omega
  obtain ⟨b, o', hA, _, _, hc⟩ := hr h0
  injection hA with hA
  subst hA
  rw [q0Q]
  exact hc j u hu
 ·intro v' w' h1 h2 _ h4
  refine h v' w' ?_ h2 h4
  unfold OwnG
  rw [List.length_append, q0Z]
  exact h1
theorem q7X {P : Program} (w : World) (t ty e : TypeId) (bytes : Nat) (hF : q12 k cs) (hI : q2a P e k bytes) (ht : P.underlying t = some (.slice e))
  (base : Nat) (v : Value) (l : List α) (hown : OwnG e k cs w base v l) (lo up : Nat) (ad : Addr) (c : Nat) (m' : List α) (hr : RowG cs w lo up (some ad) m')
  (h63 : l.length + m'.length ≤ maxLen) (hby : (l.length + m'.length) * bytes ≤ 140737488355328) (hbase : base ≤ w.heap.size) :
  ∃ v' w', (Builtin.append_ #[t, t] ty #[v, .slice (some ad) m'.length c]).run P w = .ok v' w' ∧ OwnG e k cs w' base v' (l ++ m') ∧ w.grownBy w' v.ownBlock ∧ (v'.ownBlock = v.ownBlock ∨ v'.ownBlock = some w.heap.size) := by
 obtain ⟨i, z, hi0, hz0, hzs, hz2, hz3⟩ := hI
 obtain ⟨v', w', h1, h2, h3, _, h5⟩ := run_append_own_at (P := P) w base t ty e i z k bytes ht hi0 hz0 hz2 hz3 hzs hF.pos v l.length (q0g cs l) hown ad m'.length c (q0g cs m') (hF.flat_len m') (by
  intro j u hu
  have h0 : 0 < m'.length := by
   have h1 := (List.getElem?_eq_some_iff.1 hu).1
   rw [hF.flat_len] at h1
   exact Nat.pos_of_ne_zero fun h => by rw [h] at h1; omega
  obtain ⟨b, o', hA, _, _, hc⟩ := hr h0
  injection hA with hA
  subst hA
  rw [q0Q]
  exact hc j u hu) (hF.flat_one m') h63 hby hbase
 refine ⟨v', w', h1, ?_, h3, h5⟩
 unfold OwnG
 rw [List.length_append, q0Z]
 exact h2
end
theorem q5y {P : Program} {w w' : World} {ops : Array Oper} {rest : List Oper} {o : Oper} {a : Act} {Q : Exit → Act → World → Prop} (hgd : o.guard = none) (s x : Operand) (t : TypeId)
  (ho : o.op = .call { callee := .builtin .append, args := #[s, x], argTypes := #[t, t] }) (va vx v' : Value) (hs : a.eval s = va) (hx : a.eval x = vx) (hr : (Builtin.append_ #[t, t] o.type #[va, vx]).run P w = .ok v' w')
  (h : wpList P ops Q rest (a.put o.dst v') w') : wpList P ops Q (o :: rest) a w := by
 refine wpList_plain hgd fun K hK => ?_
 unfold Oper.wp execOp
 simp only [ho, resolve, invoke, builtin, Sem.run_bind, Sem.run_pure, Result.andThen_ok, List.map_toArray, List.map_cons, List.map_nil, hs, hx, hr]
 exact hK _ _ h
def RdD (w : World) (D : Nat → Prop) (A : Option Addr) (l : List UInt8) : Prop :=
 0 < l.length → ∃ b o, A = some ⟨b, o, none⟩ ∧ D b ∧ ∀ j (hj : j < l.length), w.cell? ⟨b, o + j, none⟩ = some (.int .u8 ((l[j]'hj).toNat : Int))
def SlD (w : World) (D : Nat → Prop) (A : Option Addr) (c : Nat) (l : List UInt8) : Prop := l.length ≤ c ∧ c ≤ maxLen ∧ (A = none → c = 0) ∧ RdD w D A l
section
variable {w w' : World} {D D' : Nat → Prop} {A : Option Addr} {c lo hi : Nat} {l : List UInt8}
theorem SlD.step (h : SlD w D A c l) (hk : ∀ b, D b → w'.heap[b]? = w.heap[b]? ∧ D' b) : SlD w' D' A c l :=
 ⟨h.1, h.2.1, h.2.2.1, fun hn => by
  obtain ⟨b, o, e, h1, h2⟩ := h.2.2.2 hn
  exact ⟨b, o, e, (hk b h1).2, fun j hj => (World.cell?_of_block (a := ⟨b, o + j, none⟩) (hk b h1).1).trans (h2 j hj)⟩⟩
theorem SlI.slD (h : SlI w lo hi A c l) (hd : ∀ b, lo ≤ b → b < hi → D b) : SlD w D A c l :=
 ⟨h.1, h.2.1, h.2.2.1, fun hn => by
  obtain ⟨b, o, e, h1, h2, h3⟩ := h.2.2.2 hn
  exact ⟨b, o, e, hd b h1 h2, h3⟩⟩
theorem SlD.slI (h : SlD w D A c l) (hd : ∀ b, D b → lo ≤ b ∧ b < hi) : SlI w lo hi A c l :=
 ⟨h.1, h.2.1, h.2.2.1, fun hn => by
  obtain ⟨b, o, e, h1, h2⟩ := h.2.2.2 hn
  exact ⟨b, o, e, (hd b h1).1, (hd b h1).2, h2⟩⟩
end
open Go.RowKit
def q4G (l : List Ver) : Prop := l.length ≤ 4294967296 ∧ q0z l ≤ 4294967296
open Go.RowKit
theorem q8w (l : List Ver) (A : Option Addr) (c : Nat) (hi : Nat) (w : World) (hl : l.length ≤ 9223372036854775807) (hsz : q0z l ≤ 9223372036854775807) (hr : RowH w hi A l) (hhi : hi ≤ w.heap.size) :
  Calls Tryz.prog 205 #[.slice A l.length c] w fun r w' => r = .returned (.int .i64 (q0z l : Nat)) ∧ Below w.heap.size w w' := by
 have HR := qh hr
 have HS := qh hsz
 clear hr hsz
 go_enter Tryz.func205, Tryz.ntmps205
 go_wp2
 go_loopg [3, 8] l.length (fun q v i wr => ∃ j n : Nat, j + q = l.length ∧ v = .int .i64 n ∧ i = .int .i64 j ∧ n = q0z (l.take j) ∧ Below w.heap.size w wr)
 case atStart => exact ⟨0, 0, by omega, rfl, rfl, rfl, Below.refl _ _⟩
 case round =>
  obtain ⟨j, n, hk, rfl, rfl, hall, hb⟩ := hrel
  have HK := qh hk
  have HA := qh hall
  have HB := qh hb
  clear hall hb hk
  by_cases hj : j < l.length
  ·have hlt : decide ((j : Int) < (l.length : Int)) = true := by simpa using hj
   have hlt2 : decide (j < l.length) = true := by simpa using hj
   obtain ⟨b, o, A', c', rfl, _, c0, c1, c2, hs, htm⟩ := (HR.out.below HB.out hhi (Nat.le_refl _)).at_ hj
   have HN := qh (show n + l[j].dat.length = q0z (l.take (j + 1)) by rw [qcf hj, HA.out])
   have hle : n + l[j].dat.length ≤ 9223372036854775807 := by rw [HN.out]; exact Nat.le_trans (q7Z _ _) HS.out
   clear hs htm
   generalize l[j] = x at *
   obtain ⟨tm, gone, dat⟩ := x
   simp only at c0 c1 c2 hle HN
   have hbn := HB.out.alloc HB.out.size (.cells #[.int .u64 tm, .bool gone, .slice A' dat.length c'] 182)
   have HBN := qh hbn
   clear hbn
   go_wp2
   go_roundg (gk - 1)
   case measure => have := HK.out; omega
   case rel => exact ⟨j + 1, n + dat.length, by have := HK.out; omega, by go_num, by go_num, HN.out, HBN.out⟩
  ·have hj' : j = l.length := by have := HK.out; omega
   have hlt : decide ((j : Int) < (l.length : Int)) = false := by simpa using hj
   have HF := qh (show n = q0z l by rw [HA.out, hj', List.take_length])
   clear hj'
   go_wp2
   go_ret
   rw [← HF.out]
   exact ⟨rfl, HB.out⟩
theorem qh1 : ∃ i : TypeInfo, Tryz.prog.info? 5 = some i ∧ i.zero = some (.int .u8 0) ∧ i.size = 1 ∧ i.bytes = 1 := by
 have h : (Tryz.prog.info? 5).map (fun i => (i.zero, i.size, i.bytes)) = some (some (.int .u8 0), 1, 1) := by kernel_rfl
 obtain ⟨i, hi, he⟩ := Option.map_eq_some_iff.1 h
 simp only [Prod.mk.injEq] at he
 exact ⟨i, hi, he.1, he.2.1, he.2.2⟩
theorem q72 (l : List UInt8) (A : Option Addr) (c hi : Nat) (w : World) (hl : l.length ≤ 4294967296) (hs : Sl w hi A c l) (hhi : hi ≤ w.heap.size) :
  Calls Tryz.prog 77 #[.slice A l.length c] w (Ret l w) := by
 obtain ⟨h1, h2, h3, h4⟩ := hs
 have q22 : ∀ (w : World) (a : Option Addr) (n c n' c' : Nat), (binOp .eql 35 (.slice a n c) (.slice none n' c')).run Tryz.prog w = .ok (.bool a.isNone) w := fun w a n c n' c' => Lib.run_eql_slice_nil w _ _ a n c n' c' Tryz.underlying35
 rcases A with _ | ad
 ·have h0 : l = [] := by
   rcases Nat.eq_zero_or_pos l.length with h0 | h0
   ·exact List.eq_nil_of_length_eq_zero h0
   ·obtain ⟨b, o, hA, _⟩ := h4 h0
    cases hA
  subst h0
  go_enter Tryz.func77, Tryz.ntmps77
  go_wp2
  go_ret
  exact ⟨none, 0, rfl, Nat.le_refl _, Nat.zero_le _, fun _ => rfl, Rd.nil_, Below.refl _ _⟩
 ·obtain ⟨i0, hi0, hz0, hz1, hz2⟩ := qh1
  have HR := qh (h4.below ((Below.refl _ w).alloc (Nat.le_refl _) (.cells #[] 5)) hhi)
  have HL := qh hl
  have HO := qh (World.ownsRow_made (e := 5) (size := 1) w #[] 0 (Nat.le_refl _) (Nat.zero_le _) (by simp))
  clear h4 h1 h2 h3 hl
  go_enter Tryz.func77, Tryz.ntmps77
  go_wp2_with (at_builtin; (refine qcp _ rfl _ _ 35 rfl w.heap.size 5 i0 (.int .u8 0) Tryz.underlying35 hi0 hz0 hz1 hz2 rfl _ _ [] rfl HO.out _ _ (some ad) l.length c l rfl rfl (fun e => by cases e) HR.out (by have := HL.out; simp; omega) (by simp) ?_; intro v1 w1 ho hg; have hb : Below w.heap.size w w1 := ((Below.refl _ w).alloc (Nat.le_refl _) _).grown hg (by simp) (fun k hk => (World.ownsRow.lt HO.out k hk).1)))
  go_ret
  rw [List.nil_append, Nat.zero_add] at ho
  exact Ret.own ho hb
theorem qbo {w : World} {b : Nat} {e : TypeId} {a0 a1 a2 : Value} (h : w.heap[b]? = some (.cells #[a0, a1, a2] e (0, 0))) (v : Value) :
  (w.setCell ⟨b, 2, none⟩ v).heap[b]? = some (.cells #[a0, a1, v] e (0, 0)) := by
 simp [World.setCell, Array.getElem?_modify, h]
theorem qcu {w : World} {b g : Nat} (hg : g ≠ b) (o : Nat) (v : Value) : (w.setCell ⟨b, o, none⟩ v).heap[g]? = w.heap[g]? := by
 have hg' : b ≠ g := fun e => hg e.symm
 simp [World.setCell, Array.getElem?_modify, hg']
theorem q7A (w : World) (p : Addr) (v : Value) : (w.setCell p v).heap.size = w.heap.size := by simp [World.setCell]
def RetV (v : Ver) (w : World) (r : Ending) (w' : World) : Prop := ∃ A c, r = .returned (q2T v A c) ∧ v.dat.length ≤ c ∧ c ≤ maxLen ∧ (A = none → c = 0) ∧ Rd w' w.heap.size w'.heap.size A v.dat ∧ Below w.heap.size w w'
theorem qaL (v : Ver) (A : Option Addr) (c hi : Nat) (w : World) (hl : v.dat.length ≤ 4294967296) (hs : Sl w hi A c v.dat) (hhi : hi ≤ w.heap.size) :
  Calls Tryz.prog 225 #[q2T v A c] w (RetV v w) := by
 obtain ⟨tm, gone, dat⟩ := v
 simp only at hl hs
 obtain ⟨w0, hw0⟩ : ∃ y, w.alloc (.cells #[.int .u64 tm, .bool gone, .slice A dat.length c] 182) = y := ⟨_, rfl⟩
 obtain ⟨w1, hw1⟩ : ∃ y, w0.alloc (.cells #[.int .u64 0, .bool false, .slice none 0 0] 182) = y := ⟨_, rfl⟩
 have s0 : w0.heap.size = w.heap.size + 1 := by rw [← hw0]; simp
 have s1 : w1.heap.size = w.heap.size + 2 := by rw [← hw1]; simp [s0]
 have b0 : Below w.heap.size w w0 := by rw [← hw0]; exact (Below.refl _ w).alloc (Nat.le_refl _) _
 have b1 : Below w.heap.size w w1 := b0.trans (by rw [← hw1]; exact (Below.refl _ w0).alloc (by omega) _)
 have h0 : w1.heap[w.heap.size]? = some (.cells #[.int .u64 tm, .bool gone, .slice A dat.length c] 182 (0, 0)) := by
  rw [← hw1]; exact q0G (by rw [← hw0]; exact heap_alloc_new w _) _
 have h1 : w1.heap[w.heap.size + 1]? = some (.cells #[.int .u64 0, .bool false, .slice none 0 0] 182 (0, 0)) := by
  rw [← hw1, ← s0]; exact heap_alloc_new w0 _
 have HC := qh (q72 dat A c hi w1 hl (hs.below b1 hhi (Nat.le_refl _)) (by omega))
 have HB := qh b1
 have H0 := qh h0
 have H1 := qh h1
 have HS1 := qh s1
 have HW0 := qh hw0
 have HW1 := qh hw1
 have c0 := cell_of_row w1 _ 0 _ _ _ h0
 have c1 := cell_of_row w1 _ 1 _ _ _ h0
 have c2 := cell_of_row w1 _ 2 _ _ _ h0
 clear b0 b1 s0 s1 h0 h1 hw0 hw1 hs hl
 unfold q2T
 go_enter Tryz.func225, Tryz.ntmps225
 go_upto_region 1 with fail
 rw [HW0.out, HW1.out]
 clear HW0 HW1
 go_wp2_with fail
 refine HC.out.mono ?_
 rintro r w2 hr
 obtain ⟨A', c', rfl, r1, r2, r3, hrd, hb⟩ := hr
 have hs0 := q01 H0.out hb (by have := HS1.out; omega)
 have hs1 := q01 H1.out hb (by have := HS1.out; omega)
 have hlt2 : w.heap.size + 2 ≤ w2.heap.size := by have := HS1.out; have := hb.size; omega
 have hx := qbo hs0 (.slice A' dat.length c')
 have hy := (qcu (w := w2) (b := w.heap.size) (g := w.heap.size + 1) (by omega) 2 (.slice A' dat.length c')).trans hs1
 have f0 := q02 hs0 2
 have k2 := cell_of_row w2 _ 2 _ _ _ hs0
 have x0 := cell_of_row _ _ 0 _ _ _ hx
 have x1 := cell_of_row _ _ 1 _ _ _ hx
 have x2 := cell_of_row _ _ 2 _ _ _ hx
 have y0 := cell_of_row _ _ 0 _ _ _ hy
 have y1 := cell_of_row _ _ 1 _ _ _ hy
 have y2 := cell_of_row _ _ 2 _ _ _ hy
 have g0 := q02 hy 0
 have g1 := q02 hy 1
 have g2 := q02 hy 2
 have HZ := qh (q2z hy (.int .u64 tm) (.bool gone) (.slice A' dat.length c'))
 have hb2 : Below w1.heap.size w1 (w2.setCell ⟨w.heap.size, 2, none⟩ (.slice A' dat.length c')) ∨ True := .inr trivial
 have HB2 := qh (Below.box3 ((HB.out.trans (hb.mono HB.out.size)).setCell (p := ⟨w.heap.size, 2, none⟩) (Nat.le_refl _) (.slice A' dat.length c')) (b := w.heap.size + 1) (by omega) (.int .u64 tm) (.bool gone) (.slice A' dat.length c'))
 have HRD := qh (hrd.keep (w' := (((w2.setCell ⟨w.heap.size, 2, none⟩ (.slice A' dat.length c')).setCell ⟨w.heap.size + 1, 0, none⟩ (.int .u64 tm)).setCell ⟨w.heap.size + 1, 1, none⟩ (.bool gone)).setCell ⟨w.heap.size + 1, 2, none⟩ (.slice A' dat.length c')) fun p hp _ => World.cell?_of_block (by
  have := HS1.out
  rw [q30 (by omega), qcu (by omega)]))
 have HQ := qh (And.intro r1 (And.intro r2 r3))
 have HSZ := qh (q7A (((w2.setCell ⟨w.heap.size, 2, none⟩ (.slice A' dat.length c')).setCell ⟨w.heap.size + 1, 0, none⟩ (.int .u64 tm)).setCell ⟨w.heap.size + 1, 1, none⟩ (.bool gone)) ⟨w.heap.size + 1, 2, none⟩ (.slice A' dat.length c'))
 clear hb hrd r1 r2 r3 HC c0 c1 c2 hs0 hs1 hx hy hb2
 go_wp2
 have t0 := cell_of_row _ _ 0 _ _ _ HZ.out
 have t1 := cell_of_row _ _ 1 _ _ _ HZ.out
 have t2 := cell_of_row _ _ 2 _ _ _ HZ.out
 refine bodyPost_ret (v := .agg #[.int .u64 tm, .bool gone, .slice A' dat.length c']) (by simp [results, Tryz.results225, go_sem, t0, t1, t2]) rfl ?_
 refine ⟨A', c', rfl, HQ.out.1, HQ.out.2.1, HQ.out.2.2, HRD.out.wide HB.out.size ?_, HB2.out⟩
 simp only [q7A]
 exact Nat.le_refl _
open Go.RowKit
open Go.RowKit
def q2W (l : List Ver) (t n : Nat) : Prop := n ≤ l.length ∧ (∀ i (h : i < l.length), i < n → (l[i]'h).tm ≤ t) ∧ ∀ i (h : i < l.length), n ≤ i → t < (l[i]'h).tm
theorem q2W.upto {l : List Ver} {t n : Nat} (h : q2W l t n) : (l.filter fun v => decide (v.tm ≤ t)) = l.take n := by
 conv => lhs; rw [← List.take_append_drop n l, List.filter_append]
 rw [List.filter_eq_self.2, List.filter_eq_nil_iff.2, List.append_nil]
 ·intro x hx
  obtain ⟨i, hi, rfl⟩ := List.mem_iff_getElem.1 hx
  rw [List.getElem_drop]
  rw [List.length_drop] at hi
  have := h.2.2 (n + i) (by omega) (by omega)
  simp; omega
 ·intro x hx
  obtain ⟨i, hi, rfl⟩ := List.mem_iff_getElem.1 hx
  rw [List.getElem_take]
  rw [List.length_take] at hi
  have := h.2.1 i (by omega) (by omega)
  simpa using this
theorem q2W.behind {l : List Ver} {t n : Nat} (h : q2W l t n) : (l.filter fun v => decide (t < v.tm)) = l.drop n := by
 conv => lhs; rw [← List.take_append_drop n l, List.filter_append]
 rw [List.filter_eq_nil_iff.2, List.filter_eq_self.2, List.nil_append]
 ·intro x hx
  obtain ⟨i, hi, rfl⟩ := List.mem_iff_getElem.1 hx
  rw [List.getElem_drop]
  rw [List.length_drop] at hi
  have := h.2.2 (n + i) (by omega) (by omega)
  simpa using this
 ·intro x hx
  obtain ⟨i, hi, rfl⟩ := List.mem_iff_getElem.1 hx
  rw [List.getElem_take]
  rw [List.length_take] at hi
  have := h.2.1 i (by omega) (by omega)
  simp; omega
theorem q2W.none_ {l : List Ver} {t : Nat} (h : q2W l t 0) : q0Y l t = none := by
 unfold q0Y
 rw [h.upto]
 rfl
theorem q2W.some_ {l : List Ver} {t n : Nat} (h : q2W l t (n + 1)) : q0Y l t = some (l[n]'(by have := h.1; omega)) := by
 have hn : n < l.length := by have := h.1; omega
 unfold q0Y
 rw [h.upto, List.take_succ_eq_append_getElem hn, List.getLast?_append]
 rfl
theorem q6B {l : List Ver} (h : q1A l = true) : l.Pairwise (fun a b => a.tm < b.tm) := ((q17 l 0).1 h).2
theorem q9c {l : List Ver} (h : l.Pairwise (fun a b => a.tm < b.tm)) {i j : Nat} (hj : j < l.length) (hij : i ≤ j) : (l[i]'(by omega)).tm ≤ (l[j]'hj).tm := by
 rcases Nat.lt_or_eq_of_le hij with h1 | h1
 ·exact Nat.le_of_lt (List.pairwise_iff_getElem.1 h i j (by omega) hj h1)
 ·subst h1
  exact Nat.le_refl _
theorem q9I (v : Ver) (A : Option Addr) (c t B : Nat) (w : World) (hB : B < w.heap.size) (hc : w.cell? ⟨B, 0, none⟩ = some (.int .u64 t)) :
  Calls Tryz.prog 260 #[q2T v A c, .pointer (some ⟨B, 0, none⟩)] w fun e w' => e = .returned (.bool (decide (t < v.tm))) ∧ Below w.heap.size w w' := by
 obtain ⟨tm, gone, dat⟩ := v
 have hne : B ≠ w.heap.size := by omega
 have hca := Lib.cell?_alloc_some (.cells #[.int .u64 tm, .bool gone, .slice A dat.length c] 182) hc
 have HB := qh ((Below.refl _ w).alloc (Nat.le_refl _) (.cells #[.int .u64 tm, .bool gone, .slice A dat.length c] 182))
 unfold q2T
 go_enter Tryz.func260, Tryz.ntmps260
 go_wp2
 go_ret
 exact ⟨rfl, HB.out⟩
theorem qbu (l : List Ver) (A : Option Addr) (c t B hi : Nat) (w : World) (hl : l.length ≤ 4294967296) (hr : RowH w hi A l) (hhi : hi ≤ w.heap.size) (hri : l.Pairwise (fun a b => a.tm < b.tm)) (hB : B < w.heap.size) (hc : w.cell? ⟨B, 0, none⟩ = some (.int .u64 t)) :
  Calls Tryz.prog 259 #[.slice A l.length c, .func (.func 260) #[] #[.pointer (some ⟨B, 0, none⟩)]] w fun e w' => (∃ n : Nat, e = .returned (.int .i64 n) ∧ q2W l t n) ∧ Below w.heap.size w w' := by
 have eg : ∀ args w, (callFunc 260 args).run Tryz.prog w = .ok (.enter 260 args) w := enters_of Tryz.func260 (by kernel_rfl) rfl
 have HR := qh hr
 have HRI := qh hri
 have HC := qh hc
 clear hr hri hc
 go_enter Tryz.func259, Tryz.ntmps259
 go_wp2
 go_loopg [5, 6, 7] l.length (fun q vl vh _ wr => ∃ lo hi : Nat, vl = .int .i64 lo ∧ vh = .int .i64 hi ∧ lo ≤ hi ∧ hi ≤ l.length ∧ hi - lo ≤ q ∧ (∀ i (h : i < l.length), i < lo → (l[i]'h).tm ≤ t) ∧ (∀ i (h : i < l.length), hi ≤ i → t < (l[i]'h).tm) ∧ Below w.heap.size w wr)
 case atStart => exact ⟨0, l.length, rfl, rfl, Nat.zero_le _, Nat.le_refl _, by omega, fun i _ h => absurd h (by omega), fun i h h2 => absurd h (by omega), Below.refl _ _⟩
 case round =>
  obtain ⟨lo, hx, rfl, rfl, h1, h2, h3, h4, h5, hb⟩ := hrel
  have HB := qh hb
  have H3 := qh h3
  have H4 := qh h4
  have H5 := qh h5
  clear hb h3 h4 h5
  by_cases hlt : lo < hx
  ·have d1 : decide ((lo : Int) < (hx : Int)) = true := by rw [decide_eq_true_iff]; omega
   obtain ⟨mid, hmid⟩ : ∃ m, lo + (hx - lo) / 2 = m := ⟨_, rfl⟩
   have hm1 : lo ≤ mid := by omega
   have hm2 : mid < hx := by omega
   have hml : mid < l.length := by omega
   have e1 : (hx : Int) - (lo : Int) = ((hx - lo : Nat) : Int) := by omega
   have e2 : (((hx - lo : Nat) : Int)).tdiv 2 = (((hx - lo) / 2 : Nat) : Int) := by rw [Int.tdiv_eq_ediv_of_nonneg (by omega)]; omega
   have e3 : (lo : Int) + (((hx - lo) / 2 : Nat) : Int) = (mid : Int) := by omega
   have hdm : decide ((mid : Int) < (l.length : Int)) = true := by rw [decide_eq_true_iff]; omega
   have hdm2 : decide (mid < l.length) = true := by rw [decide_eq_true_iff]; omega
   obtain ⟨b, o, A', c', rfl, _, c0, c1, c2, hs, htm⟩ := (HR.out.below HB.out hhi (Nat.le_refl _)).at_ hml
   have HCall := qh (q9I (l[mid]'hml) A' c' t B wr (Nat.lt_of_lt_of_le hB HB.out.size) ((HB.out.cell (p := ⟨B, 0, none⟩) hB).trans HC.out))
   have HLo := qh (fun (h : ¬ t < (l[mid]'hml).tm) => show ∀ i (hi : i < l.length), i < mid + 1 → (l[i]'hi).tm ≤ t from fun i hi hij => by
    have := q9c HRI.out (i := i) hml (by omega)
    omega)
   have HHi := qh (fun (h : t < (l[mid]'hml).tm) => show ∀ i (hi : i < l.length), mid ≤ i → t < (l[i]'hi).tm from fun i hi hij => by
    have := q9c HRI.out (i := mid) hi (by omega)
    omega)
   clear hs htm
   generalize l[mid] = x at *
   obtain ⟨tm, gone, dat⟩ := x
   unfold q2T at HCall
   simp only at c0 c1 c2 HCall HLo HHi
   by_cases hq : t < tm
   ·rw [decide_eq_true hq] at HCall
    have HF := qh (HHi.out hq)
    clear hq HHi HLo
    go_wp2_with (go_at_fn 260; refine HCall.out.mono ?_; rintro e w' ⟨rfl, hb'⟩)
    go_roundg (gk - 1)
    case measure => have := H3.out; omega
    case rel => exact ⟨lo, mid, rfl, by go_num, by omega, by omega, by have := H3.out; omega, H4.out, HF.out, HB.out.trans (hb'.mono HB.out.size)⟩
   ·rw [decide_eq_false hq] at HCall
    have HF := qh (HLo.out hq)
    clear hq HHi HLo
    go_wp2_with (go_at_fn 260; refine HCall.out.mono ?_; rintro e w' ⟨rfl, hb'⟩)
    go_roundg (gk - 1)
    case measure => have := H3.out; omega
    case rel => exact ⟨mid + 1, hx, by go_num, rfl, by omega, by omega, by have := H3.out; omega, HF.out, H5.out, HB.out.trans (hb'.mono HB.out.size)⟩
  ·have d1 : decide ((lo : Int) < (hx : Int)) = false := by rw [decide_eq_false_iff_not]; omega
   have HN := qh (show q2W l t lo from ⟨by omega, H4.out, fun i hi h => H5.out i hi (by omega)⟩)
   go_wp2
   go_ret
   exact ⟨⟨_, rfl, HN.out⟩, HB.out⟩
theorem q8x (l : List Ver) (A : Option Addr) (c t hi : Nat) (w : World) (hl : l.length ≤ 4294967296) (hr : RowH w hi A l) (hhi : hi ≤ w.heap.size) (hri : l.Pairwise (fun a b => a.tm < b.tm)) :
  Calls Tryz.prog 224 #[.slice A l.length c, .int .u64 t] w fun e w' => (∃ n : Nat, e = .returned (.int .i64 n) ∧ q2W l t n) ∧ Below w.heap.size w w' := by
 have hb : Below w.heap.size w (w.alloc (.cells #[.int .u64 t] 22)) := (Below.refl _ w).alloc (Nat.le_refl _) _
 have HC := qh (qbu l A c t w.heap.size hi (w.alloc (.cells #[.int .u64 t] 22)) hl (hr.below hb hhi (Nat.le_refl _)) (by simp; omega) hri (by simp) (by simp))
 have HB := qh hb
 clear hb hr
 go_enter Tryz.func224, Tryz.ntmps224
 go_wp2_with (go_at_call 259; refine HC.out.mono ?_; rintro e w' ⟨⟨z, rfl, hz⟩, hb'⟩)
 go_ret
 exact ⟨⟨_, rfl, hz⟩, HB.out.trans (hb'.mono HB.out.size)⟩
open Go.RowKit
theorem qgb {l : List Ver} {k : Nat} (hk : k + 1 = l.length) : q24 l = (l[k]'(by omega)).tm := by
 unfold q24
 have e : l.length - 1 = k := by omega
 rw [List.getLast?_eq_getElem?, e, List.getElem?_eq_getElem (by omega)]
theorem qcO (l : List Ver) (A : Option Addr) (c hi : Nat) (w : World) (hl : l.length ≤ 9223372036854775807) (hr : RowH w hi A l) :
  Calls Tryz.prog 239 #[.slice A l.length c] w fun r w' => r = .returned (.int .u64 (q24 l : Nat)) ∧ w = w' := by
 rcases Nat.eq_zero_or_pos l.length with h0 | h0
 ·have hl0 : q24 l = 0 := by rw [List.eq_nil_of_length_eq_zero h0]; rfl
  rw [hl0, h0]
  go_enter Tryz.func239, Tryz.ntmps239
  go_wp2
  go_ret
  exact ⟨rfl, rfl⟩
 ·obtain ⟨k, hk⟩ : ∃ k, k + 1 = l.length := ⟨l.length - 1, by omega⟩
  have hkl : k < l.length := by omega
  rw [qgb hk]
  obtain ⟨b, o, A', c', rfl, _, c0, c1, c2, hs, htm⟩ := hr.at_ hkl
  clear hs htm hr
  generalize l[k] = x at *
  obtain ⟨tm, gone, dat⟩ := x
  simp only at c0 c1 c2
  generalize l.length = n at *
  have e1 : ((n : Int) == 0) = false := by rw [beq_eq_false_iff_ne]; omega
  have e2 : ¬ ((n : Int) = 0) := by omega
  have e4 : (n : Int) - 1 = (k : Int) := by omega
  have hdm : decide ((k : Int) < (n : Int)) = true := by rw [decide_eq_true_iff]; omega
  have hdm2 : decide (k < n) = true := by rw [decide_eq_true_iff]; omega
  go_enter Tryz.func239, Tryz.ntmps239
  go_wp2
  go_ret
  exact ⟨rfl, rfl⟩
def cutA (A : Option Addr) (n j : Nat) : Option Addr := if n = j then A else A.map (·.add (j * 3))
theorem RowH.drop {w : World} {hi : Nat} {A : Option Addr} {l : List Ver} (h : RowH w hi A l) (j : Nat) (hj : j ≤ l.length) : RowH w hi (cutA A l.length j) (l.drop j) := by
 obtain ⟨ms, rfl, h1, h2⟩ := h
 rw [List.length_map] at hj ⊢
 exact ⟨ms.drop j, by rw [List.map_drop], RowG.drop mvF h1 j ms.length hj (Nat.le_refl _), fun x hx => h2 x (List.mem_of_mem_drop hx)⟩
theorem qeR (n : Nat) (A : Option Addr) (c j : Nat) (w : World) (hl : n ≤ 9223372036854775807) (hc : n ≤ c) (hj : j ≤ n) :
  Calls Tryz.prog 247 #[.slice A n c, .int .i64 j] w fun r w' => r = .returned (.slice (cutA A n j) (n - j) (n - j)) ∧ w = w' := by
 have h1 : (0 : Int) ≤ (j : Int) := by omega
 have h2 : (j : Int) ≤ (n : Int) := by omega
 have h3 : (n : Int) ≤ (c : Int) := by omega
 by_cases h : n = j
 ·subst h
  rw [show cutA A n n = A from if_pos rfl, Nat.sub_self]
  go_enter Tryz.func247, Tryz.ntmps247
  go_wp2
  go_ret
  exact ⟨rfl, rfl⟩
 ·rw [show cutA A n j = A.map (·.add (j * 3)) from if_neg h]
  go_enter Tryz.func247, Tryz.ntmps247
  go_wp2
  go_ret
  exact ⟨rfl, rfl⟩
open Go.RowKit
def q5v (w : World) (lo hi : Nat) (x : MV) : Prop := x.v.tm < 18446744073709551616 ∧ x.v.dat.length ≤ x.c ∧ x.c ≤ maxLen ∧ (x.A = none → x.c = 0) ∧ Rd w lo hi x.A x.v.dat
theorem q5v.ok {w : World} {lo hi : Nat} {x : MV} (h : q5v w lo hi x) : OkMV w hi x := ⟨h.1, h.2.1, h.2.2.1, h.2.2.2.1, h.2.2.2.2.wide (Nat.zero_le _) (Nat.le_refl _)⟩
theorem q5v.keep {w w' : World} {lo hi hi' : Nat} {x : MV} (h : q5v w lo hi x) (hk : ∀ g, lo ≤ g → g < hi → w'.heap[g]? = w.heap[g]?) (hh : hi ≤ hi') : q5v w' lo hi' x :=
 ⟨h.1, h.2.1, h.2.2.1, h.2.2.2.1, (h.2.2.2.2.keep fun p h1 h2 => World.cell?_of_block (hk p.block h1 h2)).wide (Nat.le_refl _) hh⟩
open Go.RowKit
theorem q4G.each {l : List Ver} (h : q4G l) : ∀ x ∈ l, x.dat.length ≤ 4294967296 := fun x hx => Nat.le_trans (q80 hx) h.2
open Go.RowKit
end Go.Proofs.YtdpbllacfljmoaaGreat
