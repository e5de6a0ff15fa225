import Derived.Test.YtdpbllacfljmoaaGreatZF16
import Derived.BigQuiet
import Derived.RegionTactic
import Derived.Laws.Cover3
set_option maxRecDepth 100000
set_option maxHeartbeats 16000000
set_option linter.unusedVariables false
namespace Go.Proofs.YtdpbllacfljmoaaGreat
open Go.RowKit
section
variable {w : World} {p : Nat} {F D : Nat → Prop} {B : Nat} {kv : Value} {cv : KeyS → Value} {L : LimS} {m r v : Int} {now : Nat} {g : KeyS → List Ver} {ks : List KeyS} {z : Sz}
theorem q2k (h : RawS w p F D B kv cv L m r v now g ks z) : Calls Tryz.prog 116 #[ptrS p] w fun e w' => e = .returned (.bool true) ∧ w' = w := by
 have c8 := h.map_
 have hne := fun (w : World) (m : Option Nat) => run_neq_map_nil (P := Tryz.prog) w 162 _ _ m Tryz.underlying162
 clear h
 unfold ptrS
 go_enter Tryz.func116, Tryz.ntmps116
 go_wp2
 go_ret
 exact ⟨rfl, rfl⟩
theorem qaK (h : RawS w p F D B kv cv L m r v now g ks z) : Calls Tryz.prog 65 #[ptrS p] w fun e w' => e = .returned (.int .u64 now) ∧ w' = w := by
 have c7 := h.now_
 have HM := qh (q2k h)
 clear h
 unfold ptrS at HM ⊢
 go_enter Tryz.func65, Tryz.ntmps65
 go_wp2_with fail
 refine HM.out.mono ?_
 rintro e w' ⟨rfl, rfl⟩
 go_wp2
 go_ret
 exact ⟨rfl, rfl⟩
theorem q9S (h : RawS w p F D B kv cv L m r v now g ks z) (k : KeyS) (hl : (g k).length ≤ 9223372036854775807) : Calls Tryz.prog 188 #[ptrS p, .string (bs k)] w fun e w' => e = .returned (.int .u64 (q24 (g k) : Nat)) ∧ w' = w := by
 have c8 := h.map_
 have hlk := h.look k
 have HM := qh (q2k h)
 obtain ⟨A, c, hv, hc⟩ := h.ch k
 rw [hv] at hlk
 have HC := qh (qcO (g k) A c w.heap.size w hl hc.2.2.2)
 clear h hv hc
 unfold ptrS at HM ⊢
 go_enter Tryz.func188, Tryz.ntmps188
 go_wp2_with fail
 refine HM.out.mono ?_
 rintro e w' ⟨rfl, rfl⟩
 go_wp2_with fail
 refine HC.out.mono ?_
 rintro e w' ⟨rfl, rfl⟩
 go_wp2
 go_ret
 exact ⟨rfl, rfl⟩
theorem q6b (h : RawS w p F D B kv cv L m r v now g ks z) (k : KeyS) (t : Nat) (hl : q4G (g k)) (hr : q1A (g k) = true) :
  Calls Tryz.prog 80 #[ptrS p, .string (bs k), .int .u64 t] w (q9t (getH (g k) t) w) := by
 have c8 := h.map_
 have hlk := h.look k
 have HM := qh (q2k h)
 obtain ⟨A, c, hv, hc⟩ := h.ch k
 rw [hv] at hlk
 have HC := qh (qcI (g k) A c t w hl hc hr)
 clear h hv hc
 generalize getH (g k) t = O at *
 unfold ptrS at HM ⊢
 go_enter Tryz.func80, Tryz.ntmps80
 go_wp2_with fail
 refine HM.out.mono ?_
 rintro e w' ⟨rfl, rfl⟩
 go_wp2_with fail
 refine HC.out.mono ?_
 rintro e w' ⟨A', c', rfl, hs, hb⟩
 go_wp2
 refine bodyPost_ret (v := .tuple #[.slice A' (O.getD []).length c', .bool O.isSome]) (by simp [results, Tryz.results80, go_sem]) rfl ?_
 exact ⟨A', c', rfl, hs, hb⟩
theorem qep {l : List Ver} (h : q1A l = true) : q0m l 0 = l := by
 have h1 := ((q17 l 0).1 h).1
 have e1 : (l.filter fun v => decide (v.tm ≤ 0)) = [] := by
  rw [List.filter_eq_nil_iff]
  intro x hx
  have := (h1 x hx).1
  simp
  omega
 have e2 : (l.filter fun v => decide (0 < v.tm)) = l := by
  rw [List.filter_eq_self]
  intro x hx
  have := (h1 x hx).1
  simpa using this
 unfold q0m q0Y
 rw [e1, e2]
 rfl
theorem qbI (l : List Ver) (A : Option Addr) (c : Nat) (w : World) (hk : q4G l) (hr : ChH w w.heap.size A c l) (hri : q1A l = true) :
  Calls Tryz.prog 140 #[.slice A l.length c] w (q88 l w) := by
 have h := q79 l A c 0 w hk hr hri
 rw [qep hri] at h
 have HC := qh h
 clear h hr hri hk
 go_enter Tryz.func140, Tryz.ntmps140
 go_wp2_with fail
 refine HC.out.mono ?_
 rintro e w' ⟨q, c9, ms, rfl, h9⟩
 go_wp2
 go_ret
 exact ⟨q, c9, ms, rfl, h9⟩
theorem qeV (h : RawS w p F D B kv cv L m r v now g ks z) (k : KeyS) (hl : q4G (g k)) (hr : q1A (g k) = true) :
  Calls Tryz.prog 267 #[ptrS p, .string (bs k)] w fun e w' => e = .returned (.bool (getH (g k) now).isSome) ∧ Below w.heap.size w w' := by
 have c7 := h.now_
 have HC := qh (q6b h k now hl hr)
 clear h
 generalize getH (g k) now = O at *
 unfold ptrS at HC ⊢
 go_enter Tryz.func267, Tryz.ntmps267
 go_wp2_with fail
 refine HC.out.mono ?_
 rintro e w' ⟨A', c', rfl, hs, hb⟩
 go_wp2
 go_ret
 exact ⟨rfl, hb⟩
end
open Go.RowKit
theorem q9M (kv : Value) (ks : List KeyS) (w : World) (ho : OwnG 9 1 q0w w 0 kv ks) (hl : ks.length ≤ 1048576) :
  Calls Tryz.prog 139 #[kv] w fun e w' => ∃ v', e = .returned v' ∧ OwnG 9 1 q0w w' w.heap.size v' ks ∧ Below w.heap.size w w' := by
 obtain ⟨A, c, rfl, h1, h2, h3, h4⟩ := OwnG.form ho
 clear ho
 have q22 : ∀ (w : World) (a : Option Addr) (n c n' c' : Nat), (binOp .eql 163 (.slice a n c) (.slice none n' c')).run Tryz.prog w = .ok (.bool a.isNone) w := fun w a n c n' c' => Lib.run_eql_slice_nil w _ _ a n c n' c' Tryz.underlying163
 rcases A with _ | ad
 ·have h0 : ks = [] := by
   rcases Nat.eq_zero_or_pos ks.length with h0 | h0
   ·exact List.eq_nil_of_length_eq_zero h0
   ·obtain ⟨b, o, hA, _⟩ := h4 h0
    cases hA
  subst h0
  go_enter Tryz.func139, Tryz.ntmps139
  go_wp2
  go_ret
  exact ⟨_, rfl, OwnG.none_ _ _ _ _ _, Below.refl _ _⟩
 ·have HR := qh (h4.below ((Below.refl _ w).alloc (Nat.le_refl _) (.cells #[] 9)) (Nat.le_refl _))
  have HO := qh (OwnG.made w 9 1 q0w)
  have HL := qh hl
  clear h4 h1 h2 h3 hl
  go_enter Tryz.func139, Tryz.ntmps139
  go_wp2_with (at_builtin; (refine q2Y (α := KeyS) (cs := q0w) (k := 1) _ rfl _ _ 163 9 16 kF qdo Tryz.underlying163 rfl w.heap.size _ [] rfl HO.out 0 w.heap.size (some ad) ks.length c ks rfl rfl (fun e => by cases e) HR.out (by have := HL.out; simp [maxLen]; omega) (by have := HL.out; simp; omega) (by simp) ?_; intro v1 w1 ho hg; have hb : Below w.heap.size w w1 := ((Below.refl _ w).alloc (Nat.le_refl _) _).grown hg (by simp) (fun k hk => (OwnG.lt HO.out k hk).1)))
  go_ret
  rw [List.nil_append] at ho
  exact ⟨_, rfl, ho, hb⟩
def qaQ (L : LimS) (y : Sz) : Bool := decide ((y.k : Int) ≤ L.keys) && decide ((y.v : Int) ≤ L.vers) && decide ((y.b : Int) ≤ L.byts)
section
variable {w : World} {p : Nat} {F D : Nat → Prop} {B : Nat} {kv : Value} {cv : KeyS → Value} {L : LimS} {m r v : Int} {now : Nat} {g : KeyS → List Ver} {ks : List KeyS} {z : Sz}
theorem qbw (h : RawS w p F D B kv cv L m r v now g ks z) : Calls Tryz.prog 67 #[ptrS p] w fun e w' => e = .returned (q6H z) ∧ Below w.heap.size w w' := by
 obtain ⟨w0, hw0⟩ : ∃ y, w.alloc (.cells #[.int .i64 0, .int .i64 0, .int .i64 0] 60) = y := ⟨_, rfl⟩
 have b0 : Below w.heap.size w w0 := by rw [← hw0]; exact (Below.refl _ w).alloc (Nat.le_refl _) _
 have hz : w0.heap[w.heap.size]? = some (.cells #[.int .i64 0, .int .i64 0, .int .i64 0] 60 (0, 0)) := by rw [← hw0]; exact heap_alloc_new w _
 have h0 := h.below b0
 have c10 := h0.sz0
 have c11 := h0.sz1
 have c12 := h0.sz2
 have HM := qh (q2k h0)
 have f0 := q02 hz 0
 have f1 := q02 hz 1
 have f2 := q02 hz 2
 have z0 := cell_of_row w0 _ 0 _ _ _ hz
 have z1 := cell_of_row w0 _ 1 _ _ _ hz
 have z2 := cell_of_row w0 _ 2 _ _ _ hz
 have HZ := qh (q2z hz (.int .i64 (z.k : Int)) (.int .i64 (z.v : Int)) (.int .i64 (z.b : Int)))
 have HB3 := qh (Below.box3 b0 (b := w.heap.size) (Nat.le_refl _) (.int .i64 (z.k : Int)) (.int .i64 (z.v : Int)) (.int .i64 (z.b : Int)))
 have HW0 := qh hw0
 clear h h0 b0 hz hw0
 unfold ptrS at HM ⊢
 go_enter Tryz.func67, Tryz.ntmps67
 go_upto_region 1 with fail
 rw [HW0.out]
 clear HW0
 go_wp2_with fail
 refine HM.out.mono ?_
 rintro e w' ⟨rfl, rfl⟩
 go_wp2
 have t0 := cell_of_row _ _ 0 _ _ _ HZ.out
 have t1 := cell_of_row _ _ 1 _ _ _ HZ.out
 have t2 := cell_of_row _ _ 2 _ _ _ HZ.out
 refine bodyPost_ret (v := q6H z) (by simp [results, Tryz.results67, go_sem, t0, t1, t2, q6H]) rfl ?_
 exact ⟨rfl, HB3.out⟩
theorem q60 (h : RawS w p F D B kv cv L m r v now g ks z) (k : KeyS) (gone : Bool) (A : Option Addr) (n c : Nat) (hl : q4G (g k)) (hr : q1A (g k) = true) :
  Calls Tryz.prog 242 #[ptrS p, .agg #[.string (bs k), .bool gone, .slice A n c]] w fun e w' => e = .returned (.int .i64 (q31 (g k) now gone)) ∧ Below w.heap.size w w' := by
 obtain ⟨w0, hw0⟩ : ∃ y, w.alloc (.cells #[.string (bs k), .bool gone, .slice A n c] 37) = y := ⟨_, rfl⟩
 have b0 : Below w.heap.size w w0 := by rw [← hw0]; exact (Below.refl _ w).alloc (Nat.le_refl _) _
 have hz : w0.heap[w.heap.size]? = some (.cells #[.string (bs k), .bool gone, .slice A n c] 37 (0, 0)) := by rw [← hw0]; exact heap_alloc_new w _
 have h0 := h.below b0
 have HH := qh (qeV h0 k hl hr)
 have hz1 := cell_of_row w0 _ 1 _ _ _ hz
 have hz0 := cell_of_row w0 _ 0 _ _ _ hz
 have HZ := qh hz
 have H0 := qh h0
 have HB0 := qh b0
 have HW0 := qh hw0
 clear h h0 b0 hz hw0 hl hr
 unfold ptrS at HH ⊢
 have HLast : ∀ w1 : World, Below w0.heap.size w0 w1 → Hid (w1.cell? ⟨p, 8, none⟩ = some (.map (some B)) ∧ (Instr.lookup 162 (.map (some B)) (.string (bs k)) true).run Tryz.prog w1.drew = .ok (.tuple #[valS g cv k, .bool (!(g k).isEmpty)]) w1.drew ∧ w1.cell? ⟨w.heap.size, 0, none⟩ = some (.string (bs k))) := fun w1 hb =>
  qh ⟨(H0.out.below hb).map_, ((H0.out.below hb).keep (w' := w1.drew) fun _ _ => rfl).look2 k, (hb.cell (p := ⟨w.heap.size, 0, none⟩) (q00 HZ.out)).trans hz0⟩
 go_enter Tryz.func242, Tryz.ntmps242
 go_upto_region 1 with fail
 rw [HW0.out]
 clear HW0
 cases gone
 ·obtain ⟨c8, hlk, ck⟩ := (HLast w0 (Below.refl _ _)).out
  clear HLast hz0
  cases hg : (g k).isEmpty
  ·rw [hg] at hlk
   have hv : q31 (g k) now false = 2 := by unfold q31; rw [hg]; rfl
   have HV := qh hv
   clear hv hg
   go_wp2_with fail
   go_region
   go_wp2
   go_ret
   exact ⟨(congrArg (fun i => Ending.returned (.int .i64 i)) HV.out).symm, HB0.out.drew⟩
  ·rw [hg] at hlk
   have hv : q31 (g k) now false = 1 := by unfold q31; rw [hg]; rfl
   have HV := qh hv
   clear hv hg
   go_wp2_with fail
   go_region
   go_wp2
   go_ret
   exact ⟨(congrArg (fun i => Ending.returned (.int .i64 i)) HV.out).symm, HB0.out.drew⟩
 ·cases hs : (getH (g k) now).isSome
  ·rw [hs] at HH
   have hv : q31 (g k) now true = 0 := by unfold q31; rw [hs]; rfl
   have HV := qh hv
   clear hv hs HLast
   go_wp2_with fail
   refine HH.out.mono ?_
   rintro e w1 ⟨rfl, hb⟩
   go_wp2
   go_ret
   exact ⟨(congrArg (fun i => Ending.returned (.int .i64 i)) HV.out).symm, HB0.out.trans (hb.mono HB0.out.size)⟩
  ·rw [hs] at HH
   have hg : (g k).isEmpty = false := by
    cases hg : g k with
    | nil => rw [hg] at hs; cases hs
    | cons _ _ => rfl
   have hv : q31 (g k) now true = 2 := by unfold q31; rw [hs, hg]; rfl
   have HV := qh hv
   clear hv hs
   rw [hg] at HLast
   clear hg
   go_wp2_with fail
   refine HH.out.mono ?_
   rintro e w1 ⟨rfl, hb⟩
   obtain ⟨c8, hlk, ck⟩ := (HLast w1 hb).out
   have HB1 := qh (HB0.out.trans (hb.mono HB0.out.size))
   clear HLast hb
   go_wp2_with fail
   go_region
   go_wp2
   go_ret
   exact ⟨(congrArg (fun i => Ending.returned (.int .i64 i)) HV.out).symm, HB1.out.drew⟩
end
open Go.RowKit
theorem q3e {B : Nat} {w w' : World} (h : Below B w w') (n : Nat) : Below B w (w'.drewN n) := ⟨h.os, h.tape, h.output, h.size, h.block⟩
section
variable {w : World} {p : Nat} {F D : Nat → Prop} {B : Nat} {kv : Value} {cv : KeyS → Value} {L : LimS} {m r v : Int} {now : Nat} {g : KeyS → List Ver} {ks : List KeyS} {z : Sz}
theorem q51 (h : RawS w p F D B kv cv L m r v now g ks z) (y : Sz) : Calls Tryz.prog 198 #[ptrS p, q6H y] w fun e w' => e = .returned (.bool (qaQ L y)) ∧ Below w.heap.size w w' := by
 obtain ⟨w0, hw0⟩ : ∃ u, w.alloc (.cells #[.int .i64 (y.k : Int), .int .i64 (y.v : Int), .int .i64 (y.b : Int)] 60) = u := ⟨_, rfl⟩
 have b0 : Below w.heap.size w w0 := by rw [← hw0]; exact (Below.refl _ w).alloc (Nat.le_refl _) _
 have hz : w0.heap[w.heap.size]? = some (.cells #[.int .i64 (y.k : Int), .int .i64 (y.v : Int), .int .i64 (y.b : Int)] 60 (0, 0)) := by rw [← hw0]; exact heap_alloc_new w _
 have h0 := h.below b0
 have z0 := cell_of_row w0 _ 0 _ _ _ hz
 have z1 := cell_of_row w0 _ 1 _ _ _ hz
 have z2 := cell_of_row w0 _ 2 _ _ _ hz
 have c0 := h0.lim0
 have c1 := h0.lim1
 have c2 := h0.lim2
 have HB0 := qh b0
 have HW0 := qh hw0
 have HV : Hid (qaQ L y = (decide ((y.k : Int) ≤ L.keys) && decide ((y.v : Int) ≤ L.vers) && decide ((y.b : Int) ≤ L.byts))) := qh rfl
 generalize qaQ L y = O at *
 clear h h0 b0 hz hw0
 unfold ptrS q6H
 go_enter Tryz.func198, Tryz.ntmps198
 go_upto_region 1 with fail
 rw [HW0.out]
 clear HW0
 cases d1 : decide ((y.k : Int) ≤ L.keys)
 ·have HF := qh (show O = false from HV.out.trans (by simp [d1]))
  go_wp2_with fail
  go_quiet (fail)
  go_wp2
  go_ret
  exact ⟨(congrArg (fun i => Ending.returned (.bool i)) HF.out).symm, q3e HB0.out _⟩
 ·cases d2 : decide ((y.v : Int) ≤ L.vers)
  ·have HF := qh (show O = false from HV.out.trans (by simp [d1, d2]))
   go_wp2_with fail
   go_quiet (fail)
   go_wp2
   go_ret
   exact ⟨(congrArg (fun i => Ending.returned (.bool i)) HF.out).symm, q3e HB0.out _⟩
  ·cases d3 : decide ((y.b : Int) ≤ L.byts)
   ·have HF := qh (show O = false from HV.out.trans (by simp [d1, d2, d3]))
    go_wp2_with fail
    go_quiet (fail)
    go_wp2
    go_ret
    exact ⟨(congrArg (fun i => Ending.returned (.bool i)) HF.out).symm, q3e HB0.out _⟩
   ·have HF := qh (show O = true from HV.out.trans (by simp [d1, d2, d3]))
    go_wp2_with fail
    go_quiet (fail)
    go_wp2
    go_ret
    exact ⟨(congrArg (fun i => Ending.returned (.bool i)) HF.out).symm, q3e HB0.out _⟩
end
theorem q6c (n : Int) (w : World) : Calls Tryz.prog 98 #[.int .i64 n] w fun e w' => e = .returned (.bool (q2V n)) ∧ w' = w := by
 have HV : Hid (q2V n = (decide (1 ≤ n) && decide (n ≤ 1048576))) := qh rfl
 generalize q2V n = O at *
 by_cases h1 : 1 ≤ n
 ·have d1 : decide (1 ≤ n) = true := decide_eq_true h1
  cases d2 : decide (n ≤ 1048576)
  ·have HF := qh (show O = false from HV.out.trans (by simp [d1, d2]))
   go_enter Tryz.func98, Tryz.ntmps98
   go_wp2
   go_ret
   exact ⟨(congrArg (fun i => Ending.returned (.bool i)) HF.out).symm, rfl⟩
  ·have HF := qh (show O = true from HV.out.trans (by simp [d1, d2]))
   go_enter Tryz.func98, Tryz.ntmps98
   go_wp2
   go_ret
   exact ⟨(congrArg (fun i => Ending.returned (.bool i)) HF.out).symm, rfl⟩
 ·have d1 : decide (1 ≤ n) = false := decide_eq_false h1
  have HF := qh (show O = false from HV.out.trans (by simp [d1]))
  go_enter Tryz.func98, Tryz.ntmps98
  go_wp2
  go_ret
  exact ⟨(congrArg (fun i => Ending.returned (.bool i)) HF.out).symm, rfl⟩
theorem qe0 (w : World) (L : LimS) (m r v : Int) (w0 : World) (hb : Below w.heap.size w w0) : RawS ((w0.alloc (.map #[] 0)).alloc (.cells (boxS L m r v 0 w0.heap.size (.slice none 0 0) ⟨0, 0, 0⟩) 165)) (w0.heap.size + 1)
  (fun b => w0.heap.size ≤ b ∧ b < w0.heap.size + 2) (fun _ => False) w0.heap.size (.slice none 0 0) (fun _ => .slice none 0 0) L m r v 0 (fun _ => []) [] ⟨0, 0, 0⟩ where
 box := q23 w0 _ _
 map := (MapS.made w0).keep (((Below.refl _ (w0.alloc (.map #[] 0))).alloc (Nat.le_refl _) _).block _ (by simp))
 keys := OwnG.none_ _ _ _ _ _
 chain := fun _ h => absurd rfl h
 Fp := ⟨by omega, by omega⟩
 FB := ⟨by omega, by omega⟩
 Fk := fun _ h => by simp [Value.ownBlock] at h
 Fc := fun _ h => absurd rfl h
 FD := fun _ h => h.elim
 lt := fun b h => by simp; omega
 pB := by omega
 kvp := fun _ h => by simp [Value.ownBlock] at h
 cvp := fun _ h => absurd rfl h
 apart := fun _ _ h => absurd rfl h
 Dp := fun h => h
 DB := fun h => h
def NewR (L : LimS) (m r v : Int) (w : World) (e : Ending) (w' : World) : Prop := Below w.heap.size w w' ∧
 (if MayS L = true then ∃ p F D B, e = .returned (.tuple #[ptrS p, .int .i64 0]) ∧ RawS w' p F D B (.slice none 0 0) (fun _ => .slice none 0 0) L m r v 0 (fun _ => []) [] ⟨0, 0, 0⟩ ∧ ∀ k, F k → w.heap.size ≤ k else e = .returned (.tuple #[.pointer none, .int .i64 1]))
theorem NewR.no {L : LimS} {m r v : Int} {w w' : World} (h : MayS L = false) (hb : Below w.heap.size w w') : NewR L m r v w (.returned (.tuple #[.pointer none, .int .i64 1])) w' := ⟨hb, by rw [h]; rfl⟩
theorem NewR.yes {L : LimS} {m r v : Int} {w w0 : World} (h : MayS L = true) (hb : Below w.heap.size w w0) :
  NewR L m r v w (.returned (.tuple #[ptrS (w0.heap.size + 1), .int .i64 0])) ((w0.alloc (.map #[] 0)).alloc (.cells (boxS L m r v 0 w0.heap.size (.slice none 0 0) ⟨0, 0, 0⟩) 165)) :=
 ⟨(hb.alloc hb.size _).alloc (Nat.le_trans hb.size (by simp)) _, by
  rw [if_pos h]
  exact ⟨_, _, _, _, rfl, qe0 w L m r v w0 hb, fun k hk => Nat.le_trans hb.size hk.1⟩⟩
theorem qeW (L : LimS) (m r v : Int) (w : World) : Calls Tryz.prog 53 #[q3B L m r v] w (NewR L m r v w) := by
 obtain ⟨w0, hw0⟩ : ∃ u, w.alloc (.cells #[.int .i64 L.keys, .int .i64 L.vers, .int .i64 L.byts, .int .i64 m, .int .i64 r, .int .i64 v, .int .u64 L.last] 24) = u := ⟨_, rfl⟩
 have b0 : Below w.heap.size w w0 := by rw [← hw0]; exact (Below.refl _ w).alloc (Nat.le_refl _) _
 have hz : w0.heap[w.heap.size]? = some (.cells #[.int .i64 L.keys, .int .i64 L.vers, .int .i64 L.byts, .int .i64 m, .int .i64 r, .int .i64 v, .int .u64 L.last] 24 (0, 0)) := by rw [← hw0]; exact heap_alloc_new w _
 have z0 := cell_of_row w0 _ 0 _ _ _ hz
 have z1 := cell_of_row w0 _ 1 _ _ _ hz
 have z2 := cell_of_row w0 _ 2 _ _ _ hz
 have z3 := cell_of_row w0 _ 3 _ _ _ hz
 have z4 := cell_of_row w0 _ 4 _ _ _ hz
 have z5 := cell_of_row w0 _ 5 _ _ _ hz
 have z6 := cell_of_row w0 _ 6 _ _ _ hz
 have HB0 := qh b0
 have HW0 := qh hw0
 have HR1 := qh (q6c L.keys w0)
 have HR2 := qh (q6c L.vers w0)
 have HR3 := qh (q6c L.byts w0)
 have hmm := @run_makeMap Tryz.prog
 have HV : Hid (MayS L = (q2V L.keys && q2V L.vers && q2V L.byts && decide (1 ≤ L.last))) := qh rfl
 have HNo : Hid (∀ w', MayS L = false → Below w.heap.size w w' → NewR L m r v w (.returned (.tuple #[.pointer none, .int .i64 1])) w') := qh fun w' => NewR.no
 have HYes : Hid (MayS L = true → NewR L m r v w (.returned (.tuple #[ptrS (w0.heap.size + 1), .int .i64 0])) ((w0.alloc (.map #[] 0)).alloc (.cells (boxS L m r v 0 w0.heap.size (.slice none 0 0) ⟨0, 0, 0⟩) 165))) := qh fun h => NewR.yes h b0
 clear b0 hz hw0
 unfold q3B
 go_enter Tryz.func53, Tryz.ntmps53
 go_upto_region 1 with fail
 rw [HW0.out]
 clear HW0
 cases h1 : q2V L.keys
 ·rw [h1] at HR1
  have HF := qh (HNo.out w0 (HV.out.trans (by rw [h1]; rfl)) HB0.out)
  go_wp2_with fail
  refine HR1.out.mono ?_
  rintro e w' ⟨rfl, rfl⟩
  go_wp2
  refine bodyPost_ret (v := .tuple #[.pointer none, .int .i64 1]) (by simp [results, Tryz.results53, go_sem]) rfl ?_
  exact HF.out
 ·rw [h1] at HR1
  cases h2 : q2V L.vers
  ·rw [h2] at HR2
   have HF := qh (HNo.out w0 (HV.out.trans (by rw [h1, h2]; rfl)) HB0.out)
   go_wp2_with fail
   refine HR1.out.mono ?_
   rintro e w' ⟨rfl, rfl⟩
   go_wp2_with fail
   refine HR2.out.mono ?_
   rintro e w' ⟨rfl, rfl⟩
   go_wp2
   refine bodyPost_ret (v := .tuple #[.pointer none, .int .i64 1]) (by simp [results, Tryz.results53, go_sem]) rfl ?_
   exact HF.out
  ·rw [h2] at HR2
   cases h3 : q2V L.byts
   ·rw [h3] at HR3
    have HF := qh (HNo.out w0 (HV.out.trans (by rw [h1, h2, h3]; rfl)) HB0.out)
    go_wp2_with fail
    refine HR1.out.mono ?_
    rintro e w' ⟨rfl, rfl⟩
    go_wp2_with fail
    refine HR2.out.mono ?_
    rintro e w' ⟨rfl, rfl⟩
    go_wp2_with fail
    refine HR3.out.mono ?_
    rintro e w' ⟨rfl, rfl⟩
    go_wp2
    refine bodyPost_ret (v := .tuple #[.pointer none, .int .i64 1]) (by simp [results, Tryz.results53, go_sem]) rfl ?_
    exact HF.out
   ·rw [h3] at HR3
    by_cases h4 : 1 ≤ L.last
    ·have d4 : decide ((L.last : Int) < 1) = false := by rw [decide_eq_false_iff_not]; omega
     have HF := qh (HYes.out (HV.out.trans (by rw [h1, h2, h3, decide_eq_true h4]; rfl)))
     go_wp2_with fail
     refine HR1.out.mono ?_
     rintro e w' ⟨rfl, rfl⟩
     go_wp2_with fail
     refine HR2.out.mono ?_
     rintro e w' ⟨rfl, rfl⟩
     go_wp2_with fail
     refine HR3.out.mono ?_
     rintro e w' ⟨rfl, rfl⟩
     go_wp2
     refine bodyPost_ret (v := .tuple #[ptrS (w'.heap.size + 1), .int .i64 0]) (by simp [results, Tryz.results53, go_sem, ptrS]) rfl ?_
     exact HF.out
    ·have d4 : decide ((L.last : Int) < 1) = true := by rw [decide_eq_true_iff]; omega
     have HF := qh (HNo.out w0 (HV.out.trans (by rw [h1, h2, h3, decide_eq_false h4]; rfl)) HB0.out)
     go_wp2_with fail
     refine HR1.out.mono ?_
     rintro e w' ⟨rfl, rfl⟩
     go_wp2_with fail
     refine HR2.out.mono ?_
     rintro e w' ⟨rfl, rfl⟩
     go_wp2_with fail
     refine HR3.out.mono ?_
     rintro e w' ⟨rfl, rfl⟩
     go_wp2
     refine bodyPost_ret (v := .tuple #[.pointer none, .int .i64 1]) (by simp [results, Tryz.results53, go_sem]) rfl ?_
     exact HF.out
end Go.Proofs.YtdpbllacfljmoaaGreat
