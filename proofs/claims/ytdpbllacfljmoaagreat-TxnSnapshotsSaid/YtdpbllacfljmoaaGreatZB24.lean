import Derived.Deep.RegionHeld3
import Derived.KernelRfl
import Derived.Test.YtdpbllacfljmoaaGreatZB23
import Derived.Deep.DeepCutAuto
import Derived.Lib.MinMax
set_option maxRecDepth 100000
set_option maxHeartbeats 16000000
set_option linter.unusedVariables false
namespace Go.Proofs.YtdpbllacfljmoaaGreat
open Go
section
variable {P : Program} {md : Region.Mode} {Q : Exit → Act → World → Prop} {S S' : World → Prop} {l : List Oper}
theorem q98 {i fuel : Nat} {oi : Oper} {v : Value} {listed : Array Bool} {a : Act} {w : World} (hi : l[i]? = some oi)
  (hs : Region.noSelect l.toArray = true) (hf : Region.free md l.toArray listed i = true) (hr : (Region.ready md l.toArray listed).contains i = true)
  (hQ : ∀ c a w, Q (.panic c) (a.put oi.dst v) w → Q (.panic c) a w) (hw : Region.wanted oi (yielded l.toArray a.tmps) = true) (hy : ∀ w, S w → (execOp a.eval oi).run P w = .ok (.value v) w) (hS : S w)
  (h : wpAnyH P md l.toArray Q S fuel (listed.setIfInBounds i true) (a.put oi.dst v) w) : wpAnyH P md l.toArray Q S (fuel + 1) listed a w :=
 wpAnyH_take (by simpa using hi) hs hf hr hQ (Or.inl ⟨hw, hy⟩) hS h
theorem qdQ {i fuel : Nat} {o : Oper} {listed : Array Bool} {a : Act} {w : World} (hr : Region.ready md l.toArray listed = [i]) (ho : l[i]? = some o)
  (h : ∀ K' : Act → World → Prop, Shut (∀ a w, S w → (S w → wpAnyH P md l.toArray Q S fuel (listed.setIfInBounds i true) a w) → K' a w) → if Region.wanted o (yielded l.toArray a.tmps) = true then Oper.wp P o a w K' Q else K' (a.put o.dst undef) w) :
  wpAnyH P md l.toArray Q S (fuel + 1) listed a w :=
 wpAnyH_ready hr (by simp) (AllReadyH.cons (by simpa using ho) h AllReadyH.nil)
end
section
variable {P : Program} {md : Region.Mode} {Q : Exit → Act → World → Prop} {S : World → Prop} {l : List Oper}
theorem q28 {i j fuel : Nat} {o o' : Oper} {listed : Array Bool} {a : Act} {w : World} (hr : Region.ready md l.toArray listed = [i, j]) (ho : l[i]? = some o) (ho' : l[j]? = some o')
  (h : ∀ K' : Act → World → Prop, Shut (∀ a w, S w → (S w → wpAnyH P md l.toArray Q S fuel (listed.setIfInBounds i true) a w) → K' a w) → if Region.wanted o (yielded l.toArray a.tmps) = true then Oper.wp P o a w K' Q else K' (a.put o.dst undef) w)
  (h' : ∀ K' : Act → World → Prop, Shut (∀ a w, S w → (S w → wpAnyH P md l.toArray Q S fuel (listed.setIfInBounds j true) a w) → K' a w) → if Region.wanted o' (yielded l.toArray a.tmps) = true then Oper.wp P o' a w K' Q else K' (a.put o'.dst undef) w) :
  wpAnyH P md l.toArray Q S (fuel + 1) listed a w :=
 wpAnyH_ready hr (by simp) (AllReadyH.cons (by simpa using ho) h (AllReadyH.cons (by simpa using ho') h' AllReadyH.nil))
end
section
variable {P : Program} {md : Region.Mode} {Q : Exit → Act → World → Prop} {S : World → Prop} {l : List Oper}
theorem tkH {i fuel : Nat} {oi : Oper} {v : Value} {listed : Array Bool} {a : Act} {w : World} (hy : ∀ w, S w → (execOp a.eval oi).run P w = .ok (.value v) w) (h : wpAnyH P md l.toArray Q S fuel (listed.setIfInBounds i true) (a.put oi.dst v) w)
  (hi : l[i]? = some oi := by rfl) (hs : Region.noSelect l.toArray = true := by kernel_rfl) (hf : Region.free md l.toArray listed i = true := by kernel_rfl) (hr : (Region.ready md l.toArray listed).contains i = true := by kernel_rfl)
  (hQ : ∀ c a w, Q (.panic c) (a.put oi.dst v) w → Q (.panic c) a w := by exact fun _ _ _ h => h) (hw : Region.wanted oi (yielded l.toArray a.tmps) = true := by rfl) (hS : S w := by assumption) : wpAnyH P md l.toArray Q S (fuel + 1) listed a w :=
 q98 hi hs hf hr hQ hw hy hS h
end
section
variable {P : Program} {md : Region.Mode} {Q : Exit → Act → World → Prop} {S : World → Prop} {l : List Oper}
theorem tkS {i fuel : Nat} {oi : Oper} {v : Value} {listed : Array Bool} {a : Act} {w : World} (h : wpAnyH P md l.toArray Q S fuel (listed.setIfInBounds i true) (a.put oi.dst v) w)
  (hi : l[i]? = some oi := by rfl) (hs : Region.noSelect l.toArray = true := by kernel_rfl) (hf : Region.free md l.toArray listed i = true := by kernel_rfl) (hr : (Region.ready md l.toArray listed).contains i = true := by kernel_rfl)
  (hQ : ∀ c a w, Q (.panic c) (a.put oi.dst v) w → Q (.panic c) a w := by exact fun _ _ _ h => h) (hw : Region.wanted oi (yielded l.toArray a.tmps) = true := by rfl) (hS : S w := by assumption)
  (hy : ∀ w, S w → (execOp a.eval oi).run P w = .ok (.value v) w := by intro w _; go_simp <;> with_reducible rfl) : wpAnyH P md l.toArray Q S (fuel + 1) listed a w :=
 q98 hi hs hf hr hQ hw hy hS h
theorem stH {i fuel : Nat} {o : Oper} {listed : Array Bool} {a : Act} {w : World}
  (h : ∀ K' : Act → World → Prop, Shut (∀ a w, S w → (S w → wpAnyH P md l.toArray Q S fuel (listed.setIfInBounds i true) a w) → K' a w) → if Region.wanted o (yielded l.toArray a.tmps) = true then Oper.wp P o a w K' Q else K' (a.put o.dst undef) w)
  (ho : l[i]? = some o := by rfl) (hr : Region.ready md l.toArray listed = [i] := by kernel_rfl) : wpAnyH P md l.toArray Q S (fuel + 1) listed a w := qdQ hr ho h
end
theorem qA {α : Type} (xs : List α) (i : Nat) (a : α) : xs.toArray.setIfInBounds i a = (xs.set i a).toArray := by simp
theorem qB {α : Type} (x : α) (xs : List α) (a : α) : (x :: xs).set 0 a = a :: xs := rfl
theorem qC {α : Type} (x : α) (xs : List α) (n : Nat) (a : α) : (x :: xs).set (n + 1) a = x :: xs.set n a := rfl
open Go.RowKit
section
variable {w w' : World} {o p : Nat} {ρ ρ' : q0m} {L : LimT} {b : q05} {ps B : Nat} {P : Nat → TxP} {rv hv : Value}
theorem q16 (h : RawB w o p ρ L b ps B P rv hv) : Calls Tryz.prog 64 #[ptrS p] w fun e w' => e = .returned (.bool true) ∧ w' = w := by
 have c8 := h.live_
 have hne := fun (w : World) (m : Option Nat) => run_neq_map_nil (P := Tryz.prog) w 90 _ _ m Tryz.underlying90
 clear h
 unfold ptrS
 go_enter Tryz.func64, Tryz.ntmps64
 go_wp2
 go_ret
 exact ⟨rfl, rfl⟩
def q2n (b : q05) (P : Nat → TxP) (id : Int) : Value := match ofT b id with
 | none => .tuple #[.pointer none, .int .i64 4]
 | some t => .tuple #[ptrS (P t.id).q, .int .i64 0]
theorem q2Z (h : RawB w o p ρ L b ps B P rv hv) (id : Int) : Calls Tryz.prog 76 #[ptrS p, .int .i64 id] w fun e w' => e = .returned (q2n b P id) ∧ w' = w := by
 have c8 := h.live_
 have hlk := h.look id
 have HM := qh (q16 h)
 clear h
 unfold q2n
 cases hf : ofT b id with
 | none =>
  rw [hf] at hlk
  simp only [Option.map_none, Option.getD_none, Option.isSome_none] at hlk ⊢
  clear hf
  unfold ptrS at HM ⊢
  go_enter Tryz.func76, Tryz.ntmps76
  go_wp2_with fail
  refine HM.out.mono ?_
  rintro e w' ⟨rfl, rfl⟩
  go_wp2
  go_ret2
  exact ⟨rfl, rfl⟩
 | some t =>
  rw [hf] at hlk
  simp only [Option.map_some, Option.getD_some, Option.isSome_some] at hlk ⊢
  clear hf
  unfold ptrS at HM hlk ⊢
  go_enter Tryz.func76, Tryz.ntmps76
  go_wp2_with fail
  refine HM.out.mono ?_
  rintro e w' ⟨rfl, rfl⟩
  go_wp2
  go_ret2
  exact ⟨rfl, rfl⟩
theorem StD.now {st : PS} {F : Nat → Prop} {LS : LimS} (h : StD w ps F LS st) : Calls Tryz.prog 65 #[ptrS ps] w fun e w' => e = .returned (.int .u64 (st.time : Nat)) ∧ w' = w := by
 obtain ⟨D, B, kv, cv, m, r, v, h1, _⟩ := h
 exact qaw h1
theorem qcz (h : RawB w o p ρ L b ps B P rv hv) : Calls Tryz.prog 20 #[ptrS p] w fun e w' => e = .returned (.int .u64 (b.st.time : Nat)) ∧ w' = w := by
 have c7 := h.store_
 have HM := qh (q16 h)
 have HN := qh h.store.now
 clear h
 unfold ptrS at HM HN c7 ⊢
 go_enter Tryz.func20, Tryz.ntmps20
 go_wp2_with fail
 refine HM.out.mono ?_
 rintro e w' ⟨rfl, rfl⟩
 go_wp2_with fail
 refine HN.out.mono ?_
 rintro e w' ⟨rfl, rfl⟩
 go_wp2
 go_ret
 exact ⟨rfl, rfl⟩
theorem q9A (h : RawB w o p ρ L b ps B P rv hv) : Calls Tryz.prog 26 #[ptrS p] w fun r w' => r = .returned (.agg #[.int .i64 (b.st.K.length : Nat), .int .i64 (q1o b.st.K : Nat), .int .i64 (q3c b.st.K : Nat)]) ∧ Below w.heap.size w w' := by
 obtain ⟨w1, hw1⟩ : ∃ y, w.alloc (.cells #[.int .i64 0, .int .i64 0, .int .i64 0] 60) = y := ⟨_, rfl⟩
 have hb1 : Below w.heap.size w w1 := by rw [← hw1]; exact (Below.refl _ w).alloc (Nat.le_refl _) _
 have hx1 : w1.heap[w.heap.size]? = some (.cells #[.int .i64 0, .int .i64 0, .int .i64 0] 60 (0, 0)) := by rw [← hw1]; exact heap_alloc_new w _
 have h1 := h.below hb1
 have c7 := h1.store_
 have HM := qh (q16 h1)
 have HN := qh (q1P.count ps _ _ _ w1 h1.store)
 have HB1 := qh hb1
 have HX1 := qh hx1
 have HW1 := qh hw1
 clear h h1 hb1 hx1 hw1
 unfold ptrS at HM HN c7 ⊢
 go_enter Tryz.func26, Tryz.ntmps26
 go_upto_region 1 with fail
 rw [HW1.out]
 clear HW1
 go_wp2_with fail
 refine HM.out.mono ?_
 rintro e w' ⟨rfl, rfl⟩
 go_wp2_with fail
 refine HN.out.mono ?_
 rintro e w2 ⟨rfl, hb2⟩
 have hx2 := q01 HX1.out hb2 (q00 HX1.out)
 have HB2 := qh (HB1.out.trans (hb2.mono HB1.out.size))
 have f0 := q02 hx2 0
 have f1 := q02 hx2 1
 have f2 := q02 hx2 2
 have z0 := cell_of_row w2 _ 0 _ _ _ hx2
 have z1 := cell_of_row w2 _ 1 _ _ _ hx2
 have z2 := cell_of_row w2 _ 2 _ _ _ hx2
 have HZ := qh (q2s hx2 (.int .i64 (b.st.K.length : Nat)) (.int .i64 (q1o b.st.K : Nat)) (.int .i64 (q3c b.st.K : Nat)))
 have HB3 := qh (Below.box3 HB2.out (b := w.heap.size) (Nat.le_refl _) (.int .i64 (b.st.K.length : Nat)) (.int .i64 (q1o b.st.K : Nat)) (.int .i64 (q3c b.st.K : Nat)))
 clear hx2 hb2
 go_wp2
 have t0 := cell_of_row _ _ 0 _ _ _ HZ.out
 have t1 := cell_of_row _ _ 1 _ _ _ HZ.out
 have t2 := cell_of_row _ _ 2 _ _ _ HZ.out
 refine bodyPost_ret (v := .agg #[.int .i64 (b.st.K.length : Nat), .int .i64 (q1o b.st.K : Nat), .int .i64 (q3c b.st.K : Nat)]) (by simp [results, Tryz.results26, go_sem, t0, t1, t2]) rfl ?_
 exact ⟨rfl, HB3.out⟩
theorem RawB.time_lt (h : RawB w o p ρ L b ps B P rv hv) : b.st.time < 18446744073709551616 := by
 have h1 := q1P.okay h.store
 have := h1.2.1.2
 have := h1.2.2.2.2
 omega
theorem q89 (h : RawB w o p ρ L b ps B P rv hv) : Calls Tryz.prog 33 #[ptrS p] w fun r w' => ∃ A c, r = .returned (.slice A (q1F b.st.K [] [] b.st.time).length c) ∧ ChP w' w.heap.size w'.heap.size A c (q1F b.st.K [] [] b.st.time) ∧ Below w.heap.size w w' := by
 have HM := qh (q16 h)
 have HN : Hid (∀ W : World, Below w.heap.size w W → Calls Tryz.prog 65 #[ptrS ps] W fun e w' => e = .returned (.int .u64 (b.st.time : Nat)) ∧ Below w.heap.size w w') :=
  qh fun W hb => ((h.below hb).store.now).mono fun _ _ q => ⟨q.1, by rw [q.2]; exact hb⟩
 have HS : Hid (∀ W : World, Below w.heap.size w W → Calls Tryz.prog 74 #[ptrS ps, .string ⟨#[]⟩, .string ⟨#[]⟩, .int .u64 (b.st.time : Nat)] W fun r w' => ∃ A c, r = .returned (.slice A (q1F b.st.K [] [] b.st.time).length c) ∧ ChP w' w.heap.size w'.heap.size A c (q1F b.st.K [] [] b.st.time) ∧ Below w.heap.size w w') :=
  qh fun W hb => (q1P.scan ps _ _ _ [] [] b.st.time W (h.below hb).store (by simp) (by simp) h.time_lt).mono fun _ _ ⟨A, c, e, h1, h2⟩ => ⟨A, c, e, h1.wide hb.size (Nat.le_refl _), hb.trans (h2.mono hb.size)⟩
 obtain ⟨S, hS1, hS2⟩ : ∃ S : World → Prop, (∀ W : World, Below w.heap.size w W → S W) ∧ ∀ W : World, S W → W.cell? ⟨p, 7, none⟩ = some (ptrS ps) := ⟨fun W => Below w.heap.size w W, fun _ h => h, fun W hb => (h.below hb).store_⟩
 have HKp := qh hS1
 have HRd := qh hS2
 clear h hS1 hS2
 unfold ptrS at HM HN HS HRd ⊢
 go_enter Tryz.func33, Tryz.ntmps33
 go_wp2_with fail
 refine HM.out.mono ?_
 rintro e w' ⟨rfl, rfl⟩
 go_wp2_with fail
 refine wp_region_held_drew (S := S) (by kernel_rfl) ?_ (fun hGd => ?_)
 ·exact HKp.out _ (Below.refl _ _).drew
 refine tkS (i := 0) (v := ?_) ?_
 (try simp only [Act.put, qA, qB, qC])
 refine tkS (i := 1) (v := ?_) ?_
 (try simp only [Act.put, qA, qB, qC])
 refine tkS (i := 2) (v := ?_) ?_
 (try simp only [Act.put, qA, qB, qC])
 refine tkH (i := 3) (v := ?_) (fun w hSw => ?_) ?_
 rotate_left
 ·have z7 := HRd.out _ hSw; go_simp <;> with_reducible rfl
 (try simp only [Act.put, qA, qB, qC])
 refine tkS (i := 4) (v := ?_) ?_
 (try simp only [Act.put, qA, qB, qC])
 refine tkS (i := 5) (v := ?_) ?_
 (try simp only [Act.put, qA, qB, qC])
 refine tkS (i := 6) (v := ?_) ?_
 (try simp only [Act.put, qA, qB, qC])
 refine tkH (i := 7) (v := ?_) (fun w hSw => ?_) ?_
 rotate_left
 ·have z7 := HRd.out _ hSw; go_simp <;> with_reducible rfl
 (try simp only [Act.put, qA, qB, qC])
 refine stH (i := 8) (fun K' hK => ?_)
 go_simp
 go_at_call 65; with_reducible refine (HN.out _ (Below.refl _ _).drew).mono ?_; rintro r w2 ⟨rfl, hb2⟩
 (first | (refine hK.out _ _ ?_ (fun hG2 => ?_)) | (go_wp2_with fail; refine hK.out _ _ ?_ (fun hG2 => ?_)))
 ·exact HKp.out _ hb2
 clear hK K' hGd
 have hGd := hG2
 clear hG2
 (try simp only [Act.put, qA, qB, qC])
 refine stH (i := 9) (fun K' hK => ?_)
 go_simp
 go_at_call 74; with_reducible refine (HS.out _ hb2).mono ?_; rintro r w3 ⟨A3, c3, rfl, h3, hb3⟩
 (first | (refine hK.out _ _ ?_ (fun hG2 => ?_)) | (go_wp2_with fail; refine hK.out _ _ ?_ (fun hG2 => ?_)))
 ·exact HKp.out _ hb3
 clear hK K' hGd
 have hGd := hG2
 clear hG2
 (try simp only [Act.put, qA, qB, qC])
 refine tkS (i := 10) (v := ?_) ?_
 (try simp only [Act.put, qA, qB, qC])
 refine wpAnyH_done (by kernel_rfl) ?_ _
 go_wp2_with fail
 go_ret
 exact ⟨A3, c3, rfl, h3, hb3⟩
end
open Go.RowKit
theorem q4U {l : List TxS} {P : Nat → TxP} {id : Int} {v : Value} (h : q2E l P id = some v) : ∃ t ∈ l, (t.id : Int) = id ∧ v = ptrS (P t.id).q := by
 unfold q2E at h
 obtain ⟨t, ht, e⟩ := Option.map_eq_some_iff.1 h
 exact ⟨t, List.mem_of_find?_eq_some ht, by simpa using List.find?_some ht, e.symm⟩
theorem q6a {l : List TxS} {P : Nat → TxP} {t : TxS} (ht : t ∈ l) : (q2E l P (t.id : Int)).isSome = true := by
 unfold q2E
 cases hf : l.find? (fun x => decide ((x.id : Int) = (t.id : Int))) with
 | none =>
  have := List.find?_eq_none.1 hf t ht
  simp at this
 | some u => rfl
theorem q6E {n : Nat} {w wr w1 : World} {r : Nat} (hb : Below n w wr) (hg : wr.grownBy w1 (some r)) (hr : n ≤ r) (hn : n ≤ wr.heap.size) : Below n w w1 := hb.grown hg hn fun k hk => by injection hk with hk; omega
section
variable {w w' : World} {o p : Nat} {ρ ρ' : q0m} {L : LimT} {b : q05} {ps B : Nat} {P : Nat → TxP} {rv hv : Value}
theorem q4n (h : RawB w o p ρ L b ps B P rv hv) (hi : IdsT b.live) : Calls Tryz.prog 21 #[ptrS p] w fun r w' => r = .returned (.int .u64 (lowT b : Nat)) ∧ Below w.heap.size w w' := by
 have c7 := h.store_
 have c8 := h.live_
 have HM := qh (q16 h)
 have HN := qh h.store.now
 have HH := qh h
 have HI := qh hi
 obtain ⟨w0, hr0, hR0, hg0, hs0⟩ := h.live.range (P := Tryz.prog) (t := 90) (kt := 3) (et := 114) Tryz.underlying90
 have HR0 := qh hR0
 have HB0 := qh ((Below.refl w.heap.size w).grown hg0 (Nat.le_refl _) (fun k hk => by cases hk))
 clear h hi hR0 hg0 hs0
 unfold ptrS at HM HN c7 ⊢
 go_enter Tryz.func21, Tryz.ntmps21
 go_wp2_with fail
 refine HM.out.mono ?_
 rintro e w' ⟨rfl, rfl⟩
 go_wp2_with fail
 refine HN.out.mono ?_
 rintro e w' ⟨rfl, rfl⟩
 go_wp2_with fail
 go_loopw [3] (fun u wr => ∃ (n : Nat) (done : List Int), u = .int .u64 (n : Nat) ∧ q0T intK wr B w'.heap.size (q2E b.live P) done ∧ LowI b done n ∧ Below w'.heap.size w' wr) (fun _ wr => wr.rangeLeft B w'.heap.size)
 case atStart => exact ⟨_, [], rfl, HR0.out, LowI.start b, HB0.out⟩
 case round =>
  obtain ⟨n, done, rfl, hR, hL, hb⟩ := hrel
  have HL := qh hL
  have HB := qh hb
  rcases hR.next (P := Tryz.prog) 0 with ⟨hd, hnx⟩ | ⟨id, v, w1, hf, hnot, hnx, hR1, hg1, hs1, hen, hlt⟩
  ·have e := hL.done fun t ht => hd _ (q6a ht)
   subst e
   clear hd hL hb hR HL
   go_wp2_with fail
   go_ret
   exact ⟨rfl, HB.out⟩
  ·obtain ⟨t, ht, rfl, rfl⟩ := q4U hf
   have hb1 := q6E hb hg1 (Nat.le_refl _) hb.size
   have k0 := ((HH.out.below hb1).txs t ht).began_
   have HR1 := qh hR1
   have HB1 := qh hb1
   have HLt := qh hlt
   have HL1 := qh (hL.step HI.out ht)
   clear hf hnot hR hL hb hR1 hg1 hs1 hb1 hlt ht
   unfold ptrS at hnx hen
   simp only [intK] at hnx hen
   go_wp2_with fail
   go_roundw
   case rel => exact ⟨min n t.began, _, by congr 1; omega, HR1.out, HL1.out, HB1.out⟩
   case measure => exact HLt.out
end
end Go.Proofs.YtdpbllacfljmoaaGreat
