import Derived.Test.YtdpbllacfljmoaaGreatZF25
import Derived.Test.YtdpbllacfljmoaaGreatZF11
import Derived.Deep.DeepCutAuto
import Derived.Lib.MinMax
import Derived.Shelf.SlGeneric
import Derived.Shelf.Sort.Plain
import Derived.Shelf.SlIter.Nil
import Derived.Shelf.SortM.Plain
import Derived.Shelf.SortM.SortNone
import Derived.Ground.GgzProg
import Derived.Ground.SlgmProg
import Derived.Shelf.SlSortCmp.WholeK
import Derived.Ground.SlsfProg
import Derived.Shelf.SlMaps.Clone
import Derived.Ground.SlmcProg
import Derived.Test.YtdpbllacfljmoaaGreatProg
set_option maxRecDepth 100000
set_option maxHeartbeats 16000000
set_option linter.unusedVariables false
namespace Go.Proofs.YtdpbllacfljmoaaGreat
open Go.RowKit
section
variable {w w' : World} {o p : Nat} {ρ ρ' : q0o} {L : LimT} {b : q08} {ps B : Nat} {P : Nat → TxP} {rv hv : Value}
theorem q18 (h : RawB w o p ρ L b ps B P rv hv) : Calls Tryz.prog 64 #[ptrS p] w fun e w' => e = .returned (.bool true) ∧ w' = w := by
 have c8 := h.live_
 have hne := fun (w : World) (m : Option Nat) => run_neq_map_nil (P := Tryz.prog) w 90 _ _ m Tryz.underlying90
 clear h
 unfold ptrS
 go_enter Tryz.func64, Tryz.ntmps64
 go_wp2
 go_ret
 exact ⟨rfl, rfl⟩
def q2u (b : q08) (P : Nat → TxP) (id : Int) : Value := match ofT b id with
 | none => .tuple #[.pointer none, .int .i64 4]
 | some t => .tuple #[ptrS (P t.id).q, .int .i64 0]
theorem q33 (h : RawB w o p ρ L b ps B P rv hv) (id : Int) : Calls Tryz.prog 76 #[ptrS p, .int .i64 id] w fun e w' => e = .returned (q2u b P id) ∧ w' = w := by
 have c8 := h.live_
 have hlk := h.look id
 have HM := qh (q18 h)
 clear h
 unfold q2u
 cases hf : ofT b id with
 | none =>
  rw [hf] at hlk
  simp only [Option.map_none, Option.getD_none, Option.isSome_none] at hlk ⊢
  clear hf
  unfold ptrS at HM ⊢
  go_enter Tryz.func76, Tryz.ntmps76
  go_wp2_with fail
  refine HM.out.mono ?_
  rintro e w' ⟨rfl, rfl⟩
  go_wp2
  go_ret2
  exact ⟨rfl, rfl⟩
 | some t =>
  rw [hf] at hlk
  simp only [Option.map_some, Option.getD_some, Option.isSome_some] at hlk ⊢
  clear hf
  unfold ptrS at HM hlk ⊢
  go_enter Tryz.func76, Tryz.ntmps76
  go_wp2_with fail
  refine HM.out.mono ?_
  rintro e w' ⟨rfl, rfl⟩
  go_wp2
  go_ret2
  exact ⟨rfl, rfl⟩
theorem StD.now {st : PS} {F : Nat → Prop} {LS : LimS} (h : StD w ps F LS st) : Calls Tryz.prog 65 #[ptrS ps] w fun e w' => e = .returned (.int .u64 (st.time : Nat)) ∧ w' = w := by
 obtain ⟨D, B, kv, cv, m, r, v, h1, _⟩ := h
 exact qaK h1
theorem qcU (h : RawB w o p ρ L b ps B P rv hv) : Calls Tryz.prog 20 #[ptrS p] w fun e w' => e = .returned (.int .u64 (b.st.time : Nat)) ∧ w' = w := by
 have c7 := h.store_
 have HM := qh (q18 h)
 have HN := qh h.store.now
 clear h
 unfold ptrS at HM HN c7 ⊢
 go_enter Tryz.func20, Tryz.ntmps20
 go_wp2_with fail
 refine HM.out.mono ?_
 rintro e w' ⟨rfl, rfl⟩
 go_wp2_with fail
 refine HN.out.mono ?_
 rintro e w' ⟨rfl, rfl⟩
 go_wp2
 go_ret
 exact ⟨rfl, rfl⟩
theorem q9P (h : RawB w o p ρ L b ps B P rv hv) : Calls Tryz.prog 26 #[ptrS p] w fun r w' => r = .returned (.agg #[.int .i64 (b.st.K.length : Nat), .int .i64 (q1q b.st.K : Nat), .int .i64 (q3f b.st.K : Nat)]) ∧ Below w.heap.size w w' := by
 obtain ⟨w1, hw1⟩ : ∃ y, w.alloc (.cells #[.int .i64 0, .int .i64 0, .int .i64 0] 60) = y := ⟨_, rfl⟩
 have hb1 : Below w.heap.size w w1 := by rw [← hw1]; exact (Below.refl _ w).alloc (Nat.le_refl _) _
 have hx1 : w1.heap[w.heap.size]? = some (.cells #[.int .i64 0, .int .i64 0, .int .i64 0] 60 (0, 0)) := by rw [← hw1]; exact heap_alloc_new w _
 have h1 := h.below hb1
 have c7 := h1.store_
 have HM := qh (q18 h1)
 have HN := qh (q1Y.count ps _ _ _ w1 h1.store)
 have HB1 := qh hb1
 have HX1 := qh hx1
 have HW1 := qh hw1
 clear h h1 hb1 hx1 hw1
 unfold ptrS at HM HN c7 ⊢
 go_enter Tryz.func26, Tryz.ntmps26
 go_upto_region 1 with fail
 rw [HW1.out]
 clear HW1
 go_wp2_with fail
 refine HM.out.mono ?_
 rintro e w' ⟨rfl, rfl⟩
 go_wp2_with fail
 refine HN.out.mono ?_
 rintro e w2 ⟨rfl, hb2⟩
 have hx2 := q01 HX1.out hb2 (q00 HX1.out)
 have HB2 := qh (HB1.out.trans (hb2.mono HB1.out.size))
 have f0 := q02 hx2 0
 have f1 := q02 hx2 1
 have f2 := q02 hx2 2
 have z0 := cell_of_row w2 _ 0 _ _ _ hx2
 have z1 := cell_of_row w2 _ 1 _ _ _ hx2
 have z2 := cell_of_row w2 _ 2 _ _ _ hx2
 have HZ := qh (q2z hx2 (.int .i64 (b.st.K.length : Nat)) (.int .i64 (q1q b.st.K : Nat)) (.int .i64 (q3f b.st.K : Nat)))
 have HB3 := qh (Below.box3 HB2.out (b := w.heap.size) (Nat.le_refl _) (.int .i64 (b.st.K.length : Nat)) (.int .i64 (q1q b.st.K : Nat)) (.int .i64 (q3f b.st.K : Nat)))
 clear hx2 hb2
 go_wp2
 have t0 := cell_of_row _ _ 0 _ _ _ HZ.out
 have t1 := cell_of_row _ _ 1 _ _ _ HZ.out
 have t2 := cell_of_row _ _ 2 _ _ _ HZ.out
 refine bodyPost_ret (v := .agg #[.int .i64 (b.st.K.length : Nat), .int .i64 (q1q b.st.K : Nat), .int .i64 (q3f b.st.K : Nat)]) (by simp [results, Tryz.results26, go_sem, t0, t1, t2]) rfl ?_
 exact ⟨rfl, HB3.out⟩
theorem RawB.time_lt (h : RawB w o p ρ L b ps B P rv hv) : b.st.time < 18446744073709551616 := by
 have h1 := q1Y.okay h.store
 have := h1.2.1.2
 have := h1.2.2.2.2
 omega
theorem q8m (h : RawB w o p ρ L b ps B P rv hv) : Calls Tryz.prog 33 #[ptrS p] w fun r w' => ∃ A c, r = .returned (.slice A (q1w b.st.K [] [] b.st.time).length c) ∧ ChP w' w.heap.size w'.heap.size A c (q1w b.st.K [] [] b.st.time) ∧ Below w.heap.size w w' := by
 have HM := qh (q18 h)
 have HN : Hid (∀ W : World, Below w.heap.size w W → Calls Tryz.prog 65 #[ptrS ps] W fun e w' => e = .returned (.int .u64 (b.st.time : Nat)) ∧ Below w.heap.size w w') :=
  qh fun W hb => ((h.below hb).store.now).mono fun _ _ q => ⟨q.1, by rw [q.2]; exact hb⟩
 have HS : Hid (∀ W : World, Below w.heap.size w W → Calls Tryz.prog 74 #[ptrS ps, .string ⟨#[]⟩, .string ⟨#[]⟩, .int .u64 (b.st.time : Nat)] W fun r w' => ∃ A c, r = .returned (.slice A (q1w b.st.K [] [] b.st.time).length c) ∧ ChP w' w.heap.size w'.heap.size A c (q1w b.st.K [] [] b.st.time) ∧ Below w.heap.size w w') :=
  qh fun W hb => (q1Y.scan ps _ _ _ [] [] b.st.time W (h.below hb).store (by simp) (by simp) h.time_lt).mono fun _ _ ⟨A, c, e, h1, h2⟩ => ⟨A, c, e, h1.wide hb.size (Nat.le_refl _), hb.trans (h2.mono hb.size)⟩
 obtain ⟨S, hS1, hS2⟩ : ∃ S : World → Prop, (∀ W : World, Below w.heap.size w W → S W) ∧ ∀ W : World, S W → W.cell? ⟨p, 7, none⟩ = some (ptrS ps) := ⟨fun W => Below w.heap.size w W, fun _ h => h, fun W hb => (h.below hb).store_⟩
 have HKp := qh hS1
 have HRd := qh hS2
 clear h hS1 hS2
 unfold ptrS at HM HN HS HRd ⊢
 go_enter Tryz.func33, Tryz.ntmps33
 go_wp2_with fail
 refine HM.out.mono ?_
 rintro e w' ⟨rfl, rfl⟩
 go_wp2_with fail
 refine wp_region_held_drew (S := S) (by kernel_rfl) ?_ (fun hGd => ?_)
 ·exact HKp.out _ (Below.refl _ _).drew
 refine tkS (i := 0) (v := ?_) ?_
 (try simp only [Act.put, qA, qB, qC])
 refine tkS (i := 1) (v := ?_) ?_
 (try simp only [Act.put, qA, qB, qC])
 refine tkS (i := 2) (v := ?_) ?_
 (try simp only [Act.put, qA, qB, qC])
 refine tkH (i := 3) (v := ?_) (fun w hSw => ?_) ?_
 rotate_left
 ·have z7 := HRd.out _ hSw; go_simp <;> with_reducible rfl
 (try simp only [Act.put, qA, qB, qC])
 refine tkS (i := 4) (v := ?_) ?_
 (try simp only [Act.put, qA, qB, qC])
 refine tkS (i := 5) (v := ?_) ?_
 (try simp only [Act.put, qA, qB, qC])
 refine tkS (i := 6) (v := ?_) ?_
 (try simp only [Act.put, qA, qB, qC])
 refine tkH (i := 7) (v := ?_) (fun w hSw => ?_) ?_
 rotate_left
 ·have z7 := HRd.out _ hSw; go_simp <;> with_reducible rfl
 (try simp only [Act.put, qA, qB, qC])
 refine stH (i := 8) (fun K' hK => ?_)
 go_simp
 go_at_call 65; with_reducible refine (HN.out _ (Below.refl _ _).drew).mono ?_; rintro r w2 ⟨rfl, hb2⟩
 (first | (refine hK.out _ _ ?_ (fun hG2 => ?_)) | (go_wp2_with fail; refine hK.out _ _ ?_ (fun hG2 => ?_)))
 ·exact HKp.out _ hb2
 clear hK K' hGd
 have hGd := hG2
 clear hG2
 (try simp only [Act.put, qA, qB, qC])
 refine stH (i := 9) (fun K' hK => ?_)
 go_simp
 go_at_call 74; with_reducible refine (HS.out _ hb2).mono ?_; rintro r w3 ⟨A3, c3, rfl, h3, hb3⟩
 (first | (refine hK.out _ _ ?_ (fun hG2 => ?_)) | (go_wp2_with fail; refine hK.out _ _ ?_ (fun hG2 => ?_)))
 ·exact HKp.out _ hb3
 clear hK K' hGd
 have hGd := hG2
 clear hG2
 (try simp only [Act.put, qA, qB, qC])
 refine tkS (i := 10) (v := ?_) ?_
 (try simp only [Act.put, qA, qB, qC])
 refine wpAnyH_done (by kernel_rfl) ?_ _
 go_wp2_with fail
 go_ret
 exact ⟨A3, c3, rfl, h3, hb3⟩
end
open Go.RowKit
theorem q57 {l : List TxS} {P : Nat → TxP} {id : Int} {v : Value} (h : q2L l P id = some v) : ∃ t ∈ l, (t.id : Int) = id ∧ v = ptrS (P t.id).q := by
 unfold q2L at h
 obtain ⟨t, ht, e⟩ := Option.map_eq_some_iff.1 h
 exact ⟨t, List.mem_of_find?_eq_some ht, by simpa using List.find?_some ht, e.symm⟩
theorem q6o {l : List TxS} {P : Nat → TxP} {t : TxS} (ht : t ∈ l) : (q2L l P (t.id : Int)).isSome = true := by
 unfold q2L
 cases hf : l.find? (fun x => decide ((x.id : Int) = (t.id : Int))) with
 | none =>
  have := List.find?_eq_none.1 hf t ht
  simp at this
 | some u => rfl
theorem q6W {n : Nat} {w wr w1 : World} {r : Nat} (hb : Below n w wr) (hg : wr.grownBy w1 (some r)) (hr : n ≤ r) (hn : n ≤ wr.heap.size) : Below n w w1 := hb.grown hg hn fun k hk => by injection hk with hk; omega
section
variable {w w' : World} {o p : Nat} {ρ ρ' : q0o} {L : LimT} {b : q08} {ps B : Nat} {P : Nat → TxP} {rv hv : Value}
theorem q4x (h : RawB w o p ρ L b ps B P rv hv) (hi : IdsT b.live) : Calls Tryz.prog 21 #[ptrS p] w fun r w' => r = .returned (.int .u64 (lowT b : Nat)) ∧ Below w.heap.size w w' := by
 have c7 := h.store_
 have c8 := h.live_
 have HM := qh (q18 h)
 have HN := qh h.store.now
 have HH := qh h
 have HI := qh hi
 obtain ⟨w0, hr0, hR0, hg0, hs0⟩ := h.live.range (P := Tryz.prog) (t := 90) (kt := 3) (et := 114) Tryz.underlying90
 have HR0 := qh hR0
 have HB0 := qh ((Below.refl w.heap.size w).grown hg0 (Nat.le_refl _) (fun k hk => by cases hk))
 clear h hi hR0 hg0 hs0
 unfold ptrS at HM HN c7 ⊢
 go_enter Tryz.func21, Tryz.ntmps21
 go_wp2_with fail
 refine HM.out.mono ?_
 rintro e w' ⟨rfl, rfl⟩
 go_wp2_with fail
 refine HN.out.mono ?_
 rintro e w' ⟨rfl, rfl⟩
 go_wp2_with fail
 go_loopw [3] (fun u wr => ∃ (n : Nat) (done : List Int), u = .int .u64 (n : Nat) ∧ q0W intK wr B w'.heap.size (q2L b.live P) done ∧ LowI b done n ∧ Below w'.heap.size w' wr) (fun _ wr => wr.rangeLeft B w'.heap.size)
 case atStart => exact ⟨_, [], rfl, HR0.out, LowI.start b, HB0.out⟩
 case round =>
  obtain ⟨n, done, rfl, hR, hL, hb⟩ := hrel
  have HL := qh hL
  have HB := qh hb
  rcases hR.next (P := Tryz.prog) 0 with ⟨hd, hnx⟩ | ⟨id, v, w1, hf, hnot, hnx, hR1, hg1, hs1, hen, hlt⟩
  ·have e := hL.done fun t ht => hd _ (q6o ht)
   subst e
   clear hd hL hb hR HL
   go_wp2_with fail
   go_ret
   exact ⟨rfl, HB.out⟩
  ·obtain ⟨t, ht, rfl, rfl⟩ := q57 hf
   have hb1 := q6W hb hg1 (Nat.le_refl _) hb.size
   have k0 := ((HH.out.below hb1).txs t ht).began_
   have HR1 := qh hR1
   have HB1 := qh hb1
   have HLt := qh hlt
   have HL1 := qh (hL.step HI.out ht)
   clear hf hnot hR hL hb hR1 hg1 hs1 hb1 hlt ht
   unfold ptrS at hnx hen
   simp only [intK] at hnx hen
   go_wp2_with fail
   go_roundw
   case rel => exact ⟨min n t.began, _, by congr 1; omega, HR1.out, HL1.out, HB1.out⟩
   case measure => exact HLt.out
end
end Go.Proofs.YtdpbllacfljmoaaGreat
namespace Go.Proofs
open Go.Shelf
def Tryz.sortInts_ren : Go.Shelf.Ren := ⟨fun | 189 => 66 | 125 => 118 | 257 => 117 | 128 => 175 | 129 => 176 | 294 => 166 | 295 => 167 | 296 => 168 | 297 => 169 | 298 => 170 | 299 => 171 | 216 => 172 | 300 => 173 | 301 => 174 | 328 => 213 | 329 => 214 | 330 => 215 | 331 => 216 | 332 => 217 | 215 => 207 | 343 => 252 | n => n, fun | 28 => 57 | 3 => 3 | 46 => 180 | 0 => 0 | 51 => 224 | 53 => 22 | 4 => 4 | 183 => 217 | 182 => 216 | 131 => 221 | 5 => 5 | 9 => 9 | 218 => 253 | 222 => 256 | 228 => 277 | 229 => 278 | n => n, fun | n => n⟩
theorem Tryz.sortInts : Go.Proofs.Lays.n189 Tryz.prog Tryz.sortInts_ren := {
 mixed := by kernel_rfl
 f125 := Tryz.func118.trans (congrArg some (by kernel_rfl))
 f128 := Tryz.func175.trans (congrArg some (by kernel_rfl))
 f129 := Tryz.func176.trans (congrArg some (by kernel_rfl))
 f189 := Tryz.func66.trans (congrArg some (by kernel_rfl))
 f215 := Tryz.func207.trans (congrArg some (by kernel_rfl))
 f216 := Tryz.func172.trans (congrArg some (by kernel_rfl))
 f257 := Tryz.func117.trans (congrArg some (by kernel_rfl))
 f294 := Tryz.func166.trans (congrArg some (by kernel_rfl))
 f295 := Tryz.func167.trans (congrArg some (by kernel_rfl))
 f296 := Tryz.func168.trans (congrArg some (by kernel_rfl))
 f297 := Tryz.func169.trans (congrArg some (by kernel_rfl))
 f298 := Tryz.func170.trans (congrArg some (by kernel_rfl))
 f299 := Tryz.func171.trans (congrArg some (by kernel_rfl))
 f300 := Tryz.func173.trans (congrArg some (by kernel_rfl))
 f301 := Tryz.func174.trans (congrArg some (by kernel_rfl))
 f328 := Tryz.func213.trans (congrArg some (by kernel_rfl))
 f329 := Tryz.func214.trans (congrArg some (by kernel_rfl))
 f330 := Tryz.func215.trans (congrArg some (by kernel_rfl))
 f331 := Tryz.func216.trans (congrArg some (by kernel_rfl))
 f332 := Tryz.func217.trans (congrArg some (by kernel_rfl))
 f343 := Tryz.func252.trans (congrArg some (by kernel_rfl))
 t0 := Tryz.underlying0
 a0 := Tryz.isAgg0
 z0 := Tryz.sizeOf0
 v0 := Tryz.zeroValue0
 t3 := Tryz.underlying3
 a3 := Tryz.isAgg3
 z3 := Tryz.sizeOf3
 v3 := Tryz.zeroValue3
 t4 := Tryz.underlying4
 a4 := Tryz.isAgg4
 z4 := Tryz.sizeOf4
 v4 := Tryz.zeroValue4
 t5 := Tryz.underlying5
 a5 := Tryz.isAgg5
 z5 := Tryz.sizeOf5
 v5 := Tryz.zeroValue5
 t9 := Tryz.underlying9
 a9 := Tryz.isAgg9
 z9 := Tryz.sizeOf9
 v9 := Tryz.zeroValue9
 t28 := Tryz.underlying57
 a28 := Tryz.isAgg57
 z28 := Tryz.sizeOf57
 v28 := Tryz.zeroValue57
 t46 := Tryz.underlying180
 a46 := Tryz.isAgg180
 z46 := Tryz.sizeOf180
 v46 := Tryz.zeroValue180
 t51 := Tryz.underlying224
 a51 := Tryz.isAgg224
 z51 := Tryz.sizeOf224
 v51 := Tryz.zeroValue224
 t53 := Tryz.underlying22
 a53 := Tryz.isAgg22
 z53 := Tryz.sizeOf22
 v53 := Tryz.zeroValue22
 t131 := Tryz.underlying221
 a131 := Tryz.isAgg221
 z131 := Tryz.sizeOf221
 v131 := Tryz.zeroValue221
 t182 := Tryz.underlying216
 a182 := Tryz.isAgg216
 z182 := Tryz.sizeOf216
 v182 := Tryz.zeroValue216
 t183 := Tryz.underlying217
 a183 := Tryz.isAgg217
 z183 := Tryz.sizeOf217
 v183 := Tryz.zeroValue217
 t218 := Tryz.underlying253
 a218 := Tryz.isAgg253
 z218 := Tryz.sizeOf253
 v218 := Tryz.zeroValue253
 t222 := Tryz.underlying256
 a222 := Tryz.isAgg256
 z222 := Tryz.sizeOf256
 v222 := Tryz.zeroValue256
 t228 := Tryz.underlying277
 a228 := Tryz.isAgg277
 z228 := Tryz.sizeOf277
 v228 := Tryz.zeroValue277
 t229 := Tryz.underlying278
 a229 := Tryz.isAgg278
 z229 := Tryz.sizeOf278
 v229 := Tryz.zeroValue278 }
def Tryz.keysN_ren : Go.Shelf.Ren := ⟨fun | 7 => 185 | 10 => 237 | n => n, fun | 23 => 115 | 26 => 9 | 3 => 37 | 28 => 232 | 0 => 0 | 27 => 231 | 33 => 258 | 4 => 4 | n => n, fun | n => n⟩
theorem Tryz.keysN : Go.Proofs.SlLaysZ.n7 Tryz.prog Tryz.keysN_ren := {
 mixed := by kernel_rfl
 f7 := ⟨Tryz.f185.name, by decide, Tryz.func185.trans (congrArg some (by kernel_rfl))⟩
 f10 := ⟨Tryz.f237.name, by decide, Tryz.func237.trans (congrArg some (by kernel_rfl))⟩
 t0 := Tryz.underlying0
 a0 := Tryz.isAgg0
 z0 := Tryz.sizeOf0
 v0 := Tryz.zeroValue0
 t4 := Tryz.underlying4
 a4 := Tryz.isAgg4
 z4 := Tryz.sizeOf4
 v4 := Tryz.zeroValue4
 t23 := Tryz.underlying115
 a23 := Tryz.isAgg115
 z23 := Tryz.sizeOf115
 v23 := Tryz.zeroValue115
 t26 := Tryz.underlying9
 a26 := Tryz.isAgg9
 z26 := Tryz.sizeOf9
 v26 := Tryz.zeroValue9
 t27 := Tryz.underlying231
 a27 := Tryz.isAgg231
 z27 := Tryz.sizeOf231
 v27 := Tryz.zeroValue231
 t28 := Tryz.underlying232
 a28 := Tryz.isAgg232
 z28 := Tryz.sizeOf232
 v28 := Tryz.zeroValue232
 t33 := Tryz.underlying258
 a33 := Tryz.isAgg258
 z33 := Tryz.sizeOf258
 v33 := Tryz.zeroValue258 }
def Tryz.sortedN_ren : Go.Shelf.Ren := ⟨fun | 6 => 184 | 8 => 235 | 9 => 236 | 11 => 264 | 13 => 118 | 12 => 265 | 23 => 175 | 24 => 176 | 14 => 273 | 15 => 274 | 16 => 275 | 17 => 276 | 18 => 277 | 19 => 278 | 20 => 218 | 21 => 279 | 22 => 280 | 25 => 290 | 26 => 214 | 27 => 215 | 28 => 291 | 29 => 292 | 30 => 253 | 31 => 297 | n => n, fun | 26 => 9 | 28 => 232 | 24 => 163 | 0 => 0 | 3 => 3 | 37 => 180 | 48 => 224 | 50 => 22 | 4 => 4 | 40 => 217 | 39 => 216 | 45 => 221 | 5 => 5 | 9 => 9 | 51 => 253 | 55 => 256 | 57 => 277 | 58 => 278 | 33 => 258 | n => n, fun | n => n⟩
theorem Tryz.sortedN : Go.Proofs.SlLaysZ.n6 Tryz.prog Tryz.sortedN_ren := {
 mixed := by kernel_rfl
 f6 := ⟨Tryz.f184.name, by decide, Tryz.func184.trans (congrArg some (by kernel_rfl))⟩
 f8 := ⟨Tryz.f235.name, by decide, Tryz.func235.trans (congrArg some (by kernel_rfl))⟩
 f11 := ⟨Tryz.f264.name, by decide, Tryz.func264.trans (congrArg some (by kernel_rfl))⟩
 t0 := Tryz.underlying0
 a0 := Tryz.isAgg0
 z0 := Tryz.sizeOf0
 v0 := Tryz.zeroValue0
 t24 := Tryz.underlying163
 a24 := Tryz.isAgg163
 z24 := Tryz.sizeOf163
 v24 := Tryz.zeroValue163
 t26 := Tryz.underlying9
 a26 := Tryz.isAgg9
 z26 := Tryz.sizeOf9
 v26 := Tryz.zeroValue9
 t28 := Tryz.underlying232
 a28 := Tryz.isAgg232
 z28 := Tryz.sizeOf232
 v28 := Tryz.zeroValue232
 i26 := by kernel_rfl }
def Tryz.sortN_ren : Go.Shelf.Ren := ⟨fun | 6 => 236 | 8 => 118 | 9 => 265 | 19 => 175 | 20 => 176 | 21 => 273 | 22 => 274 | 23 => 275 | 24 => 276 | 25 => 277 | 26 => 278 | 27 => 218 | 28 => 279 | 29 => 280 | 36 => 290 | 31 => 214 | 32 => 215 | 37 => 291 | 38 => 292 | 39 => 253 | 41 => 297 | n => n, fun | 27 => 163 | 29 => 9 | 3 => 3 | 32 => 180 | 26 => 163 | 0 => 0 | 44 => 224 | 46 => 22 | 4 => 4 | 36 => 217 | 35 => 216 | 41 => 221 | 5 => 5 | 9 => 9 | 53 => 253 | 57 => 256 | 63 => 277 | 64 => 278 | n => n, fun | n => n⟩
theorem Tryz.sortN : Go.Proofs.SlLaysM.n6 Tryz.prog Tryz.sortN_ren := {
 mixed := by kernel_rfl
 f6 := ⟨Tryz.f236.name, by decide, Tryz.func236.trans (congrArg some (by kernel_rfl))⟩
 f8 := Tryz.func118.trans (congrArg some (by kernel_rfl))
 f9 := ⟨Tryz.f265.name, by decide, Tryz.func265.trans (congrArg some (by kernel_rfl))⟩
 f19 := Tryz.func175.trans (congrArg some (by kernel_rfl))
 f20 := Tryz.func176.trans (congrArg some (by kernel_rfl))
 f21 := ⟨Tryz.f273.name, by decide, Tryz.func273.trans (congrArg some (by kernel_rfl))⟩
 f22 := ⟨Tryz.f274.name, by decide, Tryz.func274.trans (congrArg some (by kernel_rfl))⟩
 f23 := ⟨Tryz.f275.name, by decide, Tryz.func275.trans (congrArg some (by kernel_rfl))⟩
 f24 := ⟨Tryz.f276.name, by decide, Tryz.func276.trans (congrArg some (by kernel_rfl))⟩
 f25 := ⟨Tryz.f277.name, by decide, Tryz.func277.trans (congrArg some (by kernel_rfl))⟩
 f26 := ⟨Tryz.f278.name, by decide, Tryz.func278.trans (congrArg some (by kernel_rfl))⟩
 f27 := ⟨Tryz.f218.name, by decide, Tryz.func218.trans (congrArg some (by kernel_rfl))⟩
 f28 := ⟨Tryz.f279.name, by decide, Tryz.func279.trans (congrArg some (by kernel_rfl))⟩
 f29 := ⟨Tryz.f280.name, by decide, Tryz.func280.trans (congrArg some (by kernel_rfl))⟩
 f31 := Tryz.func214.trans (congrArg some (by kernel_rfl))
 f32 := Tryz.func215.trans (congrArg some (by kernel_rfl))
 f36 := ⟨Tryz.f290.name, by decide, Tryz.func290.trans (congrArg some (by kernel_rfl))⟩
 f37 := ⟨Tryz.f291.name, by decide, Tryz.func291.trans (congrArg some (by kernel_rfl))⟩
 f38 := ⟨Tryz.f292.name, by decide, Tryz.func292.trans (congrArg some (by kernel_rfl))⟩
 f39 := ⟨Tryz.f253.name, by decide, Tryz.func253.trans (congrArg some (by kernel_rfl))⟩
 f41 := ⟨Tryz.f297.name, by decide, Tryz.func297.trans (congrArg some (by kernel_rfl))⟩
 t0 := Tryz.underlying0
 a0 := Tryz.isAgg0
 z0 := Tryz.sizeOf0
 v0 := Tryz.zeroValue0
 t3 := Tryz.underlying3
 a3 := Tryz.isAgg3
 z3 := Tryz.sizeOf3
 v3 := Tryz.zeroValue3
 t4 := Tryz.underlying4
 a4 := Tryz.isAgg4
 z4 := Tryz.sizeOf4
 v4 := Tryz.zeroValue4
 t5 := Tryz.underlying5
 a5 := Tryz.isAgg5
 z5 := Tryz.sizeOf5
 v5 := Tryz.zeroValue5
 t9 := Tryz.underlying9
 a9 := Tryz.isAgg9
 z9 := Tryz.sizeOf9
 v9 := Tryz.zeroValue9
 t26 := Tryz.underlying163
 a26 := Tryz.isAgg163
 z26 := Tryz.sizeOf163
 v26 := Tryz.zeroValue163
 t27 := Tryz.underlying163
 a27 := Tryz.isAgg163
 z27 := Tryz.sizeOf163
 v27 := Tryz.zeroValue163
 t29 := Tryz.underlying9
 a29 := Tryz.isAgg9
 z29 := Tryz.sizeOf9
 v29 := Tryz.zeroValue9
 t32 := Tryz.underlying180
 a32 := Tryz.isAgg180
 z32 := Tryz.sizeOf180
 v32 := Tryz.zeroValue180
 t35 := Tryz.underlying216
 a35 := Tryz.isAgg216
 z35 := Tryz.sizeOf216
 v35 := Tryz.zeroValue216
 t36 := Tryz.underlying217
 a36 := Tryz.isAgg217
 z36 := Tryz.sizeOf217
 v36 := Tryz.zeroValue217
 t41 := Tryz.underlying221
 a41 := Tryz.isAgg221
 z41 := Tryz.sizeOf221
 v41 := Tryz.zeroValue221
 t44 := Tryz.underlying224
 a44 := Tryz.isAgg224
 z44 := Tryz.sizeOf224
 v44 := Tryz.zeroValue224
 t46 := Tryz.underlying22
 a46 := Tryz.isAgg22
 z46 := Tryz.sizeOf22
 v46 := Tryz.zeroValue22
 t53 := Tryz.underlying253
 a53 := Tryz.isAgg253
 z53 := Tryz.sizeOf253
 v53 := Tryz.zeroValue253
 t57 := Tryz.underlying256
 a57 := Tryz.isAgg256
 z57 := Tryz.sizeOf256
 v57 := Tryz.zeroValue256
 t63 := Tryz.underlying277
 a63 := Tryz.isAgg277
 z63 := Tryz.sizeOf277
 v63 := Tryz.zeroValue277
 t64 := Tryz.underlying278
 a64 := Tryz.isAgg278
 z64 := Tryz.sizeOf278
 v64 := Tryz.zeroValue278 }
def Tryz.sortP_ren : Go.Shelf.Ren := ⟨fun | 6 => 128 | 15 => 118 | 14 => 182 | 28 => 175 | 29 => 176 | 20 => 226 | 21 => 227 | 22 => 228 | 23 => 229 | 24 => 230 | 25 => 231 | 26 => 232 | 27 => 233 | 46 => 261 | 47 => 214 | 48 => 215 | 49 => 262 | 50 => 263 | 57 => 272 | n => n, fun | 22 => 41 | 24 => 107 | 25 => 191 | 3 => 3 | 39 => 180 | 0 => 0 | 53 => 224 | 55 => 22 | 4 => 4 | 46 => 217 | 45 => 216 | 50 => 221 | 5 => 5 | 9 => 9 | 66 => 253 | 70 => 256 | 76 => 277 | 77 => 278 | n => n, fun | n => n⟩
theorem Tryz.sortP : Go.Proofs.SlLaysF0.n6 Tryz.prog Tryz.sortP_ren := {
 mixed := by kernel_rfl
 f6 := ⟨Tryz.f128.name, by decide, Tryz.func128.trans (congrArg some (by kernel_rfl))⟩
 f14 := ⟨Tryz.f182.name, by decide, Tryz.func182.trans (congrArg some (by kernel_rfl))⟩
 f15 := Tryz.func118.trans (congrArg some (by kernel_rfl))
 f20 := ⟨Tryz.f226.name, by decide, Tryz.func226.trans (congrArg some (by kernel_rfl))⟩
 f21 := ⟨Tryz.f227.name, by decide, Tryz.func227.trans (congrArg some (by kernel_rfl))⟩
 f22 := ⟨Tryz.f228.name, by decide, Tryz.func228.trans (congrArg some (by kernel_rfl))⟩
 f23 := ⟨Tryz.f229.name, by decide, Tryz.func229.trans (congrArg some (by kernel_rfl))⟩
 f24 := ⟨Tryz.f230.name, by decide, Tryz.func230.trans (congrArg some (by kernel_rfl))⟩
 f25 := ⟨Tryz.f231.name, by decide, Tryz.func231.trans (congrArg some (by kernel_rfl))⟩
 f26 := ⟨Tryz.f232.name, by decide, Tryz.func232.trans (congrArg some (by kernel_rfl))⟩
 f27 := ⟨Tryz.f233.name, by decide, Tryz.func233.trans (congrArg some (by kernel_rfl))⟩
 f28 := Tryz.func175.trans (congrArg some (by kernel_rfl))
 f29 := Tryz.func176.trans (congrArg some (by kernel_rfl))
 f46 := ⟨Tryz.f261.name, by decide, Tryz.func261.trans (congrArg some (by kernel_rfl))⟩
 f47 := Tryz.func214.trans (congrArg some (by kernel_rfl))
 f48 := Tryz.func215.trans (congrArg some (by kernel_rfl))
 f49 := ⟨Tryz.f262.name, by decide, Tryz.func262.trans (congrArg some (by kernel_rfl))⟩
 f50 := ⟨Tryz.f263.name, by decide, Tryz.func263.trans (congrArg some (by kernel_rfl))⟩
 f57 := ⟨Tryz.f272.name, by decide, Tryz.func272.trans (congrArg some (by kernel_rfl))⟩
 t0 := Tryz.underlying0
 a0 := Tryz.isAgg0
 z0 := Tryz.sizeOf0
 v0 := Tryz.zeroValue0
 t3 := Tryz.underlying3
 a3 := Tryz.isAgg3
 z3 := Tryz.sizeOf3
 v3 := Tryz.zeroValue3
 t4 := Tryz.underlying4
 a4 := Tryz.isAgg4
 z4 := Tryz.sizeOf4
 v4 := Tryz.zeroValue4
 t5 := Tryz.underlying5
 a5 := Tryz.isAgg5
 z5 := Tryz.sizeOf5
 v5 := Tryz.zeroValue5
 t9 := Tryz.underlying9
 a9 := Tryz.isAgg9
 z9 := Tryz.sizeOf9
 v9 := Tryz.zeroValue9
 t22 := Tryz.underlying41
 a22 := Tryz.isAgg41
 z22 := Tryz.sizeOf41
 v22 := Tryz.zeroValue41
 t25 := Tryz.underlying191
 a25 := Tryz.isAgg191
 z25 := Tryz.sizeOf191
 v25 := Tryz.zeroValue191
 t39 := Tryz.underlying180
 a39 := Tryz.isAgg180
 z39 := Tryz.sizeOf180
 v39 := Tryz.zeroValue180
 t45 := Tryz.underlying216
 a45 := Tryz.isAgg216
 z45 := Tryz.sizeOf216
 v45 := Tryz.zeroValue216
 t46 := Tryz.underlying217
 a46 := Tryz.isAgg217
 z46 := Tryz.sizeOf217
 v46 := Tryz.zeroValue217
 t50 := Tryz.underlying221
 a50 := Tryz.isAgg221
 z50 := Tryz.sizeOf221
 v50 := Tryz.zeroValue221
 t53 := Tryz.underlying224
 a53 := Tryz.isAgg224
 z53 := Tryz.sizeOf224
 v53 := Tryz.zeroValue224
 t55 := Tryz.underlying22
 a55 := Tryz.isAgg22
 z55 := Tryz.sizeOf22
 v55 := Tryz.zeroValue22
 t66 := Tryz.underlying253
 a66 := Tryz.isAgg253
 z66 := Tryz.sizeOf253
 v66 := Tryz.zeroValue253
 t70 := Tryz.underlying256
 a70 := Tryz.isAgg256
 z70 := Tryz.sizeOf256
 v70 := Tryz.zeroValue256
 t76 := Tryz.underlying277
 a76 := Tryz.isAgg277
 z76 := Tryz.sizeOf277
 v76 := Tryz.zeroValue277
 t77 := Tryz.underlying278
 a77 := Tryz.isAgg278
 z77 := Tryz.sizeOf278
 v77 := Tryz.zeroValue278 }
end Go.Proofs
