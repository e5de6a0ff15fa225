import Derived.Test.YtdpbllacfljmoaaGreatZF47
import Derived.Test.YtdpbllacfljmoaaGreatZF26
import Derived.Deep.LoopGhost
set_option maxRecDepth 100000
set_option maxHeartbeats 16000000
set_option linter.unusedVariables false
namespace Go.Proofs.YtdpbllacfljmoaaGreat
open Go.RowKit
instance : Inhabited MP := ⟨⟨[], [], none, 0⟩⟩
abbrev BlkP (w : World) (lo g cap : Nat) (l : List MP) : Prop := BlkG 107 2 q0e w lo g cap l
def q8a (l : List MP) : Prop := l.Pairwise fun x y => blo x.k y.k = true
def cfP (x y : MP) : Int := Lib.compareBytes x.k y.k
theorem ltP (x y : MP) : ltOf cfP x y = blt x.k y.k := by
 unfold ltOf cfP
 exact q7B _ _
theorem swoP : Go.Sort.SWO (ltOf cfP) where
 irrefl x := by rw [ltP]; exact q0V _
 trans x y z h1 h2 := by rw [ltP] at *; exact q0p h1 h2
 ntrans x y z h1 h2 := by
  rw [ltP] at *
  cases h : blt x.k z.k
  ·rfl
  ·have a1 : blo y.k x.k = true := by simp [blo, h1]
   have a2 : blo z.k y.k = true := by simp [blo, h2]
   have := q5t h (q1i a2 a1)
   rw [q0V] at this
   cases this
theorem q6g (l : List MP) : Go.Sort.flatK q0e 2 l.toArray = (q0g q0e l).toArray := by
 refine Go.Sort.ext_get! ?_ fun t ht => ?_
 ·rw [Go.Sort.size_flatK, List.size_toArray, List.size_toArray, mpF.flat_len]
 ·have ht' : t < l.toArray.size * 2 := by simpa using ht
  have hq : t / 2 < l.length := by simp at ht'; omega
  rw [Go.Sort.get_flatK _ _ _ _ ht']
  have e := mpF.flat_at l (t / 2) hq (t % 2) (by omega)
  rw [show t / 2 * 2 + t % 2 = t by omega] at e
  have hl : t < (q0g q0e l).length := by rw [mpF.flat_len]; simpa using ht'
  have h2 : t % 2 < (q0e (l[t / 2]'hq)).length := by simp only [q0e, List.length_cons, List.length_nil]; omega
  rw [List.getElem?_eq_getElem hl, List.getElem?_eq_getElem h2] at e
  injection e with e
  have e1 : l.toArray[t / 2]! = l[t / 2]'hq := by simp [hq]
  rw [e1, getElem!_pos (q0g q0e l).toArray t (by simpa using hl), List.getElem_toArray, e, List.getElem!_eq_getElem?_getD, List.getElem?_eq_getElem h2]
  rfl
section
variable {w : World} {lo b cap : Nat} {l : List MP}
theorem BlkP.holds (h : BlkP w lo b cap l) : Go.Sort.HoldsK q0e 2 w b 0 l.toArray := by
 obtain ⟨cur, h2, _, hc⟩ := h.cur
 intro j hj
 rw [q6g] at hj ⊢
 have hj' : j < (q0g q0e l).length := by simpa using hj
 refine ⟨?_, h.frozen _⟩
 rw [cell_of_row w b _ _ _ _ h2, Nat.zero_add, getElem!_pos _ j hj, List.getElem_toArray]
 exact hc j _ (List.getElem?_eq_getElem hj')
theorem qch {w : World} {b : Nat} {cur : Array Value} {e : TypeId} (h : w.heap[b]? = some (.cells cur e (0, 0))) (m : Nat) (d : Array MP) (os : Array Obj) :
  (sortWorldK q0e 2 w b 0 m d os).heap[b]? = some (.cells (Go.Sort.putCells id 0 (Go.Sort.flatK q0e 2 d) cur) e (0, 0)) := by
 have hlt := q00 h
 unfold sortWorldK Go.Sort.grow Go.Sort.putRowK Go.Sort.putRow Go.Sort.mapBlock
 simp only
 rw [Array.getElem?_append_left (by simpa [Go.Sort.ahead] using hlt), Array.getElem?_modify, if_pos rfl]
 rw [show (Go.Sort.ahead w m).heap = w.heap from rfl, h]
 rfl
theorem BlkP.sorted (h : BlkP w lo b cap l) (m : Nat) (d : Array MP) (os : Array Obj) (hd : d.size = l.length) : BlkP (sortWorldK q0e 2 w b 0 m d os) lo b cap d.toList := by
 obtain ⟨cur, h1, h2, h3, h4, h5, h6⟩ := h
 have hl : d.toList.length = l.length := by rw [Array.length_toList, hd]
 refine ⟨_, h1, qch h2 m d os, by rw [hl]; exact h3, h4, by simp [Go.Sort.putCells, h5], ?_⟩
 have e : Go.Sort.flatK q0e 2 d = (q0g q0e d.toList).toArray := by rw [← q6g]
 rw [e, hl]
 apply List.ext_getElem?
 intro i
 rw [List.getElem?_take]
 by_cases hi : i < l.length * 2
 ·rw [if_pos hi, Array.getElem?_toList]
  have hi2 : i < cur.size := by omega
  have hi3 : i < (q0g q0e d.toList).length := by rw [mpF.flat_len, hl]; exact hi
  unfold Go.Sort.putCells
  rw [Array.getElem?_mapIdx, Array.getElem?_eq_getElem hi2, Option.map_some, if_pos ⟨Nat.zero_le _, by simp only [List.size_toArray]; omega⟩, Nat.sub_zero, getElem!_pos _ i (by simpa using hi3), List.getElem_toArray, List.getElem?_eq_getElem hi3]
  rfl
 ·rw [if_neg hi, List.getElem?_eq_none (by rw [mpF.flat_len, hl]; omega)]
theorem qan {w : World} {lo b : Nat} (h1 : lo ≤ b) (h2 : lo ≤ w.heap.size) (m : Nat) (d : Array MP) (os : Array Obj) : Below lo w (sortWorldK q0e 2 w b 0 m d os) := by
 refine ⟨rfl, rfl, rfl, ?_, fun k hk => ?_⟩
 ·unfold sortWorldK Go.Sort.grow Go.Sort.putRowK Go.Sort.putRow Go.Sort.mapBlock Go.Sort.ahead
  simp
 ·unfold sortWorldK Go.Sort.grow Go.Sort.putRowK Go.Sort.putRow Go.Sort.mapBlock Go.Sort.ahead
  simp only
  rw [Array.getElem?_append_left (by simp; omega), Array.getElem?_modify, if_neg (by omega)]
end
theorem q82 {d : Array MP} (h : Go.Sort.SortedIn (ltOf cfP) 0 d.size d) : q8a d.toList := by
 unfold q8a
 rw [List.pairwise_iff_getElem]
 intro i j hi hj hij
 have hi' : i < d.size := by simpa using hi
 have hj' : j < d.size := by simpa using hj
 have e := h i j (Nat.zero_le _) hij hj'
 rw [ltP, getElem!_pos d i hi', getElem!_pos d j hj'] at e
 rw [Array.getElem_toList, Array.getElem_toList]
 simp [blo, e]
theorem qdX {d d' : Array MP} (h : Go.Sort.PermIn 0 d.size d d') (x : MP) : x ∈ d'.toList ↔ x ∈ d.toList := by
 obtain ⟨h1, _, h3⟩ := h
 have e := h3.mem_iff (a := x)
 have a1 : d'.extract 0 d.size = d' := by rw [← h1]; exact Array.extract_size
 have a2 : d.extract 0 d.size = d := Array.extract_size
 rwa [a1, a2] at e
theorem qdQ (x y : MP) (W : World) : Calls Tryz.prog 129 #[valP x, valP y] W fun e w' => e = .returned (.int .i64 (cfP x y)) ∧ ∃ q os', w' = Go.Sort.grow (W.drewN q) os' := by
 unfold valP q0e
 have hcon := fun W' => Any.strings_Compare Tryz.lays106 (bs x.k) (bs y.k) W'
 change ∀ W', Calls Tryz.prog 130 _ _ _ at hcon
 have e : Lib.compareBytes (bs x.k).data.toList (bs y.k).data.toList = cfP x y := rfl
 rw [e] at hcon
 generalize cfP x y = r at hcon ⊢
 clear e
 go_enter Tryz.func129, Tryz.ntmps129
 go_wp2_with (go_at_call 130; refine (hcon _).mono ?_; rintro e w' ⟨rfl, rfl⟩)
 go_ret
 exact ⟨rfl, 0, _, by rw [Go.Sort.alloc_eq_grow, Go.Sort.alloc_eq_grow, Go.Sort.grow_grow]; rfl⟩
theorem qbG {w0 w : World} (l : List MP) (v : Value) (hl : l.length ≤ 2000000) (ho : OwnG 107 2 q0e w w0.heap.size v l) (hb0 : Below w0.heap.size w0 w) :
  Calls Tryz.prog 128 #[v, .func (.func 129) #[] #[]] w fun e w' => e = .returned (.tuple #[]) ∧ ∃ m : List MP, (∀ x, x ∈ m ↔ x ∈ l) ∧ m.length = l.length ∧ m.Perm l ∧ q8a m ∧ OwnG 107 2 q0e w' w0.heap.size (match v with | .slice A _ c => .slice A m.length c | u => u) m ∧ Below w0.heap.size w0 w' ∧ ∀ k, k < w.heap.size → v.ownBlock ≠ some k → w'.heap[k]? = w.heap[k]? := by
 rcases ho.blkG with ⟨rfl, rfl⟩ | ⟨g, cap, rfl, hbk⟩
 ·have hs := AnyF.slices_SortFunc_none Tryz.sortP none 0 (.func (.func 129) #[] #[]) w
  change Calls Tryz.prog 128 _ _ _ at hs
  exact hs.mono fun _ _ q => ⟨q.1, [], fun _ => Iff.rfl, rfl, List.Perm.refl _, List.Pairwise.nil, OwnG.none_ _ _ _ _ _, by rw [q.2]; exact hb0, fun _ _ _ => by rw [q.2]⟩
 ·have eg : ∀ args w, (callFunc 129 args).run Tryz.prog w = .ok (.enter 129 args) w := enters_of Tryz.func129 (by kernel_rfl) rfl
  have hcmp : CmpLays Tryz.prog 129 #[] q0e 2 cfP g 0 l.toArray.size w := fun m os dk _ x y => qdQ x y _
  have hcon := AnyQ.slices_SortFunc Tryz.sortP 2 Tryz.isAgg107 Tryz.sizeOf107 q0e (fun _ => rfl) mpF.one cfP swoP 129 #[] g 0 cap l.toArray w eg hcmp (BlkP.holds hbk) hbk.lt.2 (by simp; omega)
  change Calls Tryz.prog 128 #[.slice (some ⟨g, 0, none⟩) l.length cap, _] _ _ at hcon
  refine hcon.mono ?_
  rintro e w2 ⟨rfl, d, n, os, hp, hs, rfl⟩
  have hd : d.size = l.length := by rw [hp.1]; simp
  have hm := qdX hp
  have hr := q82 (d := d) (by rw [hp.1]; exact hs)
  have hbd := BlkP.sorted hbk n d os hd
  have hdl : d.toList.length = l.length := by rw [Array.length_toList, hd]
  refine ⟨rfl, d.toList, fun x => hm x, hdl, ?_, hr, ?_, ?_, fun k hk hne => ?_⟩
  ·obtain ⟨h1, _, h3⟩ := hp
   have a1 : d.extract 0 l.toArray.size = d := by rw [← h1]; exact Array.extract_size
   have a2 : l.toArray.extract 0 l.toArray.size = l.toArray := Array.extract_size
   rw [a1, a2] at h3
   simpa using h3
  ·exact hbd.own mpF
  ·exact hb0.trans (qan hbk.lt.1 hb0.size n d os)
  ·unfold sortWorldK Go.Sort.grow Go.Sort.putRowK Go.Sort.putRow Go.Sort.mapBlock Go.Sort.ahead
   simp only
   rw [Array.getElem?_append_left (by simp; omega), Array.getElem?_modify, if_neg (fun e => hne (by rw [← e]; rfl))]
theorem q70 {s : Sp} {ws : List Wr} : ∀ done : List KeyS, ((q4w s ws done).map Prod.fst).Sublist done
 | [] => List.Sublist.slnil
 | k :: done => by
  have ih := q70 (s := s) (ws := ws) done
  unfold q4w at ih ⊢
  rw [List.filterMap_cons]
  cases hf : ws.find? (fun y => y.key == k) with
  | none => exact ih.cons _
  | some y =>
   have hy : y.key = k := by simpa using List.find?_some hf
   simp only [Option.bind_some]
   by_cases hc : q32 s.lo s.hi y = true
   ·rw [if_pos hc]
    simp only [List.map_cons]
    rw [hy]
    exact ih.cons_cons _
   ·rw [if_neg hc]
    exact ih.cons _
theorem qc3 {s : Sp} {ws : List Wr} {l : List (KeyS × List UInt8)} {done : List KeyS} (hl : q48 l) (hn : done.Nodup) : ((q7O ws l ++ q4w s ws done).map Prod.fst).Nodup := by
 rw [List.map_append, List.nodup_append]
 refine ⟨?_, (q70 done).nodup hn, fun a ha c hc e => ?_⟩
 ·have h1 : q48 (q7O ws l) := List.Pairwise.filter _ hl
  have h2 : ((q7O ws l).map Prod.fst).Pairwise fun a b => blt a b = true := List.pairwise_map.2 h1
  exact h2.imp fun {a b} h e => by rw [e, q0V] at h; cases h
 ·obtain ⟨q, hq, rfl⟩ := List.mem_map.1 ha
  obtain ⟨z, hz, rfl⟩ := List.mem_map.1 hc
  have h1 := (List.mem_filter.1 hq).2
  unfold q4w at hz
  obtain ⟨k, _, ez⟩ := List.mem_filterMap.1 hz
  cases hf : ws.find? (fun y => y.key == k) with
  | none => rw [hf] at ez; cases ez
  | some y =>
   rw [hf] at ez
   simp only [Option.bind_some] at ez
   split at ez
   ·injection ez with ez
    have hy : y.key = k := by simpa using List.find?_some hf
    rw [e, ← ez] at h1
    simp only at h1
    rw [hy, hf] at h1
    simp at h1
   ·cases ez
theorem q7V {m : List MP} (h : q8a m) (hn : ((m.map MP.p).map Prod.fst).Nodup) : q48 (m.map MP.p) := by
 unfold q48
 rw [List.pairwise_map]
 have h2 : m.Pairwise fun x y => x.k ≠ y.k := by
  rw [List.map_map] at hn
  exact List.pairwise_map.1 hn
 refine (List.Pairwise.and h h2).imp fun {x y} ⟨q1, q2⟩ => ?_
 show blt x.k y.k = true
 rcases q2c x.k y.k with e | e | e
 ·exact e
 ·exact absurd e q2
 ·exact absurd (qaG q1 (by unfold blo; rw [q1Z e]; rfl)) q2
open Go.RowKit
section
variable {w w' w0 w1 w2 : World} {o p : Nat} {ρ ρ' ρ0 ρ1 ρ2 : q0o} {L : LimT} {b b' : q08} {ps B : Nat} {P P' : Nat → TxP} {rv hv : Value} {F F' : Nat → Prop} {t t' : TxS} {X : Nat → Prop}
theorem qcV {w0 : World} (hb0 : Below w0.heap.size w0 w) (h : RawB w o p ρ L b ps B P rv hv) (ht : t ∈ b.live) (hri : q4q t.ws) (hwl : t.ws.length ≤ 330) (hws : ∀ x ∈ t.ws, q2q x) (lo hi : KeyS) (ms : List MP) (v : Value) (ho : OwnG 107 2 q0e w w0.heap.size v ms) (hfar : ∀ x ∈ ms, FarP w0 w v x) (hz : ∀ k, w0.heap.size ≤ k → ρ k = 0) (hl : ms.length ≤ 1048576)
  (hrp : q48 (ms.map MP.p)) (hin : ∀ p ∈ ms.map MP.p, hasS ⟨lo, hi⟩ p.1 = true) :
  Calls Tryz.prog 82 #[ptrS (P t.id).q, v, .agg #[.string (bs lo), .string (bs hi)]] w fun r w' => ∃ A c, r = .returned (.slice A (q4h lo hi t.ws (ms.map MP.p)).length c) ∧ PaS w' (fun k => w0.heap.size ≤ k) A c (q4h lo hi t.ws (ms.map MP.p)) ∧ Below w0.heap.size w0 w' := by
 obtain ⟨w1, hw1⟩ : ∃ y, w.alloc (.cells #[ptrS (P t.id).q] 114) = y := ⟨_, rfl⟩
 obtain ⟨w2, hw2⟩ : ∃ y, w1.alloc (.cells #[.string (bs lo), .string (bs hi)] 131) = y := ⟨_, rfl⟩
 have hb1 : Below w.heap.size w w1 := by rw [← hw1]; exact (Below.refl _ w).alloc (Nat.le_refl _) _
 have hb2 : Below w1.heap.size w1 w2 := by rw [← hw2]; exact (Below.refl _ w1).alloc (Nat.le_refl _) _
 have hx1 : w1.heap[w.heap.size]? = some (.cells #[ptrS (P t.id).q] 114 (0, 0)) := by rw [← hw1]; exact heap_alloc_new w _
 have hx2 : w2.heap[w1.heap.size]? = some (.cells #[.string (bs lo), .string (bs hi)] 131 (0, 0)) := by rw [← hw2]; exact heap_alloc_new w1 _
 have hx12 := q01 hx1 hb2 (q00 hx1)
 have hb12 := hb1.trans (hb2.mono hb1.size)
 have hsz : w1.heap.size = w.heap.size + 1 := by rw [← hw1]; simp
 have hsz2 : w2.heap.size = w1.heap.size + 1 := by rw [← hw2]; simp
 have hs0 := hb0.size
 have hvl := ho.lt
 have hd := q8r (hb0.trans (hb12.mono hb0.size)) (h.below hb12) ht ms v (ho.below hb12) hz w.heap.size (by rw [cell_of_row w2 _ 0 _ _ _ hx12]; rfl) (fun g hg e => by have := hvl g hg; omega) (by omega)
 have HD := qh hd
 have HW1 := qh hw1
 have HW2 := qh hw2
 have HKept := qh (show (ms.filter fun x => !hasW t.ws x.k).map MP.p = q7O t.ws (ms.map MP.p) by unfold q7O; rw [List.filter_map]; rfl)
 have hkl : (ms.filter fun x => !hasW t.ws x.k).length ≤ 1048576 := Nat.le_trans (List.length_filter_le ..) hl
 have hsub : ∀ x ∈ (ms.filter fun x => !hasW t.ws x.k), x ∈ ms := fun x hx => (List.mem_filter.1 hx).1
 have hafter : ∀ (w3 : World) (A : Option Addr) (c : Nat) (kms : List MP), (∀ x ∈ kms, x ∈ ms) → OwnG 107 2 q0e w3 w0.heap.size (.slice A kms.length c) kms → Below w0.heap.size w0 w3 → (∀ k, k < w2.heap.size → v.ownBlock ≠ some k → w3.heap[k]? = w2.heap[k]?) → w2.heap.size ≤ w3.heap.size → (∀ g, (Value.slice A kms.length c).ownBlock = some g → v.ownBlock = some g) →
   w3.cell? ⟨w.heap.size, 0, none⟩ = some (ptrS (P t.id).q) ∧ w3.cell? ⟨(P t.id).q, 3, none⟩ = some (.map (some (P t.id).m)) ∧ ∃ wr, (Instr.range 115 (.map (some (P t.id).m))).run Tryz.prog w3 = .ok (.pointer (some ⟨w3.heap.size, 0, none⟩)) wr ∧ q4U w0 (P t.id).m w3.heap.size w1.heap.size lo hi (wrF t.ws (P t.id).ad) (.slice A kms.length c) [] kms wr := by
  intro w3 A c kms hks ho3 hb3 hk3 hs3 hA
  have hraw3 : RawB w3 o p ρ L b ps B P rv hv := h.keep (fun k hk => by
   have hlt : k < w0.heap.size := Decidable.byContradiction fun e => hk (hz k (by omega))
   exact (hb3.block k hlt).trans (hb0.block k hlt).symm) (by omega)
  have htx := hraw3.txs t ht
  obtain ⟨wr, hr0, hR0, hg0, hs0'⟩ := htx.map.range (P := Tryz.prog) (t := 115) (kt := 9) (et := 37) Tryz.underlying115
  have hbr : Below w3.heap.size w3 wr := (Below.refl w3.heap.size w3).grown hg0 (Nat.le_refl _) (fun k hk => by cases hk)
  have hmlt : (P t.id).m < w0.heap.size := Decidable.byContradiction fun e => by have h1 := htx.rm; have := hz _ (show w0.heap.size ≤ (P t.id).m by omega); omega
  refine ⟨?_, htx.map_, wr, hr0, ho3.below hbr, fun x hx => ?_, hR0, hb3.trans (hbr.mono hb3.size), ?_, fun g hg => ?_, hmlt, hb3.size, by omega⟩
  ·rw [cell_of_row w3 _ 0 _ _ _ ((hk3 w.heap.size (by omega) (fun e => by have := hvl _ e; omega)).trans hx12)]
   rfl
  ·refine ByS.keep (hfar x (hks x hx)) fun g hg hgl => ⟨(hbr.block g (by omega)).trans ((hk3 g (by omega) hg.2).trans (hb12.block g hgl)), hg.1, fun e => hg.2 (hA g e), by omega⟩
  ·exact (hbr.block _ (by omega)).trans ((hk3 _ (by omega) (fun e => by have := hvl _ e; omega)).trans hx2)
  ·have := hvl g (hA g hg)
   exact ⟨by omega, by omega⟩
 have HAfter := qh hafter
 have HRp := qh hrp
 have HWs := qh hws
 have HFin : Hid (∀ m : List (KeyS × List UInt8), q48 m → (∀ q, q ∈ m ↔ q ∈ q7O t.ws (ms.map MP.p) ++ q4w ⟨lo, hi⟩ t.ws (t.ws.map Wr.key)) → m = q4h lo hi t.ws (ms.map MP.p)) := qh fun m hm hq => by
  refine qga hri hrp hin hm fun q => ?_
  rw [hq, List.mem_append, q5W hri (fun y hy => List.mem_map.2 ⟨y, hy, rfl⟩)]
 have HRi := qh hri
 have HAd : Hid (∀ y ∈ t.ws, ∀ W : World, Below w0.heap.size w0 W → w.heap.size ≤ W.heap.size → SlI W 0 W.heap.size ((P t.id).ad y.key).1 ((P t.id).ad y.key).2 y.dat) := qh fun y hy W hb hs => by
  have hrawW : RawB W o p ρ L b ps B P rv hv := h.keep (fun k hk => by
   have hlt : k < w0.heap.size := Decidable.byContradiction fun e => hk (hz k (by omega))
   exact (hb.block k hlt).trans (hb0.block k hlt).symm) hs
  exact ((hrawW.txs t ht).dat y hy).sl
 generalize (ms.filter fun x => !hasW t.ws x.k) = kms at *
 clear hb0 h ht hri hws ho hfar hz hrp hin hb1 hb2 hx1 hx2 hx12 hb12 hd hw1 hw2 hafter hvl
 rw [hsz] at HAfter
 unfold ptrS at HW1 HAfter ⊢
 go_enter Tryz.func82, Tryz.ntmps82
 go_upto_region 1 with fail
 rw [HW1.out, HW2.out]
 go_wp2_with fail
 refine HD.out.mono ?_
 rintro e w3 ⟨A3, c3, rfl, ho3, hb3, hk3, hs3, hA3⟩
 obtain ⟨k1, k2, wr0, hrun, hM0⟩ := HAfter.out w3 A3 c3 kms hsub ho3 hb3 hk3 hs3 hA3
 have HM0 := qh hM0
 have HS3 := qh hs3
 clear hM0 ho3 hb3 hk3 hs3 hA3 HAfter HD hsub
 have HKs := qh (show kms.length ≤ 1048576 from hkl)
 go_wp2_with fail
 go_loopw [7] (fun u wr => ∃ (done : List KeyS) (ms' : List MP), q4U w0 (P t.id).m w3.heap.size (w.heap.size + 1) lo hi (wrF t.ws (P t.id).ad) u done ms' wr ∧ ms'.map MP.p = kms.map MP.p ++ q4w ⟨lo, hi⟩ t.ws done ∧ done.Nodup ∧ (∀ k ∈ done, k ∈ t.ws.map Wr.key) ∧ w.heap.size ≤ wr.heap.size) (fun _ wr => wr.rangeLeft (P t.id).m w3.heap.size)
 case atStart => exact ⟨[], kms, HM0.out, by simp [q4w], List.nodup_nil, (fun _ h => by cases h), by have := HM0.out.rng.lt; have := HS3.out; omega⟩
 case round =>
  obtain ⟨done, ms', hM, hall, hnd, hsb, hsz9⟩ := hrel
  have HM := qh hM
  have HAll := qh hall
  have HNd := qh hnd
  have HSb := qh hsb
  rcases hM.rng.next (P := Tryz.prog) 0 with ⟨hd, hnx⟩ | ⟨k, v', wn, hf, hnot, hnx, hR1, hg1, hs1, hen, hlt⟩
  ·have hlen := qb4 hall hnd hsb
   rw [List.length_map] at hlen
   have HSo := qh (qbG (w0 := w0) ms' u7 (by have := HKs.out; omega) hM.row hM.new)
   obtain ⟨A9, c9, hu9, _⟩ := hM.row.form
   have hdk : ∀ y ∈ t.ws, y.key ∈ done := fun y hy => hd y.key (by unfold wrF; rw [q5B HRi.out hy]; rfl)
   have HEnd : Hid (∀ m : List MP, (∀ x, x ∈ m ↔ x ∈ ms') → m.Perm ms' → q8a m → m.map MP.p = q4h lo hi t.ws (ms.map MP.p)) := qh fun m hm hp hr => by
    have hall2 := HAll.out
    rw [HKept.out] at hall2
    have hnd2 : ((ms'.map MP.p).map Prod.fst).Nodup := by rw [hall2]; exact qc3 HRp.out HNd.out
    have hnd3 : ((m.map MP.p).map Prod.fst).Nodup := ((hp.map MP.p).map Prod.fst).nodup_iff.2 hnd2
    refine HFin.out _ (q7V hr hnd3) fun q => ?_
    rw [(hp.map MP.p).mem_iff, hall2, List.mem_append, List.mem_append, q5W HRi.out hdk, q5W HRi.out fun y hy => List.mem_map.2 ⟨y, hy, rfl⟩]
   subst hu9
   clear hall hnd hsb hd hdk
   go_wp2_with fail
   refine HSo.out.mono ?_
   rintro e w9 ⟨rfl, m, hm1, hm2, hm3, hm4, ho9, hb9, hk9⟩
   have HE9 := qh (HEnd.out m hm1 hm3 hm4)
   have HM1 := qh hm1
   have HL9 := qh hm2
   have HO9 := qh ho9
   have HB9 := qh hb9
   have HK9 := qh hk9
   clear hm1 hm2 hm3 hm4 ho9 hb9 hk9 HSo
   go_wp2_with fail
   go_ret
   obtain ⟨A', c', e', j1, j2, j3, j4⟩ := HO9.out.form
   injection e' with e1 _ e2
   subst e1 e2
   have hll : (q4h lo hi t.ws (ms.map MP.p)).length = m.length := by rw [← HE9.out, List.length_map]
   refine ⟨A9, c9, by rw [hll, HL9.out]; rfl, ⟨by rw [hll]; exact j1, j2, j3, m, HE9.out, fun hn => ?_, fun x hx => ?_⟩, HB9.out⟩
   ·obtain ⟨b', o', eA, g1, g2, hc⟩ := j4 hn
    exact ⟨b', o', eA, g1, hc⟩
   ·exact ByS.keep (HM.out.far x ((HM1.out x).1 hx)) fun g hg hgl => ⟨HK9.out g hgl hg.2.1, hg.1⟩
  ·obtain ⟨y, hfy, hy, rfl, rfl⟩ := qfD hf
   have hM1 := hM.next hg1 hR1
   have HMo := qh (qbs ⟨lo, hi⟩ t.ws done hfy)
   have HNd1 := qh (show (done ++ [y.key]).Nodup from List.nodup_append.2 ⟨hnd, by simp, by
    intro a ha c hc
    rw [List.mem_singleton] at hc
    rw [hc]
    exact fun e => hnot (by rw [← e]; exact ha)⟩)
   have HSb1 := qh (show ∀ k ∈ done ++ [y.key], k ∈ t.ws.map Wr.key from fun k hk => by
    rcases List.mem_append.1 hk with q | q
    ·exact hsb k q
    ·rw [List.mem_singleton] at q
     rw [q]
     exact List.mem_map.2 ⟨y, hy, rfl⟩)
   have hyw := HWs.out y hy
   have HY := qh hy
   have HNot := qh hnot
   have hlen1 := qb4 hall hnd hsb
   rw [List.length_map] at hlen1
   obtain ⟨w5, hw5⟩ : ∃ z, wn.alloc (.cells #[.string (bs y.key), .bool y.gone, .slice ((P t.id).ad y.key).1 y.dat.length ((P t.id).ad y.key).2] 37) = z := ⟨_, rfl⟩
   have hb5 : Below wn.heap.size wn w5 := by rw [← hw5]; exact (Below.refl _ wn).alloc (Nat.le_refl _) _
   have hx5 : w5.heap[wn.heap.size]? = some (.cells #[.string (bs y.key), .bool y.gone, .slice ((P t.id).ad y.key).1 y.dat.length ((P t.id).ad y.key).2] 37 (0, 0)) := by rw [← hw5]; exact heap_alloc_new wn _
   have hM5 := hM1.below hb5
   have HM5 := qh hM5
   have HW5 := qh hw5
   have HX5 := qh hx5
   have hsz5 : w.heap.size ≤ w5.heap.size := by have := hb5.size; omega
   have i1 := cell_of_row w5 _ 1 _ _ _ hx5
   have i2 := cell_of_row w5 _ 2 _ _ _ hx5
   have i3 := cell_of_row w5 _ 0 _ _ _ hM5.box
   have i4 := cell_of_row w5 _ 1 _ _ _ hM5.box
   clear hM hM1 hM5 hall hnd hsb hf hnot hR1 hg1 hs1 hlt hfy hy hw5 hx5 hb5
   simp only [strK, keyV] at hnx hen
   unfold q4o at hnx hen
   go_upto_region 5 with fail
   rw [HW5.out]
   clear HW5 hnx hen
   have HMs : Hid (∀ (W : World) (u : Value) (m : List MP), q4U w0 (P t.id).m w3.heap.size (w.heap.size + 1) lo hi (wrF t.ws (P t.id).ad) u (done ++ [y.key]) m W → W.rangeLeft (P t.id).m w3.heap.size < wr.rangeLeft (P t.id).m w3.heap.size) := qh fun W u m hW => q0W.left HM.out.rng hW.rng HNot.out ((hW.new.block _ hW.m0).trans (HM.out.new.block _ HM.out.m0).symm)
   cases hyg : y.gone with
   | true =>
    rw [hyg] at i1
    have HNo := qh (show q32 lo hi y = false by unfold q32; rw [hyg]; rfl)
    go_wp2_with fail
    go_roundw
    case rel => exact ⟨done ++ [y.key], ms', HM5.out, by rw [HAll.out, HMo.out, if_neg (by rw [HNo.out]; simp), List.append_nil], HNd1.out, HSb1.out, hsz5⟩
    case measure => exact HMs.out _ _ _ HM5.out
   | false =>
    rw [hyg] at i1
    have HHas := qh (qap.has ⟨lo, hi⟩ y.key w5)
    unfold q0T at HHas
    simp only at HHas
    go_wp2_with fail
    refine HHas.out.mono ?_
    rintro e w6 ⟨rfl, hb6⟩
    have HB6 := qh hb6
    have hM6 := HM5.out.below hb6
    have HM6 := qh hM6
    have hsz6 : w.heap.size ≤ w6.heap.size := by have := hb6.size; omega
    have i2' := cell_of_row w6 _ 2 _ _ _ (q01 HX5.out hb6 (q00 HX5.out))
    clear hb6 hM6 HHas
    cases hh : hasS ⟨lo, hi⟩ y.key with
    | false =>
     have HNo := qh (show q32 lo hi y = false by unfold q32; rw [hyg, hh]; rfl)
     go_wp2_with fail
     go_roundw
     case rel => exact ⟨done ++ [y.key], ms', HM6.out, by rw [HAll.out, HMo.out, if_neg (by rw [HNo.out]; simp), List.append_nil], HNd1.out, HSb1.out, hsz6⟩
     case measure => exact HMs.out _ _ _ HM6.out
    | true =>
     have HYes := qh (show q32 lo hi y = true by unfold q32; rw [hyg, hh]; rfl)
     have hcl := q1S y.dat ((P t.id).ad y.key).1 ((P t.id).ad y.key).2 w6.heap.size w6 (by have := hyw.2; omega) (HAd.out y HY.out w6 HM6.out.new hsz6).sl (Nat.le_refl _)
     have HCl := qh hcl
     clear hcl
     go_wp2_with fail
     refine HCl.out.mono ?_
     rintro e w7 ⟨A7, c7, rfl, hd7, hb7⟩
     have HD7 := qh hd7
     have HB7 := qh hb7
     have HM7 := qh (HM6.out.below hb7)
     clear hd7 hb7 HCl
     have hbase := HM7.out.new.size
     go_wp2_with (at_builtin; refine q13 _ rfl _ _ 41 107 40 mpF qgf Tryz.underlying41 rfl w0.heap.size _ ms' rfl (HM7.out.row.allocs _) w7.heap.size (w7.heap.size + 1) ⟨w7.heap.size, 0, none⟩ 1 1 [⟨y.key, y.dat, A7, c7⟩] rfl rfl (RowG.one (cs := q0e) (heap_alloc_new w7 _)) (by simp only [List.length_singleton]; unfold maxLen; omega) (by simp only [List.length_singleton]; omega) (by simp; omega) ?_; intro v1 w8 ho8 hg8 hat8; have HO8 := qh ho8; have HG8 := qh hg8; have HAt8 := qh hat8; clear ho8 hg8 hat8)
     have hM8 := q4U.push (x := ⟨y.key, y.dat, A7, c7⟩) HM6.out (HB7.out.alloc HB7.out.size _) HO8.out HG8.out HAt8.out (ByS.keep (HD7.out.byS (R := fun k => w6.heap.size ≤ k ∧ k < w7.heap.size) fun k g1 g2 => ⟨g1, g2⟩) fun g hg hgl => ⟨((Below.refl _ w7).alloc (Nat.le_refl _) _).block g hgl, hg.1, by simp; omega⟩)
     have HM8 := qh hM8
     have hsz8 : w.heap.size ≤ w8.heap.size := by have h1 := HG8.out.size; have h2 := HB7.out.size; simp at h1; omega
     clear hM8 HO8 HG8 HAt8
     go_roundw
     case rel => exact ⟨done ++ [y.key], ms' ++ [⟨y.key, y.dat, A7, c7⟩], HM8.out, by rw [List.map_append, HAll.out, HMo.out, if_pos HYes.out, List.append_assoc]; rfl, HNd1.out, HSb1.out, hsz8⟩
     case measure => exact HMs.out _ _ _ HM8.out
end
end Go.Proofs.YtdpbllacfljmoaaGreat
