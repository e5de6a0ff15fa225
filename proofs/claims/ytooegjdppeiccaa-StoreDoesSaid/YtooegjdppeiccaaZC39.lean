import Derived.Test.YtooegjdppeiccaaZC36
import Derived.Test.YtooegjdppeiccaaZC33
import Derived.Test.YtooegjdppeiccaaZC37
import Derived.Test.YtooegjdppeiccaaZC25
/-
  Which keys are new when writes are laid, in plain words.
-/
namespace Go.Proofs.Ytooegjdppeiccaa
open Go.RowKit

def isNew (st : PS) (w : Wr) : Bool := comesS st w && (chainS st.K w.key).isEmpty
def freshK (st : PS) (l : List Wr) (j : Nat) : List KeyS := ((l.take j).filter (isNew st)).map Wr.key
section
variable {st : PS} {l : List Wr} {j : Nat}
theorem fresh_yes (hj : j < l.length) (h : isNew st (l[j]'hj) = true) : freshK st l (j + 1) = freshK st l j ++ [(l[j]'hj).key] := by
  unfold freshK
  rw [List.take_succ_eq_append_getElem hj, List.filter_append, List.filter_cons, if_pos h, List.map_append]
  rfl
theorem fresh_no (hj : j < l.length) (h : isNew st (l[j]'hj) = false) : freshK st l (j + 1) = freshK st l j := by
  unfold freshK
  rw [List.take_succ_eq_append_getElem hj, List.filter_append, List.filter_cons, if_neg (by rw [h]; simp)]
  simp
theorem fresh_len (st : PS) (l : List Wr) (j : Nat) : (freshK st l j).length ≤ j := by
  unfold freshK
  rw [List.length_map]
  have := List.length_filter_le (isNew st) (l.take j)
  rw [List.length_take] at this
  omega
theorem fresh_rise (hc : checkS [] l = 0) (j : Nat) : RiseK (freshK st l j) := by
  have h := (checkS_ok hc).2
  unfold freshK RiseK
  rw [List.pairwise_map]
  exact List.Pairwise.filter _ (List.Pairwise.sublist (List.take_sublist _ _) h)
theorem fresh_apart (h : OkS st) : ∀ x ∈ st.K.map Prod.fst, ∀ y ∈ freshK st l j, x ≠ y := fun x hx y hy e => by
  subst e
  unfold freshK at hy
  obtain ⟨w, hw, e⟩ := List.mem_map.1 hy
  obtain ⟨u, hu, rfl⟩ := List.mem_map.1 hx
  have h1 := (List.mem_filter.1 hw).2
  unfold isNew at h1
  rw [Bool.and_eq_true] at h1
  have h2 : chainS st.K w.key = [] := by simpa using h1.2
  rw [e, chainS_mem h.sort hu] at h2
  exact h.full u hu h2
theorem put_keys {K : KsS} {k : KeyS} {c : List Ver} (hc : c ≠ []) (x : KeyS) : x ∈ (putS K k c).map Prod.fst ↔ x ∈ K.map Prod.fst ∨ x = k := by
  rw [List.mem_map, List.mem_map]
  constructor
  · rintro ⟨y, hy, rfl⟩
    rcases mem_putS.1 hy with ⟨h1, _⟩ | ⟨rfl, _⟩ | ⟨h1, _⟩
    · exact .inl ⟨y, h1, rfl⟩
    · exact .inr rfl
    · exact .inl ⟨y, h1, rfl⟩
  · rintro (⟨y, hy, rfl⟩ | rfl)
    · rcases blt_tri y.1 k with g | g | g
      · exact ⟨y, mem_putS.2 (.inl ⟨hy, g⟩), rfl⟩
      · exact ⟨(k, c), mem_putS.2 (.inr (.inl ⟨rfl, hc⟩)), g.symm⟩
      · exact ⟨y, mem_putS.2 (.inr (.inr ⟨hy, g⟩)), rfl⟩
    · exact ⟨(x, c), mem_putS.2 (.inr (.inl ⟨rfl, hc⟩)), rfl⟩
theorem up_keys (h : OkS st) (hc : checkS [] l = 0) : ∀ (j : Nat), j ≤ l.length → ∀ x, x ∈ (upG st l j).map Prod.fst ↔ x ∈ st.K.map Prod.fst ∨ x ∈ freshK st l j
  | 0, _, x => by simp [upG, freshK]
  | j + 1, hj, x => by
    have ih := up_keys h hc j (by omega) x
    have hjl : j < l.length := by omega
    cases hcm : comesS st (l[j]'hjl)
    · rw [upG_no hjl hcm, fresh_no hjl (by unfold isNew; rw [hcm]; rfl)]
      exact ih
    · rw [upG_yes h hc hjl hcm, put_keys (by simp), ih]
      cases he : (chainS st.K (l[j]'hjl).key).isEmpty
      · rw [fresh_no hjl (by unfold isNew; rw [he, Bool.and_false])]
        constructor
        · rintro (h1 | rfl)
          · exact h1
          · exact .inl (List.mem_map.2 ⟨_, chainS_some (by simpa using he), rfl⟩)
        · exact fun h1 => .inl h1
      · rw [fresh_yes hjl (by unfold isNew; rw [he, hcm]; rfl), List.mem_append, List.mem_singleton, or_assoc]
theorem with_keys (h : OkS st) (hc : checkS [] l = 0) {out : List KeyS} (hr : RiseK out) (hm : ∀ x, x ∈ out ↔ x ∈ st.K.map Prod.fst ∨ x ∈ freshK st l l.length) : out = (withS st l).map Prod.fst := by
  refine rise_ext id hr ?_ fun x => ?_
  · have := (with_ok h hc).1
    unfold SortS at this
    rw [List.pairwise_map]
    exact this
  · rw [hm, ← upG_len]
    exact (up_keys h hc l.length (Nat.le_refl _) x).symm
theorem sort_rise {K : KsS} (h : SortS K) : RiseK (K.map Prod.fst) := by
  unfold RiseK
  rw [List.pairwise_map]
  exact h
theorem up_chain (h : OkS st) (hc : checkS [] l = 0) (hj : j < l.length) (hcm : comesS st (l[j]'hj) = true) : chainS (upG st l (j + 1)) = updG (chainS (upG st l j)) (l[j]'hj).key (chainS st.K (l[j]'hj).key ++ [verW st (l[j]'hj)]) := funext fun k => by
  obtain ⟨k1, k2, _⟩ := upG_ok h hc j
  rw [upG_yes h hc hj hcm, chain_put k1 k2]
  rfl
end
end Go.Proofs.Ytooegjdppeiccaa

/-
  The developers' store: a version is laid behind a chain, in memory.
-/
namespace Go.Proofs.Ytooegjdppeiccaa
open Go.RowKit

def verCells (T : Int) (gone : Bool) (A : Option Addr) (n c : Nat) : Array Value := #[.int .u64 T, .bool gone, .slice A n c]
theorem RawS.own_val {w : World} {p : Nat} {F D : Nat → Prop} {B : Nat} {kv : Value} {cv : KeyS → Value} {L : LimS} {m r v : Int} {now : Nat} {g : KeyS → List Ver} {ks : List KeyS} {z : Sz} (h : RawS w p F D B kv cv L m r v now g ks z) (k : KeyS) :
    ∃ ms : List MV, ms.map MV.v = g k ∧ OwnG 103 3 mvCells w 0 (valS g cv k) ms ∧ (∀ x ∈ ms, OkD w D x) ∧ ∀ b, (valS g cv k).ownBlock = some b → g k ≠ [] ∧ (cv k).ownBlock = some b := by
  unfold valS
  cases hg : g k with
  | nil => exact ⟨[], rfl, OwnG.none_ _ _ _ _ _, by simp, fun b hb => by simp [Value.ownBlock] at hb⟩
  | cons x l =>
    obtain ⟨ms, h1, h2, h3⟩ := h.chain k (by rw [hg]; simp)
    exact ⟨ms, by rw [h1, hg], h2, h3, fun b hb => ⟨by simp, hb⟩⟩
theorem lay_push {W : World} {p : Nat} {F D : Nat → Prop} {B : Nat} {kv : Value} {cv : KeyS → Value} {L : LimS} {m r v : Int} {now : Nat} {g : KeyS → List Ver} {ks : List KeyS} {z : Sz} (h : RawS W p F D B kv cv L m r v now g ks z)
    (n4 : Nat) (hn4 : ∀ b, F b → b < n4) (hle : n4 ≤ W.heap.size) (vb : Nat) (T : Nat) (gone : Bool) (dat : List UInt8) (A : Option Addr) (c : Nat) (hT : T < 18446744073709551616) (hd : SlD W (fun b => n4 ≤ b ∧ b < W.heap.size ∧ b ≠ vb) A c dat) (k : KeyS) (hlen : (g k).length ≤ 4294967296) :
    ∃ v9 w9 w10, (∀ ty, (Builtin.append_ #[56, 56] ty #[valS g cv k, .slice (some ⟨W.heap.size, 0, none⟩) 1 1]).run Try.prog (W.drew.alloc (.cells (verCells (T : Int) gone A dat.length c) 103)) = .ok v9 w9) ∧
      (Instr.mapUpdate 90 (.map (some B)) (.string (bs k)) v9).run Try.prog w9 = .ok () w10 ∧
      (∀ b, b < W.heap.size → ¬ F b → w9.heap[b]? = W.heap[b]? ∧ w10.heap[b]? = W.heap[b]?) ∧ (w9.heap[p]? = W.heap[p]? ∧ w10.heap[p]? = W.heap[p]?) ∧ W.heap.size ≤ w10.heap.size ∧ (w10.os = W.os ∧ w10.tape = W.tape ∧ w10.output = W.output) ∧
      RawS w10 p (fun b => F b ∨ (n4 ≤ b ∧ b < w10.heap.size)) (fun b => D b ∨ (n4 ≤ b ∧ b < W.heap.size ∧ b ≠ vb)) B kv (updC cv k v9) L m r v now (updG g k (g k ++ [⟨T, gone, dat⟩])) ks z := by
  obtain ⟨ms, hms, hown, hokd, hblk⟩ := h.own_val k
  obtain ⟨Wa, hWa⟩ : ∃ y, W.drew.alloc (.cells (verCells (T : Int) gone A dat.length c) 103) = y := ⟨_, rfl⟩
  have hba : Below W.heap.size W Wa := by rw [← hWa]; exact (Below.refl _ W).drew.alloc (Nat.le_refl _) _
  have hsa : Wa.heap.size = W.heap.size + 1 := by rw [← hWa]; show (W.drew.alloc _).heap.size = _; simp
  have hna : Wa.heap[W.heap.size]? = some (.cells (mvCells ⟨⟨T, gone, dat⟩, A, c⟩).toArray 103 (0, 0)) := by rw [← hWa]; exact heap_alloc_new W.drew _
  have hmsl : ms.length = (g k).length := by rw [← hms, List.length_map]
  obtain ⟨i, zz, hi0, hz0, hz1, hz2, hz3⟩ := mvInfo
  have happ : ∃ v9 w9, (∀ ty, (Builtin.append_ #[56, 56] ty #[valS g cv k, .slice (some ⟨W.heap.size, 0, none⟩) 1 1]).run Try.prog Wa = .ok v9 w9) ∧ OwnG 103 3 mvCells w9 0 v9 (ms ++ [⟨⟨T, gone, dat⟩, A, c⟩]) ∧ Wa.grownBy w9 (valS g cv k).ownBlock ∧ (v9.ownBlock = (valS g cv k).ownBlock ∨ v9.ownBlock = some Wa.heap.size) := by
    obtain ⟨v9, w9, e1, e2, e3, e4⟩ := run_append_at (P := Try.prog) Wa 56 0 103 40 mvF mvInfo Try.underlying56 0 (valS g cv k) ms (OwnG.below hown hba) W.heap.size (W.heap.size + 1) ⟨W.heap.size, 0, none⟩ 1 [⟨⟨T, gone, dat⟩, A, c⟩] (RowG.one hna) (by rw [hmsl]; simp only [List.length_singleton]; unfold maxLen; omega) (by rw [hmsl]; simp only [List.length_singleton]; omega) (Nat.zero_le _)
    exact ⟨v9, w9, fun _ => e1, e2, e3, e4⟩
  obtain ⟨v9, w9, happ, hown9, hgr9, hat9⟩ := happ
  have hBne : ∀ b, (valS g cv k).ownBlock = some b → b ≠ B ∧ b ≠ p ∧ ¬ D b ∧ F b := fun b hb => by
    obtain ⟨h1, h2⟩ := hblk b hb
    obtain ⟨k1, k2, k3, _⟩ := h.cvp k h1 b h2
    exact ⟨k2, k1, k3, h.Fc k h1 b h2⟩
  have h9 : ∀ b, b < W.heap.size → (valS g cv k).ownBlock ≠ some b → w9.heap[b]? = W.heap[b]? := fun b hb hne => (hgr9.block b (by omega) (fun e => hne e.symm)).trans (hba.block b hb)
  have hm9 : MapS w9 B (mapG g cv) := h.map.keep (h9 B (h.lt B h.FB) (fun e => (hBne B e).1 rfl))
  obtain ⟨w10, hupd, hmp, hgr10, hs10⟩ := MapS.store (P := Try.prog) hm9 Try.underlying90 Try.underlying9 k v9
  unfold keyV at hupd
  have hs9 := hgr9.size
  have h10 : ∀ b, b < W.heap.size → b ≠ B → (valS g cv k).ownBlock ≠ some b → w10.heap[b]? = W.heap[b]? := fun b hb hB hne => (hgr10.block b (by omega) (fun e => hB (by injection e))).trans (h9 b hb hne)
  have hap : g k ++ [(⟨T, gone, dat⟩ : Ver)] ≠ [] := by simp
  refine ⟨v9, w9, w10, fun ty => by rw [hWa]; exact happ ty, hupd, fun b hb hf => ⟨h9 b hb (fun e => hf (hBne b e).2.2.2), h10 b hb (fun e => hf (e ▸ h.FB)) (fun e => hf (hBne b e).2.2.2)⟩, ⟨h9 p (h.lt p h.Fp) (fun e => (hBne p e).2.1 rfl), h10 p (h.lt p h.Fp) h.pB (fun e => (hBne p e).2.1 rfl)⟩, by omega,
    ⟨by rw [hgr10.os, hgr9.os, hba.os], by rw [hgr10.tape, hgr9.tape, hba.tape], by rw [hgr10.output, hgr9.output, hba.output]⟩, ?_⟩
  have hown10 : OwnG 103 3 mvCells w10 0 v9 (ms ++ [⟨⟨T, gone, dat⟩, A, c⟩]) := OwnG.keep hown9 (fun b hb hlt => hgr10.block b hlt (fun e => by
    injection e with e
    subst e
    rcases hat9 with h1 | h1
    · exact (hBne b (h1 ▸ hb)).1 rfl
    · rw [h1] at hb
      injection hb with hb
      have := h.lt b h.FB
      omega)) (Nat.le_refl _)
  refine h.putC (N := fun b => n4 ≤ b ∧ b < w10.heap.size) (fun b hb => ⟨fun hf => by have := hn4 b hf; omega, hb.2⟩) hap (by rw [mapG_put hap]; exact hmp) ⟨ms ++ [⟨⟨T, gone, dat⟩, A, c⟩], by rw [List.map_append, hms]; rfl, hown10, fun x hx => ?_⟩ (by omega) (fun b hb => .inl hb) (fun b hb => ?_) (fun b hb => ?_) (fun b hb hne hne2 => h10 b (h.lt b hb) hne (fun e => (hne2 (hblk b e).1) (hblk b e).2))
  · rcases List.mem_append.1 hx with hx | hx
    · exact (hokd x hx).keep (fun b hb => h10 b (h.lt b (h.FD b hb)) (fun e => h.DB (e ▸ hb)) (fun e => (hBne b e).2.2.1 hb)) (fun b hb => .inl hb)
    · rw [List.mem_singleton] at hx
      subst hx
      have h2 := hd.step (w' := w10) (D' := fun b => D b ∨ (n4 ≤ b ∧ b < W.heap.size ∧ b ≠ vb)) fun b hb => ⟨h10 b hb.2.1 (fun e => by have := hn4 B h.FB; omega) (fun e => by have := hn4 b (hBne b e).2.2.2; omega), .inr hb⟩
      exact ⟨hT, h2⟩
  · rcases hb with h1 | h1
    · exact .inl h1
    · exact .inr ⟨h1.1, by omega⟩
  · rcases hat9 with h1 | h1
    · rw [h1] at hb
      obtain ⟨_, _, k3, k4⟩ := hBne b hb
      refine ⟨.inr (hblk b hb), fun hd => ?_⟩
      rcases hd with h2 | h2
      · exact k3 h2
      · have := hn4 b k4
        omega
    · rw [h1] at hb
      injection hb with hb
      refine ⟨.inl ⟨by omega, ?_⟩, fun hd => ?_⟩
      · have := (OwnG.lt hown10 b (by rw [h1, hb])).2
        exact this
      · rcases hd with h2 | h2
        · have := h.lt b (h.FD b h2)
          omega
        · omega
/-- The version's box made ahead of its bytes. -/
theorem midA {w4 w6 : World} {A9 : Option Addr} {c9 : Nat} {dat : List UInt8} (T : Int) (gone : Bool) (hx : w6.heap[w4.heap.size]? = some (.cells #[.int .u64 0, .bool false, .slice none 0 0] 103 (0, 0))) (hb : Below w4.heap.size w4 w6) (hs : SlI w6 (w4.heap.size + 1) w6.heap.size A9 c9 dat) :
    ∃ W vb, (((w6.setCell ⟨w4.heap.size, 0, none⟩ (.int .u64 T)).setCell ⟨w4.heap.size, 1, none⟩ (.bool gone)).setCell ⟨w4.heap.size, 2, none⟩ (.slice A9 dat.length c9)) = W ∧ w4.heap.size = vb ∧ w4.heap.size ≤ vb ∧ Below w4.heap.size w4 W ∧
      W.heap[vb]? = some (.cells (verCells T gone A9 dat.length c9) 103 (0, 0)) ∧ SlD W (fun b => w4.heap.size ≤ b ∧ b < W.heap.size ∧ b ≠ vb) A9 c9 dat := by
  refine ⟨_, _, rfl, rfl, Nat.le_refl _, Below.box3 hb (Nat.le_refl _) _ _ _, box3_set hx _ _ _, ?_⟩
  exact (hs.slD (D := fun b => w4.heap.size + 1 ≤ b ∧ b < w6.heap.size) fun b h1 h2 => ⟨h1, h2⟩).step fun b hb => ⟨box3_other (by omega) _ _ _, by omega, by simp [World.setCell]; omega, by omega⟩
/-- .. behind them. -/
theorem midB {w4 w6 : World} {A9 : Option Addr} {c9 : Nat} {dat : List UInt8} (T : Int) (gone : Bool) (hb : Below w4.heap.size w4 w6) (hs : SlI w6 w4.heap.size w6.heap.size A9 c9 dat) :
    ∃ W vb, w6.alloc (.cells #[.int .u64 T, .bool gone, .slice A9 dat.length c9] 103) = W ∧ w6.heap.size = vb ∧ w4.heap.size ≤ vb ∧ Below w4.heap.size w4 W ∧
      W.heap[vb]? = some (.cells (verCells T gone A9 dat.length c9) 103 (0, 0)) ∧ SlD W (fun b => w4.heap.size ≤ b ∧ b < W.heap.size ∧ b ≠ vb) A9 c9 dat := by
  refine ⟨_, _, rfl, rfl, hb.size, hb.alloc hb.size _, heap_alloc_new w6 _, ?_⟩
  exact (hs.slD (D := fun b => w4.heap.size ≤ b ∧ b < w6.heap.size) fun b h1 h2 => ⟨h1, h2⟩).step fun b hb => ⟨((Below.refl _ w6).alloc (Nat.le_refl _) _).block b hb.2, by omega, by simp; omega, by omega⟩
end Go.Proofs.Ytooegjdppeiccaa

/-
  Steps of a region that draws its order, of which the outcome is known: an append, a store into a map. No Go function is named here.
-/
namespace Go.Proofs.Ytooegjdppeiccaa
open Go.RowKit

theorem step_append_eq {P : Program} {w w' : World} {ops : Array Oper} {o : Oper} {a : Act} {K : Act → World → Prop} {Q : Exit → Act → World → Prop} {E : Prop} (hgd : o.guard = none) (s x : Operand) (t : TypeId)
    (ho : o.op = .call { callee := .builtin .append, args := #[s, x], argTypes := #[t, t] }) (va vx v' : Value) (hs : a.eval s = va) (hx : a.eval x = vx) (hr : (Builtin.append_ #[t, t] o.type #[va, vx]).run P w = .ok v' w')
    (h : K (a.put o.dst v') w') : if Region.wanted o (yielded ops a.tmps) = true then Oper.wp P o a w K Q else E := by
  have hw : Region.wanted o (yielded ops a.tmps) = true := by simp [Region.wanted, hgd]
  rw [if_pos hw]
  unfold Oper.wp execOp
  simp only [ho, resolve, invoke, builtin, Sem.run_bind, Sem.run_pure, Result.andThen_ok, List.map_toArray, List.map_cons, List.map_nil, hs, hx, hr]
  exact h
theorem step_update_eq {P : Program} {w w' : World} {ops : Array Oper} {o : Oper} {a : Act} {K : Act → World → Prop} {Q : Exit → Act → World → Prop} {E : Prop} (hgd : o.guard = none) (m x v : Operand) (t : TypeId)
    (ho : o.op = .mapUpdate t m x v) (vm vx vv : Value) (hm : a.eval m = vm) (hx : a.eval x = vx) (hv : a.eval v = vv) (hr : (Instr.mapUpdate t vm vx vv).run P w = .ok () w')
    (h : K (a.put o.dst undef) w') : if Region.wanted o (yielded ops a.tmps) = true then Oper.wp P o a w K Q else E := by
  have hw : Region.wanted o (yielded ops a.tmps) = true := by simp [Region.wanted, hgd]
  rw [if_pos hw]
  unfold Oper.wp
  simp [execOp, ho, hm, hx, hv, hr, Result.andThen]
  exact h
end Go.Proofs.Ytooegjdppeiccaa
