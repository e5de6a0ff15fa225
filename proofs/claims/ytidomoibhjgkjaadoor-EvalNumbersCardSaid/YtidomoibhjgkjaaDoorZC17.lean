import Derived.Test.YtidomoibhjgkjaaDoorZC10
import Derived.Test.YtidomoibhjgkjaaDoorZC16
import Derived.Shelf.Abstract
import Derived.StillTailTactics
/-
  Values that fit: numbers of 64 bits and texts of some length; what is made of them fits too.
-/
namespace Go.Proofs.YtidomoibhjgkjaaDoor
open Go.RowKit

def okV (v : V) : Prop := inI v.n ∧ v.s.size ≤ 1000000
theorem okV_zero : okV V0 := ⟨by unfold inI; decide, by decide⟩
theorem okV_num {n : Int} (h : inI n) : okV (numG n) := ⟨h, by show mtS.size ≤ _; decide⟩
theorem okV_truth (b : Bool) : okV (truthV b) := by
  refine ⟨?_, by show mtS.size ≤ _; decide⟩
  unfold truthV inI
  cases b <;> decide
theorem okV_fit (n : Int) : okV (fitV n).1 := by
  by_cases h : inI n
  · rw [fitV_in h]; exact okV_num h
  · rw [fitV_out h]; exact okV_zero
theorem okV_one (op : Int) {a : V} (ha : okV a) : okV (oneV op a).1 := by
  obtain ⟨⟨h0, h1⟩, h2⟩ := ha
  unfold oneV
  split
  · exact okV_zero
  · split
    · exact okV_zero
    · split
      · exact okV_truth _
      · split
        · exact okV_num (by unfold inI; omega)
        · split
          · exact okV_zero
          · exact okV_num (by unfold inI; omega)
theorem okV_nums (op a b : Int) : okV (numsV op a b).1 := by
  unfold numsV
  split
  · exact okV_fit _
  · split
    · exact okV_fit _
    · split
      · exact okV_fit _
      · split
        · exact okV_zero
        · split
          · exact okV_fit _
          · exact okV_fit _
theorem okV_two (op : Int) {a b : V} (ha : okV a) (hb : okV b) : okV (twoV op a b).1 := by
  unfold twoV
  split
  · exact okV_zero
  · split
    · exact okV_truth _
    · split
      · exact okV_truth _
      · split
        · split
          · exact okV_zero
          · exact okV_truth _
        · split
          · exact okV_zero
          · split
            · exact okV_truth _
            · split
              · split
                · exact okV_zero
                · refine ⟨(by unfold inI; decide : inI 0), ?_⟩
                  show (a.s ++ b.s).size ≤ _
                  rw [ByteArray.size_append]
                  omega
              · exact okV_nums _ _ _
theorem okV_step {ask : Asks} {t : TM} {st st' : List V} (ht : okV t.v) (hst : ∀ v ∈ st, okV v) (hask : t.op = 1 → ∀ v, ask t.nm = .inl (some v) → okV v) (h : stepH ask t st = .inl st') : ∀ v ∈ st', okV v := by
  have key : ∀ v, bringH ask t st = .inl v → okV v := by
    intro v hv
    unfold bringH at hv
    split at hv
    · injection hv with hv; rw [← hv]; exact ht
    · split at hv
      · next h1 =>
        unfold varH at hv
        split at hv
        · cases hv
        · next o ho =>
          simp only [Bool.false_eq_true, if_false] at hv
          split at hv
          · injection hv with hv; rw [← hv]; exact hask h1 _ ho
          · cases hv
      · split at hv
        · unfold varH at hv
          split at hv
          · cases hv
          · simp only [if_true] at hv
            injection hv with hv; rw [← hv]; exact okV_truth _
        · split at hv
          · split at hv
            · next a r =>
              split at hv
              · injection hv with hv; rw [← hv]; exact okV_one _ (hst a (List.mem_cons_self ..))
              · cases hv
            · cases hv
          · split at hv
            · next b a r =>
              split at hv
              · injection hv with hv; rw [← hv]; exact okV_two _ (hst a (List.mem_cons_of_mem _ (List.mem_cons_self ..))) (hst b (List.mem_cons_self ..))
              · cases hv
            · cases hv
  unfold stepH at h
  cases hb : bringH ask t st with
  | inl v =>
    rw [hb] at h
    injection h with h
    rw [← h]
    intro x hx
    rcases List.mem_cons.1 hx with rfl | hx
    · exact key _ hb
    · exact hst x (List.mem_of_mem_drop hx)
  | inr e => rw [hb] at h; cases h
/-- What is there behind a step. -/
theorem stepH_len {ask : Asks} {t : TM} {st st' : List V} (hn : takesT t.op ≤ st.length) (h : stepH ask t st = .inl st') : st'.length = st.length + 1 - takesT t.op := by
  unfold stepH at h
  split at h
  · injection h with h; subst h; rw [List.length_cons, List.length_drop]; omega
  · cases h
end Go.Proofs.YtidomoibhjgkjaaDoor

/-
  Package eval: the function that is asked, under a deferred recover.
-/
namespace Go.Proofs.YtidomoibhjgkjaaDoor
open Go.RowKit

/-! ### a block of three cells is no error's -/
def Box3 (w : World) (s : Nat) : Prop := ∃ cs t, w.heap[s]? = some (.cells cs t (0, 0)) ∧ cs.size = 3
theorem Boxed.three {w : World} {s : Nat} {x : V} (h : Boxed w s x) : Box3 w s := ⟨_, _, h, rfl⟩
theorem Box3.set {w : World} {s o : Nat} {u : Value} (h : Box3 w s) : Box3 (w.setCell ⟨s, o, none⟩ u) s := by
  obtain ⟨cs, t, h, hs⟩ := h
  refine ⟨cs.setIfInBounds o u, t, ?_, by simpa using hs⟩
  rw [heap_setCell_same w s o _ _ _ h]
theorem Err.box {w : World} {hi s o : Nat} {e : End} {y : Value} (hB : Box3 w s) : ∀ {ps : List ByteArray} {v : Value}, Err w hi e ps v → Err (w.setCell ⟨s, o, none⟩ y) hi e ps v
  | [], _, h => h
  | p :: ps, v, ⟨b, u, hv, hb, hc, hr⟩ => by
    refine ⟨b, u, hv, hb, (Below.heap_setCell _ _ _ _ (fun e => ?_)).trans hc, hr.box hB⟩
    obtain ⟨cs, t, h, hs⟩ := hB
    have e : b = s := e
    subst e
    rw [h] at hc
    injection hc with hc
    injection hc with hc
    rw [hc] at hs
    simp at hs
theorem ErrO.box {w : World} {s o : Nat} {x : Option Er} {u y : Value} (hB : Box3 w s) (h : ErrO w x u) : ErrO (w.setCell ⟨s, o, none⟩ y) x u := by
  rcases x with _ | ⟨e, ps⟩
  · exact h
  · refine ⟨?_, h.2⟩
    have hh := Err.box (o := o) (y := y) hB h.1
    have e1 : (w.setCell ⟨s, o, none⟩ y).heap.size = w.heap.size := by simp [World.setCell]
    rw [e1]
    exact hh
theorem ErrO.put3 {w : World} {s : Nat} {x : Option Er} {u y0 y1 y2 : Value} (hB : Box3 w s) (h : ErrO w x u) : ErrO (((w.setCell ⟨s, 0, none⟩ y0).setCell ⟨s, 1, none⟩ y1).setCell ⟨s, 2, none⟩ y2) x u :=
  ((h.box hB).box hB.set).box hB.set.set

/-! ### what the function that is asked answers -/
def AskP (x : Option V ⊕ Er) (w' : World) (v : V) (is : Bool) (u : Value) : Prop := match x with
  | .inl o => v = o.getD V0 ∧ is = o.isSome ∧ u = .nilIface
  | .inr e => ErrO w' (some e) u
def RetAsk (x : Option V ⊕ Er) (W : World) (r : Ending) (w' : World) : Prop := ∃ k n s is u, r = .returned (.tuple #[.agg #[.int .i64 k, .int .i64 n, .string s], .bool is, u]) ∧ Below W.heap.size W w' ∧ AskP x w' ⟨k, n, s⟩ is u
structure AskC (gf : Nat) (caps : Array Value) (ask : Asks) (N : ByteArray → Prop) (B : Nat) (w0 : World) : Prop where
  en : ∀ args w, (callFunc gf args).run Tryd.prog w = .ok (.enter gf args) w
  run : ∀ (W : World) (nm : ByteArray), N nm → Below B w0 W → Calls Tryd.prog gf (#[.string nm] ++ caps) W (RetAsk (ask nm) W)
  ok : ∀ nm v, N nm → ask nm = .inl (some v) → okV v
theorem AskP.put3 {w : World} {s : Nat} {x : Option V ⊕ Er} {v : V} {is : Bool} {u y0 y1 y2 : Value} (hB : Box3 w s) (h : AskP x w v is u) : AskP x (((w.setCell ⟨s, 0, none⟩ y0).setCell ⟨s, 1, none⟩ y1).setCell ⟨s, 2, none⟩ y2) v is u := by
  cases x with
  | inl o => exact h
  | inr e => exact ErrO.put3 (x := some e) hB h

theorem funcA : ∃ a b c, Tryd.prog.underlying 56 = some (.func a b c) := by
  have h : (Tryd.prog.underlying 56).map (fun t => t matches .func _ _ _) = some true := by kernel_rfl
  obtain ⟨t, ht, hm⟩ := Option.map_eq_some_iff.1 h
  cases t <;> first | exact ⟨_, _, _, ht⟩ | (simp at hm)
theorem eql_func_nil (gf : Nat) (caps : Array Value) (w : World) : (binOp .eql 56 (.func (.func gf) #[] caps) .nilFunc).run Tryd.prog w = .ok (.bool false) w := by
  obtain ⟨a, b, c, h⟩ := funcA
  have h2 : ∀ d, (Op.equalIn (d + 1) 56 (.func (.func gf) #[] caps) .nilFunc).run Tryd.prog w = .ok false w := fun d => by
    simp [Op.equalIn, run_underlying h]
  have h3 : (Op.equal 56 (.func (.func gf) #[] caps) .nilFunc).run Tryd.prog w = .ok false w := h2 9999
  simp [binOp, h3]

theorem ask_idle (w : World) : CallsD Tryd.prog 80 #[] .returning w fun e u' w' => e = .returned (.tuple #[]) ∧ u' = .returning ∧ w' = w := by
  refine callsD_of_wpS Tryd.func80 rfl fun c₀ cs hu => ?_
  apply wpS_region
  simp [wpOpsS, go_sem, recoverD, hu, Tryd.ntmps80]
  cases c₀
  simp_all [bodyPostS, results, Tryd.results80]

set_option maxRecDepth 100000 in
set_option maxHeartbeats 4000000 in
theorem gAsk_any (b lo gf : Nat) (caps : Array Value) (ask : Asks) (N : ByteArray → Prop) (B : Nat) (w0 : World) (nm : ByteArray) (st : List V) (w : World) (hM : RunM w b lo (.func (.func gf) #[] caps) st)
    (hA : AskC gf caps ask N B w0) (hN : N nm) (hW : Below B w0 w) (hB : B ≤ w.heap.size) :
    Calls Tryd.prog 78 #[.pointer (some ⟨b, 0, none⟩), .string nm] w (RetAsk (ask nm) w) := by
  obtain ⟨⟨A, c, h1, _⟩, _, _⟩ := hM
  have eg := hA.en
  have hfn := fun w => eql_func_nil gf caps w
  have x1 := (h1.alloc (.cells #[.int .i64 0, .int .i64 0, .string ⟨#[]⟩] 23)).c0
  have HR := Lib.hid (hA.run (w.alloc (.cells #[.int .i64 0, .int .i64 0, .string ⟨#[]⟩] 23)) nm hN (hW.alloc hB _))
  have HX0 := Lib.hid (Boxed.new w 0 0 ⟨#[]⟩)
  have HB0 := Lib.hid (box_below w #[.int .i64 0, .int .i64 0, .string ⟨#[]⟩] 23)
  generalize ask nm = x at *
  clear hA hN hW hB h1
  show Calls _ _ _ _ (fun r w' => RetAsk x w r w')
  go_enter_defers Tryd.func78, Tryd.ntmps78
  go_wp2_with (first | (go_at_call 48; refine (of_num 20 _ (by decide)).mono ?_; rintro r w5 ⟨rfl, rfl⟩))
  refine HR.out.mono ?_
  rintro r w1 ⟨k, n, t, is, u, rfl, hb, hp⟩
  have HXa := HX0.out.below hb
  have HB := HB0.out.trans (hb.mono HB0.out.size)
  obtain ⟨r0, r1, r2⟩ := HXa.cells
  have f0 := HXa.frozen 0
  have f1 := HXa.frozen 1
  have f2 := HXa.frozen 2
  obtain ⟨t0, t1, t2⟩ := (HXa.set3' k n t).cells
  have HP := Lib.hid (Below.set3' HB (Nat.le_refl _) (.int .i64 k) (.int .i64 n) (.string t))
  have HQ := Lib.hid (AskP.put3 (y0 := .int .i64 k) (y1 := .int .i64 n) (y2 := .string t) HXa.three hp)
  clear hb HX0 HB0 HR HXa HB hp eg hfn x1
  go_wp2_with fail
  refine leaves_cons (f := 80) (args := #[]) (by simp) (by simp [go_sem]) ?_
  refine (ask_idle _).mono ?_
  rintro e u' w'' ⟨rfl, rfl, rfl⟩
  refine ⟨.tuple #[.agg #[.int .i64 k, .int .i64 n, .string t], .bool is, u], (by simp [results, Tryd.results78, go_sem, t0, t1, t2]), ?_⟩
  exact ⟨k, n, t, is, u, rfl, HP.out, HQ.out⟩
end Go.Proofs.YtidomoibhjgkjaaDoor

/-
  Package eval: what a variable's term comes to.
-/
namespace Go.Proofs.YtidomoibhjgkjaaDoor
open Go.RowKit

theorem b_d2 (n : Int) : (n == 2) = decide (n = 2) := by by_cases h : n = 2 <;> simp [h]
def RetBr (x : V ⊕ Er) (W : World) (r : Ending) (w' : World) : Prop :=
  ∃ k n s u, r = .returned (.tuple #[.agg #[.int .i64 k, .int .i64 n, .string s], u]) ∧ Below W.heap.size W w' ∧ (match x with | .inl v => v = ⟨k, n, s⟩ ∧ u = .nilIface | .inr e => ErrO w' (some e) u)

/-- A term and a place for the answer, boxed one behind the other. -/
def termBox (w : World) (x : TM) : World := (w.alloc (.cells #[.int .i64 x.op, .int .i64 x.v.k, .int .i64 x.v.n, .string x.v.s, .string x.nm] 34)).alloc (.cells #[.int .i64 0, .int .i64 0, .string ⟨#[]⟩] 23)
theorem termBox_def (w : World) (op k n : Int) (s nm : ByteArray) : (w.alloc (.cells #[.int .i64 op, .int .i64 k, .int .i64 n, .string s, .string nm] 34)).alloc (.cells #[.int .i64 0, .int .i64 0, .string ⟨#[]⟩] 23) = termBox w ⟨op, ⟨k, n, s⟩, nm⟩ := rfl
structure TBox (w w' : World) (g : Nat) (x : TM) : Prop where
  t : TermAt w' g 0 x
  tl : g < w'.heap.size
  r : Boxed w' (g + 1) V0
  hb : Below w.heap.size w w'
  hg : w.heap.size ≤ g
theorem TBox.new (w : World) (x : TM) : TBox w (termBox w x) w.heap.size x := by
  have h1 := heap_alloc_new w (.cells #[.int .i64 x.op, .int .i64 x.v.k, .int .i64 x.v.n, .string x.v.s, .string x.nm] 34)
  have h2 := Boxed.new (w.alloc (.cells #[.int .i64 x.op, .int .i64 x.v.k, .int .i64 x.v.n, .string x.v.s, .string x.nm] 34)) 0 0 ⟨#[]⟩
  have b2 := box_below (w.alloc (.cells #[.int .i64 x.op, .int .i64 x.v.k, .int .i64 x.v.n, .string x.v.s, .string x.nm] 34)) #[.int .i64 0, .int .i64 0, .string ⟨#[]⟩] 23
  have e1 : (w.alloc (.cells #[.int .i64 x.op, .int .i64 x.v.k, .int .i64 x.v.n, .string x.v.s, .string x.nm] 34)).heap.size = w.heap.size + 1 := by simp
  rw [e1] at h2
  have t1 : TermAt (w.alloc (.cells #[.int .i64 x.op, .int .i64 x.v.k, .int .i64 x.v.n, .string x.v.s, .string x.nm] 34)) w.heap.size 0 x :=
    ⟨cell_of_row _ _ 0 _ _ _ h1, cell_of_row _ _ 1 _ _ _ h1, cell_of_row _ _ 2 _ _ _ h1, cell_of_row _ _ 3 _ _ _ h1, cell_of_row _ _ 4 _ _ _ h1⟩
  exact ⟨t1.below b2 (by simp), by unfold termBox; simp; omega, h2, ((Below.refl _ w).alloc (Nat.le_refl _) _).alloc (by simp) _, Nat.le_refl _⟩
theorem TBox.below {w w1 w2 : World} {g : Nat} {x : TM} (h : TBox w w1 g x) (hb : Below w1.heap.size w1 w2) : TBox w w2 g x := ⟨h.t.below hb h.tl, Nat.lt_of_lt_of_le h.tl hb.size, h.r.below hb, h.hb.trans (hb.mono h.hb.size), h.hg⟩
theorem TBox.alloc {w w1 : World} {g : Nat} {x : TM} (h : TBox w w1 g x) (o : Obj) : TBox w (w1.alloc o) g x := h.below ((Below.refl _ w1).alloc (Nat.le_refl _) o)
theorem TBox.put3 {w w1 : World} {g : Nat} {a : TM} (h : TBox w w1 g a) (x y z : Value) : Below w.heap.size w (((w1.setCell ⟨g + 1, 0, none⟩ x).setCell ⟨g + 1, 1, none⟩ y).setCell ⟨g + 1, 2, none⟩ z) :=
  Below.set3' h.hb (by have := h.hg; omega) _ _ _

set_option maxRecDepth 100000 in
set_option maxHeartbeats 4000000 in
theorem gVariable_any (b lo gf : Nat) (caps : Array Value) (ask : Asks) (N : ByteArray → Prop) (B : Nat) (w0 : World) (t : TM) (ht : t.op = 1 ∨ t.op = 2) (st : List V) (w : World) (hM : RunM w b lo (.func (.func gf) #[] caps) st)
    (hA : AskC gf caps ask N B w0) (hN : N t.nm) (hW : Below B w0 w) (hB : B ≤ w.heap.size) :
    Calls Tryd.prog 75 #[.pointer (some ⟨b, 0, none⟩), termVal t] w (RetBr (varH ask (decide (t.op = 2)) t.nm) w) := by
  have h3 := TBox.new w t
  have HAsk := Lib.hid (gAsk_any b lo gf caps ask N B w0 t.nm st (termBox w t) (hM.below h3.hb) hA hN (hW.trans (h3.hb.mono hB)) (Nat.le_trans hB h3.hb.size))
  have H3 := Lib.hid h3
  obtain ⟨X, hX⟩ : ∃ X, varH ask (decide (t.op = 2)) t.nm = X := ⟨_, rfl⟩
  rw [hX]
  unfold varH at hX
  obtain ⟨op, ⟨vk, vn, vs⟩, nm⟩ := t
  simp only [termVal] at *
  obtain ⟨x, hx⟩ : ∃ x, ask nm = x := ⟨_, rfl⟩
  rw [hx] at hX HAsk
  obtain ⟨q, hq⟩ : ∃ q, (op == 2) = q := ⟨_, rfl⟩
  have hq' : decide (op = 2) = q := by rw [← hq]; exact (b_d2 op).symm
  rw [hq'] at hX
  clear hM hA hN hW hB hx h3 hq' ht
  go_enter Tryd.func75, Tryd.ntmps75
  go_upto_region 1 with fail
  simp only [termBox_def]
  obtain ⟨g, hg⟩ : ∃ g, w.heap.size = g := ⟨_, rfl⟩
  rw [hg] at H3
  obtain ⟨w3, hw3⟩ : ∃ y, termBox w ⟨op, ⟨vk, vn, vs⟩, nm⟩ = y := ⟨_, rfl⟩
  rw [hw3] at H3 HAsk ⊢
  simp only [hg]
  clear hw3 hg
  obtain ⟨c0, _, _, _, c4⟩ := H3.out.t
  simp only [Nat.zero_add] at c0 c4
  go_wp2_with fail
  refine HAsk.out.mono ?_
  rintro r w4 ⟨k, n, s, is, u, rfl, hb4, hp⟩
  dsimp only
  have H4 := Lib.hid (H3.out.below hb4)
  clear H3 HAsk hb4 c0 c4
  obtain ⟨c0, _, _, _, c4⟩ := (H4.out.alloc (.cells #[.int .i64 k, .int .i64 n, .string s] 23)).t
  simp only [Nat.zero_add] at c0 c4
  obtain ⟨r0, r1, r2⟩ := (H4.out.alloc (.cells #[.int .i64 k, .int .i64 n, .string s] 23)).r.cells
  have f0 := (H4.out.alloc (.cells #[.int .i64 k, .int .i64 n, .string s] 23)).r.frozen 0
  have f1 := (H4.out.alloc (.cells #[.int .i64 k, .int .i64 n, .string s] 23)).r.frozen 1
  have f2 := (H4.out.alloc (.cells #[.int .i64 k, .int .i64 n, .string s] 23)).r.frozen 2
  cases x with
  | inr e =>
    obtain ⟨e, ps⟩ := e
    have hp : ErrO w4 (some (e, ps)) u := hp
    obtain ⟨T, y, rfl⟩ := hp.iface
    have HX : Hid (X = .inr (e, nm :: ps)) := Lib.hid hX.symm
    have HE := Lib.hid hp
    clear hX hp
    go_wp2_with fail
    refine (wrap_any nm ps _ e _ _ (HE.out.1.below (box_below w4 _ _) (Nat.le_refl _)) HE.out.2 (by simp)).mono ?_
    rintro r w5 ⟨u2, rfl, hE5, hb5⟩
    have H5 := Lib.hid ((H4.out.alloc _).below hb5)
    have HE5 : Hid (ErrO w5 (some (e, nm :: ps)) u2) := Lib.hid ⟨hE5, .inl (by simp)⟩
    clear hb5 hE5 H4 HE c0 c4 r0 r1 r2 f0 f1 f2
    obtain ⟨r0, r1, r2⟩ := H5.out.r.cells
    have f0 := H5.out.r.frozen 0
    have f1 := H5.out.r.frozen 1
    have f2 := H5.out.r.frozen 2
    obtain ⟨t0, t1, t2⟩ := (H5.out.r.set3' 0 0 ⟨#[]⟩).cells
    have HP := Lib.hid (H5.out.put3 (.int .i64 0) (.int .i64 0) (.string ⟨#[]⟩))
    have HQ := Lib.hid (ErrO.put3 (y0 := .int .i64 0) (y1 := .int .i64 0) (y2 := .string ⟨#[]⟩) H5.out.r.three HE5.out)
    go_wp2
    refine bodyPost_ret (v := .tuple #[.agg #[.int .i64 0, .int .i64 0, .string ⟨#[]⟩], u2]) (by simp [results, Tryd.results75, go_sem, t0, t1, t2]) rfl ⟨0, 0, ⟨#[]⟩, u2, rfl, HP.out, ?_⟩
    rw [HX.out]
    exact HQ.out
  | inl o =>
    obtain ⟨hv, his, hu⟩ := hp
    subst hu
    cases q with
    | true =>
      have HX : Hid (X = .inl (truthV is)) := Lib.hid (by rw [← hX, his]; rfl)
      have HV := Lib.hid (fun W => vBool_any is W)
      clear hX hv his
      cases is
      · simp only [Bool.false_eq_true, if_false] at HV
        go_wp2_with fail
        refine (HV.out _).mono ?_
        rintro r w5 ⟨rfl, hb5⟩
        have H5 := Lib.hid ((H4.out.alloc _).below hb5)
        clear hb5 H4 c0 c4 r0 r1 r2 f0 f1 f2
        obtain ⟨r0, r1, r2⟩ := H5.out.r.cells
        have f0 := H5.out.r.frozen 0
        have f1 := H5.out.r.frozen 1
        have f2 := H5.out.r.frozen 2
        obtain ⟨t0, t1, t2⟩ := (H5.out.r.set3' 2 0 ⟨#[]⟩).cells
        have HP := Lib.hid (H5.out.put3 (.int .i64 2) (.int .i64 0) (.string ⟨#[]⟩))
        go_wp2
        refine bodyPost_ret (v := .tuple #[.agg #[.int .i64 2, .int .i64 0, .string ⟨#[]⟩], .nilIface]) (by simp [results, Tryd.results75, go_sem, t0, t1, t2]) rfl ⟨2, 0, ⟨#[]⟩, .nilIface, rfl, HP.out, ?_⟩
        rw [HX.out]
        exact ⟨rfl, rfl⟩
      · simp only [if_true] at HV
        go_wp2_with fail
        refine (HV.out _).mono ?_
        rintro r w5 ⟨rfl, hb5⟩
        have H5 := Lib.hid ((H4.out.alloc _).below hb5)
        clear hb5 H4 c0 c4 r0 r1 r2 f0 f1 f2
        obtain ⟨r0, r1, r2⟩ := H5.out.r.cells
        have f0 := H5.out.r.frozen 0
        have f1 := H5.out.r.frozen 1
        have f2 := H5.out.r.frozen 2
        obtain ⟨t0, t1, t2⟩ := (H5.out.r.set3' 2 1 ⟨#[]⟩).cells
        have HP := Lib.hid (H5.out.put3 (.int .i64 2) (.int .i64 1) (.string ⟨#[]⟩))
        go_wp2
        refine bodyPost_ret (v := .tuple #[.agg #[.int .i64 2, .int .i64 1, .string ⟨#[]⟩], .nilIface]) (by simp [results, Tryd.results75, go_sem, t0, t1, t2]) rfl ⟨2, 1, ⟨#[]⟩, .nilIface, rfl, HP.out, ?_⟩
        rw [HX.out]
        exact ⟨rfl, rfl⟩
    | false =>
      cases o with
      | some v =>
        replace his : is = true := his
        subst his
        have HX : Hid (X = .inl ⟨k, n, s⟩) := Lib.hid (by rw [← hX]; exact congrArg Sum.inl hv.symm)
        clear hX hv
        have H5 := Lib.hid (H4.out.alloc (.cells #[.int .i64 k, .int .i64 n, .string s] 23))
        obtain ⟨t0, t1, t2⟩ := (H5.out.r.set3' k n s).cells
        have HP := Lib.hid (H5.out.put3 (.int .i64 k) (.int .i64 n) (.string s))
        obtain ⟨v0, v1, v2⟩ := (Boxed.new w4 k n s).cells
        simp only at v0 v1 v2
        go_wp2
        refine bodyPost_ret (v := .tuple #[.agg #[.int .i64 k, .int .i64 n, .string s], .nilIface]) (by simp [results, Tryd.results75, go_sem, t0, t1, t2]) rfl ⟨k, n, s, .nilIface, rfl, HP.out, ?_⟩
        rw [HX.out]
        exact ⟨rfl, rfl⟩
      | none =>
        replace his : is = false := his
        subst his
        have HX : Hid (X = .inr (numE 61 [nm])) := Lib.hid (by rw [← hX]; rfl)
        clear hX hv
        go_wp2_with (go_at_call 48; refine (of_num 61 _ (by decide)).mono ?_; rintro r w5 ⟨rfl, rfl⟩)
        refine (wrap_any nm [] _ (End.num 61) _ _ (show Err _ 0 (End.num 61) [] _ from rfl) (.inr (by intro h; cases h)) (Nat.zero_le _)).mono ?_
        rintro r w5 ⟨u2, rfl, hE5, hb5⟩
        have H5 := Lib.hid ((H4.out.alloc _).below hb5)
        have HE5 : Hid (ErrO w5 (some (numE 61 [nm])) u2) := Lib.hid ⟨hE5, .inl (by simp)⟩
        clear hb5 hE5 H4 c0 c4 r0 r1 r2 f0 f1 f2
        obtain ⟨r0, r1, r2⟩ := H5.out.r.cells
        have f0 := H5.out.r.frozen 0
        have f1 := H5.out.r.frozen 1
        have f2 := H5.out.r.frozen 2
        obtain ⟨t0, t1, t2⟩ := (H5.out.r.set3' 0 0 ⟨#[]⟩).cells
        have HP := Lib.hid (H5.out.put3 (.int .i64 0) (.int .i64 0) (.string ⟨#[]⟩))
        have HQ := Lib.hid (ErrO.put3 (y0 := .int .i64 0) (y1 := .int .i64 0) (y2 := .string ⟨#[]⟩) H5.out.r.three HE5.out)
        go_wp2
        refine bodyPost_ret (v := .tuple #[.agg #[.int .i64 0, .int .i64 0, .string ⟨#[]⟩], u2]) (by simp [results, Tryd.results75, go_sem, t0, t1, t2]) rfl ⟨0, 0, ⟨#[]⟩, u2, rfl, HP.out, ?_⟩
        rw [HX.out]
        exact HQ.out
end Go.Proofs.YtidomoibhjgkjaaDoor
