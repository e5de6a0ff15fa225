import Derived.Test.YtidomoibhjgkjaaGreatDoorZC10
import Derived.Test.YtidomoibhjgkjaaGreatDoorZC15
import Derived.Test.YtidomoibhjgkjaaGreatDoorZC16
import Derived.Test.YtidomoibhjgkjaaGreatDoorZC17
import Derived.Shelf.Abstract
import Derived.StillTailTactics
/-
  An error, or none: its number, its places, its text, what must be read.
-/
namespace Go.Proofs.YtidomoibhjgkjaaGreatDoor
open Go.RowKit

/-- u is this error, or there is none. -/
def ErrO (w : World) (o : Option Er) (u : Value) : Prop := match o with
  | none => u = .nilIface
  | some (e, ps) => Err w w.heap.size e ps u ∧ some? e ps
def codeO : Option Er → Int
  | none => 0
  | some (e, _) => codeOf e
def placesO : Option Er → List ByteArray
  | none => []
  | some (_, ps) => ps
theorem ErrO.below {w w' : World} {o : Option Er} {u : Value} (h : ErrO w o u) (hb : Below w.heap.size w w') : ErrO w' o u := by
  rcases o with _ | ⟨e, ps⟩
  · exact h
  · exact ⟨(h.1.below hb (Nat.le_refl _)).wide hb.size, h.2⟩
theorem ErrO.nil {w : World} {u : Value} (h : ErrO w none u) : u = .nilIface := h
theorem ErrO.iface {w : World} {x : Er} {u : Value} (h : ErrO w (some x) u) : ∃ T y, u = .iface T y := h.1.iface h.2
theorem codeO_er (c : Int) (p : List ByteArray) : codeO (erOf c p) = c := by
  unfold erOf
  split
  · next h => exact h.symm
  · rfl
theorem codeO_any (o : Option Er) (u : Value) (w : World) (h : ErrO w o u) (hG : GlobW w) : Calls Tryz.prog 13 #[u] w fun r w' => r = .returned (.int .i64 (codeO o)) ∧ Below w.heap.size w w' := by
  rcases o with _ | ⟨e, ps⟩
  · obtain rfl : u = .nilIface := h
    exact code_none w
  · exact code_any ps u e _ w h.1 h.2 (Nat.le_refl _) hG
theorem isO_any (o : Option Er) (u : Value) (c : Int) (w : World) (h : ErrO w o u) (hG : GlobW w) : Calls Tryz.prog 25 #[u, .int .i64 c] w fun r w' => r = .returned (.bool (codeO o == c)) ∧ Below w.heap.size w w' := by
  rcases o with _ | ⟨e, ps⟩
  · obtain rfl : u = .nilIface := h
    exact is_none c w
  · exact is_any' ps u e _ c w h.1 h.2 (Nat.le_refl _) hG
theorem trailO_any (o : Option Er) (u : Value) (w : World) (h : ErrO w o u) (hp : (placesO o).length ≤ 1000000) (hG : GlobW w) : Calls Tryz.prog 15 #[u] w (RetS (placesO o) w) := by
  rcases o with _ | ⟨e, ps⟩
  · obtain rfl : u = .nilIface := h
    exact trail_any [] .nilIface End.nil _ w rfl (Nat.le_refl _) (by simp) hG
  · exact trail_any ps u e _ w h.1 (Nat.le_refl _) hp hG
theorem neededO_any (e : End) (ps : List ByteArray) (u : Value) (w : World) (h : ErrO w (some (e, ps)) u) (hG : GlobW w) : Calls Tryz.prog 24 #[u] w fun r w' => r = .returned (.tuple #[.agg #[.string (needOf e).1, .string (needOf e).2.1], .bool (needOf e).2.2]) ∧ Below w.heap.size w w' :=
  needed_any ps u e _ w h.1 (Nat.le_refl _) hG
end Go.Proofs.YtidomoibhjgkjaaGreatDoor

/-
  Package eval: what a run does with a term: the last value is taken.
-/
namespace Go.Proofs.YtidomoibhjgkjaaGreatDoor
open Go.RowKit

/-- What take gives: the last value; and in any world that has what it left, a run of the others. -/
def RetTk (b lo : Nat) (gv : Value) (v : V) (st : List V) (w0 w : World) (r : Ending) (w' : World) : Prop :=
  ∃ sv, r = .returned v.val ∧ RunC w' b gv sv ∧ Foot b w.heap.size w w' ∧ Runs w0 b lo gv st sv

set_option maxRecDepth 100000 in
set_option maxHeartbeats 4000000 in
theorem gTake_any (b lo : Nat) (gv : Value) (v : V) (st : List V) (w0 w : World) (sv : Value) (hR : Runs w0 b lo gv (v :: st) sv) (hrc : RunC w b gv sv) (hrf : Foot b w0.heap.size w0 w) (hs : st.length ≤ 100000) :
    Calls Tryz.prog 54 #[.pointer (some ⟨b, 0, none⟩)] w (RetTk b lo gv v st w0 w) := by
  obtain ⟨g, c, rfl, ⟨v0, v1, v2⟩, hg1, hg2, hc, fin⟩ := hR.less hrc hrf
  have h1 := hrc
  have hM := hR w hrc hrf
  have hbl := h1.lt
  have hlo := hM.lo2
  clear hR hrc hrf
  have hb0 := hM.lo1
  have HFin := Lib.hid fin
  obtain ⟨k, n, s⟩ := v
  simp only at v0 v1 v2
  -- the world with both boxes
  have A1 := h1.alloc (.cells #[.int .i64 0, .int .i64 0, .string ⟨#[]⟩] 27)
  have A2 := A1.alloc (.cells #[.int .i64 k, .int .i64 n, .string s] 27)
  have hB1 := box_below w #[.int .i64 0, .int .i64 0, .string ⟨#[]⟩] 27
  have e0 := (hB1.cell (p := ⟨g, st.length * 3, none⟩) hg2).trans v0
  have e1 := (hB1.cell (p := ⟨g, st.length * 3 + 1, none⟩) hg2).trans v1
  have e2 := (hB1.cell (p := ⟨g, st.length * 3 + 2, none⟩) hg2).trans v2
  have x1 := A1.c1
  have x2 := A2.c1
  have fz2 := A2.fz 1
  have q0 : ((st.length + 1 : Nat) : Int) - 1 = (st.length : Int) := by omega
  clear fin
  go_enter Tryz.func54, Tryz.ntmps54
  go_upto_region 4 with fail
  -- the world behind it
  obtain ⟨w3, hw3⟩ : ∃ y, ((w.setCell ⟨b, 1, none⟩ (.slice (some ⟨g, 0, none⟩) st.length c)).alloc (.cells #[.int .i64 0, .int .i64 0, .string ⟨#[]⟩] 27)).alloc (.cells #[.int .i64 k, .int .i64 n, .string s] 27) = y := ⟨_, rfl⟩
  have hss : (w.setCell ⟨b, 1, none⟩ (.slice (some ⟨g, 0, none⟩) st.length c)).heap.size = w.heap.size := by simp [World.setCell]
  have F3 : Foot b w.heap.size w w3 := by
    rw [← hw3]
    exact (((Foot.refl b w.heap.size w).setCell (p := ⟨b, 1, none⟩) (.inl rfl) _).alloc (by rw [hss]; exact Nat.le_refl _) _).alloc (by simp [hss]) _
  have R3 : RunC w3 b gv (.slice (some ⟨g, 0, none⟩) st.length c) := by
    rw [← hw3]
    exact ((h1.set1 _).alloc _).alloc _
  have X3 : Boxed w3 w.heap.size ⟨0, 0, ⟨#[]⟩⟩ := by
    have h := Boxed.new (w.setCell ⟨b, 1, none⟩ (.slice (some ⟨g, 0, none⟩) st.length c)) 0 0 ⟨#[]⟩
    rw [hss] at h
    rw [← hw3]
    exact h.below (box_below _ _ _)
  have Y3 : Boxed w3 (w.heap.size + 1) ⟨k, n, s⟩ := by
    have h := Boxed.new ((w.setCell ⟨b, 1, none⟩ (.slice (some ⟨g, 0, none⟩) st.length c)).alloc (.cells #[.int .i64 0, .int .i64 0, .string ⟨#[]⟩] 27)) k n s
    rw [← hw3]
    simpa [hss] using h
  rw [hw3]
  obtain ⟨r0, r1, r2⟩ := X3.cells
  obtain ⟨y0, y1, y2⟩ := Y3.cells
  simp only at y0 y1 y2
  have z0 := X3.frozen 0
  have z1 := X3.frozen 1
  have z2 := X3.frozen 2
  obtain ⟨t0, t1, t2⟩ := (X3.set3' k n s).cells
  have hne : w.heap.size ≠ b := by omega
  have RF := Lib.hid (((R3.other (o := 0) (u := .int .i64 k) hne).other (o := 1) (u := .int .i64 n) hne).other (o := 2) (u := .string s) hne)
  have FF := Lib.hid (((F3.setCell (p := ⟨w.heap.size, 0, none⟩) (.inr (Nat.le_refl _)) (.int .i64 k)).setCell (p := ⟨w.heap.size, 1, none⟩) (.inr (Nat.le_refl _)) (.int .i64 n)).setCell (p := ⟨w.heap.size, 2, none⟩) (.inr (Nat.le_refl _)) (.string s))
  clear hw3 hss F3 R3 X3 Y3 A1 A2 hB1 h1 hM v0 v1 v2 e0 e1 e2 x1 x2 fz2 q0
  go_wp2
  refine bodyPost_ret (v := .agg #[.int .i64 k, .int .i64 n, .string s]) (by simp [results, Tryz.results54, go_sem, t0, t1, t2]) rfl ⟨_, rfl, RF.out, FF.out, HFin.out⟩
end Go.Proofs.YtidomoibhjgkjaaGreatDoor

/-
  Values that fit: numbers of 64 bits and texts of some length; what is made of them fits too.
-/
namespace Go.Proofs.YtidomoibhjgkjaaGreatDoor
open Go.RowKit

def okV (v : V) : Prop := inI v.n ∧ v.s.size ≤ 1000000
theorem okV_zero : okV V0 := ⟨by unfold inI; decide, by decide⟩
theorem okV_num {n : Int} (h : inI n) : okV (numG n) := ⟨h, by show mtS.size ≤ _; decide⟩
theorem okV_truth (b : Bool) : okV (truthV b) := by
  refine ⟨?_, by show mtS.size ≤ _; decide⟩
  unfold truthV inI
  cases b <;> decide
theorem okV_fit (n : Int) : okV (fitV n).1 := by
  by_cases h : inI n
  · rw [fitV_in h]; exact okV_num h
  · rw [fitV_out h]; exact okV_zero
theorem okV_one (op : Int) {a : V} (ha : okV a) : okV (oneV op a).1 := by
  obtain ⟨⟨h0, h1⟩, h2⟩ := ha
  unfold oneV
  split
  · exact okV_zero
  · split
    · exact okV_zero
    · split
      · exact okV_truth _
      · split
        · exact okV_num (by unfold inI; omega)
        · split
          · exact okV_zero
          · exact okV_num (by unfold inI; omega)
theorem okV_nums (op a b : Int) : okV (numsV op a b).1 := by
  unfold numsV
  split
  · exact okV_fit _
  · split
    · exact okV_fit _
    · split
      · exact okV_fit _
      · split
        · exact okV_zero
        · split
          · exact okV_fit _
          · exact okV_fit _
theorem okV_two (op : Int) {a b : V} (ha : okV a) (hb : okV b) : okV (twoV op a b).1 := by
  unfold twoV
  split
  · exact okV_zero
  · split
    · exact okV_truth _
    · split
      · exact okV_truth _
      · split
        · split
          · exact okV_zero
          · exact okV_truth _
        · split
          · exact okV_zero
          · split
            · exact okV_truth _
            · split
              · split
                · exact okV_zero
                · refine ⟨(by unfold inI; decide : inI 0), ?_⟩
                  show (a.s ++ b.s).size ≤ _
                  rw [ByteArray.size_append]
                  omega
              · exact okV_nums _ _ _
theorem okV_step {ask : Asks} {t : TM} {st st' : List V} (ht : okV t.v) (hst : ∀ v ∈ st, okV v) (hask : t.op = 1 → ∀ v, ask t.nm = .inl (some v) → okV v) (h : stepH ask t st = .inl st') : ∀ v ∈ st', okV v := by
  have key : ∀ v, bringH ask t st = .inl v → okV v := by
    intro v hv
    unfold bringH at hv
    split at hv
    · injection hv with hv; rw [← hv]; exact ht
    · split at hv
      · next h1 =>
        unfold varH at hv
        split at hv
        · cases hv
        · next o ho =>
          simp only [Bool.false_eq_true, if_false] at hv
          split at hv
          · injection hv with hv; rw [← hv]; exact hask h1 _ ho
          · cases hv
      · split at hv
        · unfold varH at hv
          split at hv
          · cases hv
          · simp only [if_true] at hv
            injection hv with hv; rw [← hv]; exact okV_truth _
        · split at hv
          · split at hv
            · next a r =>
              split at hv
              · injection hv with hv; rw [← hv]; exact okV_one _ (hst a (List.mem_cons_self ..))
              · cases hv
            · cases hv
          · split at hv
            · next b a r =>
              split at hv
              · injection hv with hv; rw [← hv]; exact okV_two _ (hst a (List.mem_cons_of_mem _ (List.mem_cons_self ..))) (hst b (List.mem_cons_self ..))
              · cases hv
            · cases hv
  unfold stepH at h
  cases hb : bringH ask t st with
  | inl v =>
    rw [hb] at h
    injection h with h
    rw [← h]
    intro x hx
    rcases List.mem_cons.1 hx with rfl | hx
    · exact key _ hb
    · exact hst x (List.mem_of_mem_drop hx)
  | inr e => rw [hb] at h; cases h
/-- What is there behind a step. -/
theorem stepH_len {ask : Asks} {t : TM} {st st' : List V} (hn : takesT t.op ≤ st.length) (h : stepH ask t st = .inl st') : st'.length = st.length + 1 - takesT t.op := by
  unfold stepH at h
  split at h
  · injection h with h; subst h; rw [List.length_cons, List.length_drop]; omega
  · cases h
end Go.Proofs.YtidomoibhjgkjaaGreatDoor

/-
  Package eval: the function that is asked, under a deferred recover.
-/
namespace Go.Proofs.YtidomoibhjgkjaaGreatDoor
open Go.RowKit

/-! ### a block of three cells is no error's -/
def Box3 (w : World) (s : Nat) : Prop := ∃ cs t, w.heap[s]? = some (.cells cs t (0, 0)) ∧ cs.size = 3
theorem Boxed.three {w : World} {s : Nat} {x : V} (h : Boxed w s x) : Box3 w s := ⟨_, _, h, rfl⟩
theorem Box3.set {w : World} {s o : Nat} {u : Value} (h : Box3 w s) : Box3 (w.setCell ⟨s, o, none⟩ u) s := by
  obtain ⟨cs, t, h, hs⟩ := h
  refine ⟨cs.setIfInBounds o u, t, ?_, by simpa using hs⟩
  rw [heap_setCell_same w s o _ _ _ h]
theorem Err.box {w : World} {hi s o : Nat} {e : End} {y : Value} (hB : Box3 w s) : ∀ {ps : List ByteArray} {v : Value}, Err w hi e ps v → Err (w.setCell ⟨s, o, none⟩ y) hi e ps v
  | [], _, h => h
  | p :: ps, v, ⟨b, u, hv, hb, hc, hr⟩ => by
    refine ⟨b, u, hv, hb, (Below.heap_setCell _ _ _ _ (fun e => ?_)).trans hc, hr.box hB⟩
    obtain ⟨cs, t, h, hs⟩ := hB
    have e : b = s := e
    subst e
    rw [h] at hc
    injection hc with hc
    injection hc with hc
    rw [hc] at hs
    simp at hs
theorem ErrO.box {w : World} {s o : Nat} {x : Option Er} {u y : Value} (hB : Box3 w s) (h : ErrO w x u) : ErrO (w.setCell ⟨s, o, none⟩ y) x u := by
  rcases x with _ | ⟨e, ps⟩
  · exact h
  · refine ⟨?_, h.2⟩
    have hh := Err.box (o := o) (y := y) hB h.1
    have e1 : (w.setCell ⟨s, o, none⟩ y).heap.size = w.heap.size := by simp [World.setCell]
    rw [e1]
    exact hh
theorem ErrO.put3 {w : World} {s : Nat} {x : Option Er} {u y0 y1 y2 : Value} (hB : Box3 w s) (h : ErrO w x u) : ErrO (((w.setCell ⟨s, 0, none⟩ y0).setCell ⟨s, 1, none⟩ y1).setCell ⟨s, 2, none⟩ y2) x u :=
  ((h.box hB).box hB.set).box hB.set.set

/-! ### what the function that is asked answers -/
def AskP (x : Option V ⊕ Er) (w' : World) (v : V) (is : Bool) (u : Value) : Prop := match x with
  | .inl o => v = o.getD V0 ∧ is = o.isSome ∧ u = .nilIface
  | .inr e => ErrO w' (some e) u
def RetAsk (x : Option V ⊕ Er) (W : World) (r : Ending) (w' : World) : Prop := ∃ k n s is u, r = .returned (.tuple #[.agg #[.int .i64 k, .int .i64 n, .string s], .bool is, u]) ∧ Below W.heap.size W w' ∧ AskP x w' ⟨k, n, s⟩ is u
structure AskC (gf : Nat) (caps : Array Value) (ask : Asks) (N : ByteArray → Prop) (B : Nat) (w0 : World) : Prop where
  en : ∀ args w, (callFunc gf args).run Tryz.prog w = .ok (.enter gf args) w
  run : ∀ (W : World) (nm : ByteArray), N nm → Below B w0 W → Calls Tryz.prog gf (#[.string nm] ++ caps) W (RetAsk (ask nm) W)
  ok : ∀ nm v, N nm → ask nm = .inl (some v) → okV v
theorem AskP.put3 {w : World} {s : Nat} {x : Option V ⊕ Er} {v : V} {is : Bool} {u y0 y1 y2 : Value} (hB : Box3 w s) (h : AskP x w v is u) : AskP x (((w.setCell ⟨s, 0, none⟩ y0).setCell ⟨s, 1, none⟩ y1).setCell ⟨s, 2, none⟩ y2) v is u := by
  cases x with
  | inl o => exact h
  | inr e => exact ErrO.put3 (x := some e) hB h

theorem funcA : ∃ a b c, Tryz.prog.underlying 50 = some (.func a b c) := by
  have h : (Tryz.prog.underlying 50).map (fun t => t matches .func _ _ _) = some true := by kernel_rfl
  obtain ⟨t, ht, hm⟩ := Option.map_eq_some_iff.1 h
  cases t <;> first | exact ⟨_, _, _, ht⟩ | (simp at hm)
theorem eql_func_nil (gf : Nat) (caps : Array Value) (w : World) : (binOp .eql 50 (.func (.func gf) #[] caps) .nilFunc).run Tryz.prog w = .ok (.bool false) w := by
  obtain ⟨a, b, c, h⟩ := funcA
  have h2 : ∀ d, (Op.equalIn (d + 1) 50 (.func (.func gf) #[] caps) .nilFunc).run Tryz.prog w = .ok false w := fun d => by
    simp [Op.equalIn, run_underlying h]
  have h3 : (Op.equal 50 (.func (.func gf) #[] caps) .nilFunc).run Tryz.prog w = .ok false w := h2 9999
  simp [binOp, h3]

theorem ask_idle (w : World) : CallsD Tryz.prog 140 #[] .returning w fun e u' w' => e = .returned (.tuple #[]) ∧ u' = .returning ∧ w' = w := by
  refine callsD_of_wpS Tryz.func140 rfl fun c₀ cs hu => ?_
  apply wpS_region
  simp [wpOpsS, go_sem, recoverD, hu, Tryz.ntmps140]
  cases c₀
  simp_all [bodyPostS, results, Tryz.results140]

set_option maxRecDepth 100000 in
set_option maxHeartbeats 4000000 in
theorem gAsk_any (b lo gf : Nat) (caps : Array Value) (ask : Asks) (N : ByteArray → Prop) (B : Nat) (w0 : World) (nm : ByteArray) (st : List V) (w : World) (hM : RunM w b lo (.func (.func gf) #[] caps) st)
    (hA : AskC gf caps ask N B w0) (hN : N nm) (hW : Below B w0 w) (hB : B ≤ w.heap.size) :
    Calls Tryz.prog 131 #[.pointer (some ⟨b, 0, none⟩), .string nm] w (RetAsk (ask nm) w) := by
  obtain ⟨⟨A, c, h1, _⟩, _, _⟩ := hM
  have eg := hA.en
  have hfn := fun w => eql_func_nil gf caps w
  have x1 := (h1.alloc (.cells #[.int .i64 0, .int .i64 0, .string ⟨#[]⟩] 27)).c0
  have HR := Lib.hid (hA.run (w.alloc (.cells #[.int .i64 0, .int .i64 0, .string ⟨#[]⟩] 27)) nm hN (hW.alloc hB _))
  have HX0 := Lib.hid (Boxed.new w 0 0 ⟨#[]⟩)
  have HB0 := Lib.hid (box_below w #[.int .i64 0, .int .i64 0, .string ⟨#[]⟩] 27)
  generalize ask nm = x at *
  clear hA hN hW hB h1
  show Calls _ _ _ _ (fun r w' => RetAsk x w r w')
  go_enter_defers Tryz.func131, Tryz.ntmps131
  go_wp2_with (first | (go_at_call 45; refine (of_num 20 _ (by decide)).mono ?_; rintro r w5 ⟨rfl, rfl⟩))
  refine HR.out.mono ?_
  rintro r w1 ⟨k, n, t, is, u, rfl, hb, hp⟩
  have HXa := HX0.out.below hb
  have HB := HB0.out.trans (hb.mono HB0.out.size)
  obtain ⟨r0, r1, r2⟩ := HXa.cells
  have f0 := HXa.frozen 0
  have f1 := HXa.frozen 1
  have f2 := HXa.frozen 2
  obtain ⟨t0, t1, t2⟩ := (HXa.set3' k n t).cells
  have HP := Lib.hid (Below.set3' HB (Nat.le_refl _) (.int .i64 k) (.int .i64 n) (.string t))
  have HQ := Lib.hid (AskP.put3 (y0 := .int .i64 k) (y1 := .int .i64 n) (y2 := .string t) HXa.three hp)
  clear hb HX0 HB0 HR HXa HB hp eg hfn x1
  go_wp2_with fail
  refine leaves_cons (f := 140) (args := #[]) (by simp) (by simp [go_sem]) ?_
  refine (ask_idle _).mono ?_
  rintro e u' w'' ⟨rfl, rfl, rfl⟩
  refine ⟨.tuple #[.agg #[.int .i64 k, .int .i64 n, .string t], .bool is, u], (by simp [results, Tryz.results131, go_sem, t0, t1, t2]), ?_⟩
  exact ⟨k, n, t, is, u, rfl, HP.out, HQ.out⟩
end Go.Proofs.YtidomoibhjgkjaaGreatDoor

/-
  Package eval: what a variable's term comes to.
-/
namespace Go.Proofs.YtidomoibhjgkjaaGreatDoor
open Go.RowKit

theorem b_d2 (n : Int) : (n == 2) = decide (n = 2) := by by_cases h : n = 2 <;> simp [h]
def RetBr (x : V ⊕ Er) (W : World) (r : Ending) (w' : World) : Prop :=
  ∃ k n s u, r = .returned (.tuple #[.agg #[.int .i64 k, .int .i64 n, .string s], u]) ∧ Below W.heap.size W w' ∧ (match x with | .inl v => v = ⟨k, n, s⟩ ∧ u = .nilIface | .inr e => ErrO w' (some e) u)

/-- A term and a place for the answer, boxed one behind the other. -/
def termBox (w : World) (x : TM) : World := (w.alloc (.cells #[.int .i64 x.op, .int .i64 x.v.k, .int .i64 x.v.n, .string x.v.s, .string x.nm] 47)).alloc (.cells #[.int .i64 0, .int .i64 0, .string ⟨#[]⟩] 27)
theorem termBox_def (w : World) (op k n : Int) (s nm : ByteArray) : (w.alloc (.cells #[.int .i64 op, .int .i64 k, .int .i64 n, .string s, .string nm] 47)).alloc (.cells #[.int .i64 0, .int .i64 0, .string ⟨#[]⟩] 27) = termBox w ⟨op, ⟨k, n, s⟩, nm⟩ := rfl
structure TBox (w w' : World) (g : Nat) (x : TM) : Prop where
  t : TermAt w' g 0 x
  tl : g < w'.heap.size
  r : Boxed w' (g + 1) V0
  hb : Below w.heap.size w w'
  hg : w.heap.size ≤ g
theorem TBox.new (w : World) (x : TM) : TBox w (termBox w x) w.heap.size x := by
  have h1 := heap_alloc_new w (.cells #[.int .i64 x.op, .int .i64 x.v.k, .int .i64 x.v.n, .string x.v.s, .string x.nm] 47)
  have h2 := Boxed.new (w.alloc (.cells #[.int .i64 x.op, .int .i64 x.v.k, .int .i64 x.v.n, .string x.v.s, .string x.nm] 47)) 0 0 ⟨#[]⟩
  have b2 := box_below (w.alloc (.cells #[.int .i64 x.op, .int .i64 x.v.k, .int .i64 x.v.n, .string x.v.s, .string x.nm] 47)) #[.int .i64 0, .int .i64 0, .string ⟨#[]⟩] 27
  have e1 : (w.alloc (.cells #[.int .i64 x.op, .int .i64 x.v.k, .int .i64 x.v.n, .string x.v.s, .string x.nm] 47)).heap.size = w.heap.size + 1 := by simp
  rw [e1] at h2
  have t1 : TermAt (w.alloc (.cells #[.int .i64 x.op, .int .i64 x.v.k, .int .i64 x.v.n, .string x.v.s, .string x.nm] 47)) w.heap.size 0 x :=
    ⟨cell_of_row _ _ 0 _ _ _ h1, cell_of_row _ _ 1 _ _ _ h1, cell_of_row _ _ 2 _ _ _ h1, cell_of_row _ _ 3 _ _ _ h1, cell_of_row _ _ 4 _ _ _ h1⟩
  exact ⟨t1.below b2 (by simp), by unfold termBox; simp; omega, h2, ((Below.refl _ w).alloc (Nat.le_refl _) _).alloc (by simp) _, Nat.le_refl _⟩
theorem TBox.below {w w1 w2 : World} {g : Nat} {x : TM} (h : TBox w w1 g x) (hb : Below w1.heap.size w1 w2) : TBox w w2 g x := ⟨h.t.below hb h.tl, Nat.lt_of_lt_of_le h.tl hb.size, h.r.below hb, h.hb.trans (hb.mono h.hb.size), h.hg⟩
theorem TBox.alloc {w w1 : World} {g : Nat} {x : TM} (h : TBox w w1 g x) (o : Obj) : TBox w (w1.alloc o) g x := h.below ((Below.refl _ w1).alloc (Nat.le_refl _) o)
theorem TBox.put3 {w w1 : World} {g : Nat} {a : TM} (h : TBox w w1 g a) (x y z : Value) : Below w.heap.size w (((w1.setCell ⟨g + 1, 0, none⟩ x).setCell ⟨g + 1, 1, none⟩ y).setCell ⟨g + 1, 2, none⟩ z) :=
  Below.set3' h.hb (by have := h.hg; omega) _ _ _

set_option maxRecDepth 100000 in
set_option maxHeartbeats 4000000 in
theorem gVariable_any (b lo gf : Nat) (caps : Array Value) (ask : Asks) (N : ByteArray → Prop) (B : Nat) (w0 : World) (t : TM) (ht : t.op = 1 ∨ t.op = 2) (st : List V) (w : World) (hM : RunM w b lo (.func (.func gf) #[] caps) st)
    (hA : AskC gf caps ask N B w0) (hN : N t.nm) (hW : Below B w0 w) (hB : B ≤ w.heap.size) :
    Calls Tryz.prog 118 #[.pointer (some ⟨b, 0, none⟩), termVal t] w (RetBr (varH ask (decide (t.op = 2)) t.nm) w) := by
  have h3 := TBox.new w t
  have HAsk := Lib.hid (gAsk_any b lo gf caps ask N B w0 t.nm st (termBox w t) (hM.below h3.hb) hA hN (hW.trans (h3.hb.mono hB)) (Nat.le_trans hB h3.hb.size))
  have H3 := Lib.hid h3
  obtain ⟨X, hX⟩ : ∃ X, varH ask (decide (t.op = 2)) t.nm = X := ⟨_, rfl⟩
  rw [hX]
  unfold varH at hX
  obtain ⟨op, ⟨vk, vn, vs⟩, nm⟩ := t
  simp only [termVal] at *
  obtain ⟨x, hx⟩ : ∃ x, ask nm = x := ⟨_, rfl⟩
  rw [hx] at hX HAsk
  obtain ⟨q, hq⟩ : ∃ q, (op == 2) = q := ⟨_, rfl⟩
  have hq' : decide (op = 2) = q := by rw [← hq]; exact (b_d2 op).symm
  rw [hq'] at hX
  clear hM hA hN hW hB hx h3 hq' ht
  go_enter Tryz.func118, Tryz.ntmps118
  go_upto_region 1 with fail
  simp only [termBox_def]
  obtain ⟨g, hg⟩ : ∃ g, w.heap.size = g := ⟨_, rfl⟩
  rw [hg] at H3
  obtain ⟨w3, hw3⟩ : ∃ y, termBox w ⟨op, ⟨vk, vn, vs⟩, nm⟩ = y := ⟨_, rfl⟩
  rw [hw3] at H3 HAsk ⊢
  simp only [hg]
  clear hw3 hg
  obtain ⟨c0, _, _, _, c4⟩ := H3.out.t
  simp only [Nat.zero_add] at c0 c4
  go_wp2_with fail
  refine HAsk.out.mono ?_
  rintro r w4 ⟨k, n, s, is, u, rfl, hb4, hp⟩
  dsimp only
  have H4 := Lib.hid (H3.out.below hb4)
  clear H3 HAsk hb4 c0 c4
  obtain ⟨c0, _, _, _, c4⟩ := (H4.out.alloc (.cells #[.int .i64 k, .int .i64 n, .string s] 27)).t
  simp only [Nat.zero_add] at c0 c4
  obtain ⟨r0, r1, r2⟩ := (H4.out.alloc (.cells #[.int .i64 k, .int .i64 n, .string s] 27)).r.cells
  have f0 := (H4.out.alloc (.cells #[.int .i64 k, .int .i64 n, .string s] 27)).r.frozen 0
  have f1 := (H4.out.alloc (.cells #[.int .i64 k, .int .i64 n, .string s] 27)).r.frozen 1
  have f2 := (H4.out.alloc (.cells #[.int .i64 k, .int .i64 n, .string s] 27)).r.frozen 2
  cases x with
  | inr e =>
    obtain ⟨e, ps⟩ := e
    have hp : ErrO w4 (some (e, ps)) u := hp
    obtain ⟨T, y, rfl⟩ := hp.iface
    have HX : Hid (X = .inr (e, nm :: ps)) := Lib.hid hX.symm
    have HE := Lib.hid hp
    clear hX hp
    go_wp2_with fail
    refine (wrap_any nm ps _ e _ _ (HE.out.1.below (box_below w4 _ _) (Nat.le_refl _)) HE.out.2 (by simp)).mono ?_
    rintro r w5 ⟨u2, rfl, hE5, hb5⟩
    have H5 := Lib.hid ((H4.out.alloc _).below hb5)
    have HE5 : Hid (ErrO w5 (some (e, nm :: ps)) u2) := Lib.hid ⟨hE5, .inl (by simp)⟩
    clear hb5 hE5 H4 HE c0 c4 r0 r1 r2 f0 f1 f2
    obtain ⟨r0, r1, r2⟩ := H5.out.r.cells
    have f0 := H5.out.r.frozen 0
    have f1 := H5.out.r.frozen 1
    have f2 := H5.out.r.frozen 2
    obtain ⟨t0, t1, t2⟩ := (H5.out.r.set3' 0 0 ⟨#[]⟩).cells
    have HP := Lib.hid (H5.out.put3 (.int .i64 0) (.int .i64 0) (.string ⟨#[]⟩))
    have HQ := Lib.hid (ErrO.put3 (y0 := .int .i64 0) (y1 := .int .i64 0) (y2 := .string ⟨#[]⟩) H5.out.r.three HE5.out)
    go_wp2
    refine bodyPost_ret (v := .tuple #[.agg #[.int .i64 0, .int .i64 0, .string ⟨#[]⟩], u2]) (by simp [results, Tryz.results118, go_sem, t0, t1, t2]) rfl ⟨0, 0, ⟨#[]⟩, u2, rfl, HP.out, ?_⟩
    rw [HX.out]
    exact HQ.out
  | inl o =>
    obtain ⟨hv, his, hu⟩ := hp
    subst hu
    cases q with
    | true =>
      have HX : Hid (X = .inl (truthV is)) := Lib.hid (by rw [← hX, his]; rfl)
      have HV := Lib.hid (fun W => vBool_any is W)
      clear hX hv his
      cases is
      · simp only [Bool.false_eq_true, if_false] at HV
        go_wp2_with fail
        refine (HV.out _).mono ?_
        rintro r w5 ⟨rfl, hb5⟩
        have H5 := Lib.hid ((H4.out.alloc _).below hb5)
        clear hb5 H4 c0 c4 r0 r1 r2 f0 f1 f2
        obtain ⟨r0, r1, r2⟩ := H5.out.r.cells
        have f0 := H5.out.r.frozen 0
        have f1 := H5.out.r.frozen 1
        have f2 := H5.out.r.frozen 2
        obtain ⟨t0, t1, t2⟩ := (H5.out.r.set3' 2 0 ⟨#[]⟩).cells
        have HP := Lib.hid (H5.out.put3 (.int .i64 2) (.int .i64 0) (.string ⟨#[]⟩))
        go_wp2
        refine bodyPost_ret (v := .tuple #[.agg #[.int .i64 2, .int .i64 0, .string ⟨#[]⟩], .nilIface]) (by simp [results, Tryz.results118, go_sem, t0, t1, t2]) rfl ⟨2, 0, ⟨#[]⟩, .nilIface, rfl, HP.out, ?_⟩
        rw [HX.out]
        exact ⟨rfl, rfl⟩
      · simp only [if_true] at HV
        go_wp2_with fail
        refine (HV.out _).mono ?_
        rintro r w5 ⟨rfl, hb5⟩
        have H5 := Lib.hid ((H4.out.alloc _).below hb5)
        clear hb5 H4 c0 c4 r0 r1 r2 f0 f1 f2
        obtain ⟨r0, r1, r2⟩ := H5.out.r.cells
        have f0 := H5.out.r.frozen 0
        have f1 := H5.out.r.frozen 1
        have f2 := H5.out.r.frozen 2
        obtain ⟨t0, t1, t2⟩ := (H5.out.r.set3' 2 1 ⟨#[]⟩).cells
        have HP := Lib.hid (H5.out.put3 (.int .i64 2) (.int .i64 1) (.string ⟨#[]⟩))
        go_wp2
        refine bodyPost_ret (v := .tuple #[.agg #[.int .i64 2, .int .i64 1, .string ⟨#[]⟩], .nilIface]) (by simp [results, Tryz.results118, go_sem, t0, t1, t2]) rfl ⟨2, 1, ⟨#[]⟩, .nilIface, rfl, HP.out, ?_⟩
        rw [HX.out]
        exact ⟨rfl, rfl⟩
    | false =>
      cases o with
      | some v =>
        replace his : is = true := his
        subst his
        have HX : Hid (X = .inl ⟨k, n, s⟩) := Lib.hid (by rw [← hX]; exact congrArg Sum.inl hv.symm)
        clear hX hv
        have H5 := Lib.hid (H4.out.alloc (.cells #[.int .i64 k, .int .i64 n, .string s] 27))
        obtain ⟨t0, t1, t2⟩ := (H5.out.r.set3' k n s).cells
        have HP := Lib.hid (H5.out.put3 (.int .i64 k) (.int .i64 n) (.string s))
        obtain ⟨v0, v1, v2⟩ := (Boxed.new w4 k n s).cells
        simp only at v0 v1 v2
        go_wp2
        refine bodyPost_ret (v := .tuple #[.agg #[.int .i64 k, .int .i64 n, .string s], .nilIface]) (by simp [results, Tryz.results118, go_sem, t0, t1, t2]) rfl ⟨k, n, s, .nilIface, rfl, HP.out, ?_⟩
        rw [HX.out]
        exact ⟨rfl, rfl⟩
      | none =>
        replace his : is = false := his
        subst his
        have HX : Hid (X = .inr (numE 61 [nm])) := Lib.hid (by rw [← hX]; rfl)
        clear hX hv
        go_wp2_with (go_at_call 45; refine (of_num 61 _ (by decide)).mono ?_; rintro r w5 ⟨rfl, rfl⟩)
        refine (wrap_any nm [] _ (End.num 61) _ _ (show Err _ 0 (End.num 61) [] _ from rfl) (.inr (by intro h; cases h)) (Nat.zero_le _)).mono ?_
        rintro r w5 ⟨u2, rfl, hE5, hb5⟩
        have H5 := Lib.hid ((H4.out.alloc _).below hb5)
        have HE5 : Hid (ErrO w5 (some (numE 61 [nm])) u2) := Lib.hid ⟨hE5, .inl (by simp)⟩
        clear hb5 hE5 H4 c0 c4 r0 r1 r2 f0 f1 f2
        obtain ⟨r0, r1, r2⟩ := H5.out.r.cells
        have f0 := H5.out.r.frozen 0
        have f1 := H5.out.r.frozen 1
        have f2 := H5.out.r.frozen 2
        obtain ⟨t0, t1, t2⟩ := (H5.out.r.set3' 0 0 ⟨#[]⟩).cells
        have HP := Lib.hid (H5.out.put3 (.int .i64 0) (.int .i64 0) (.string ⟨#[]⟩))
        have HQ := Lib.hid (ErrO.put3 (y0 := .int .i64 0) (y1 := .int .i64 0) (y2 := .string ⟨#[]⟩) H5.out.r.three HE5.out)
        go_wp2
        refine bodyPost_ret (v := .tuple #[.agg #[.int .i64 0, .int .i64 0, .string ⟨#[]⟩], u2]) (by simp [results, Tryz.results118, go_sem, t0, t1, t2]) rfl ⟨0, 0, ⟨#[]⟩, u2, rfl, HP.out, ?_⟩
        rw [HX.out]
        exact HQ.out
end Go.Proofs.YtidomoibhjgkjaaGreatDoor
