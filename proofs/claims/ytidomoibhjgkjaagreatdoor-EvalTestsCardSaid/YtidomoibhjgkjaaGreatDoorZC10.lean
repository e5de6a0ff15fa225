import Derived.Test.YtidomoibhjgkjaaGreatDoorZC09
import Derived.Defers
import Derived.Recover
import Derived.Laws.Pointers
import Derived.Test.YtidomoibhjgkjaaGreatDoorZC06
import Derived.Test.YtidomoibhjgkjaaGreatDoorZC03
/-
  safely of package fault (a call under a deferred recover), and Code, Needed and Is, of any error that is made of places around an end.
-/
namespace Go.Proofs.YtidomoibhjgkjaaGreatDoor
open Go.RowKit

theorem catch_idle (w : World) : CallsD Tryz.prog 69 #[] .returning w fun e u' w' => e = .returned (.tuple #[]) ∧ u' = .returning ∧ w' = w := by
  refine callsD_of_wpS Tryz.func69 rfl fun c₀ cs hu => ?_
  apply wpS_region
  simp [wpOpsS, go_sem, recoverD, hu, Tryz.ntmps69]
  cases c₀
  simp_all [bodyPostS, results, Tryz.results69]

theorem safely_of (k : FuncId) (caps : Array Value) (w : World) (R : World → Prop) (hk : (callFunc k caps).run Tryz.prog w = .ok (.enter k caps) w)
    (H : Calls Tryz.prog k caps w fun e w' => e = .returned (.tuple #[]) ∧ R w') :
    Calls Tryz.prog 39 #[.func (.func k) #[] caps] w fun e w' => e = .returned (.tuple #[]) ∧ R w' := by
  have H' := Lib.hid H
  clear H
  go_enter_defers Tryz.func39, Tryz.ntmps39
  go_wp2_with (refine (H'.out).mono ?_; rintro e w' ⟨rfl, hq⟩)
  refine leaves_cons (f := 69) (args := #[]) (by simp) (by simp [go_sem]) ?_
  refine (catch_idle _).mono ?_
  rintro e u' w'' ⟨rfl, rfl, rfl⟩
  exact ⟨_, results_none rfl _ _ _, rfl, hq⟩

/-- The number of an error that is one. -/
def codeOf : End → Int
  | none => 20
  | some (.inl n) => n
  | some (.inr _) => 20

theorem bcell {B : Nat} {w w1 : World} (hb : Below B w w1) {b k : Nat} {v : Value} (hB : b < B) (h : w.cell? ⟨b, k, none⟩ = some v) : w1.cell? ⟨b, k, none⟩ = some v := (hb.cell (p := ⟨b, k, none⟩) hB).trans h
theorem bfrozen {B : Nat} {w w1 : World} (hb : Below B w w1) {b k : Nat} (hB : b < B) (h : w.frozen? ⟨b, k, none⟩ = false) : w1.frozen? ⟨b, k, none⟩ = false := (hb.frozen (p := ⟨b, k, none⟩) hB).trans h

set_option maxHeartbeats 1000000 in
theorem code1_num (ps : List ByteArray) (v : Value) (n : Int) (hi pe pc : Nat) (o : Value) (w : World) (he : Err w hi (End.num n) ps v) (hhi : hi ≤ w.heap.size) (hG : GlobW w)
    (hv : w.cell? ⟨pe, 0, none⟩ = some v) (hc : w.cell? ⟨pc, 0, none⟩ = some o) (hf : w.frozen? ⟨pc, 0, none⟩ = false) :
    Calls Tryz.prog 40 #[.pointer (some ⟨pe, 0, none⟩), .pointer (some ⟨pc, 0, none⟩)] w fun e w' => e = .returned (.tuple #[]) ∧ Below w.heap.size (w.setCell ⟨pc, 0, none⟩ (.int .i64 n)) w' := by
  have hv1 := cell_alloc hv (.cells #[.int .i64 0] 33)
  have hc1 := Lib.hid (cell_alloc hc (.cells #[.int .i64 n] 33))
  have hf1 := Lib.hid (frozen_alloc hc (.cells #[.int .i64 n] 33) hf)
  have hlt : pc < w.heap.size := World.block_lt_of_cell? w _ hc
  have HB : Below w.heap.size w (w.alloc (.cells #[.int .i64 0] 33)) := (Below.refl _ w).alloc (Nat.le_refl _) _
  have HE := Lib.hid (he.below HB hhi)
  have HG := Lib.hid (hG.below HB hG.big)
  clear he hG hv hc hf HB
  go_enter Tryz.func40, Tryz.ntmps40
  go_wp2_with fail
  refine (AsE_num ps v n hi w.heap.size (.int .i64 0) _ HE.out (by simp; omega) HG.out (by simp) (by simp)).mono ?_
  rintro e w' ⟨rfl, hb⟩
  have h1 : Below (w.heap.size + 1) (w.alloc (.cells #[.int .i64 n] 33)) w' := by simpa [World.setCell_alloc_at] using hb
  clear hb
  have c1 := bcell h1 (by omega) (show (w.alloc (.cells #[.int .i64 n] 33)).cell? ⟨w.heap.size, 0, none⟩ = some (.int .i64 n) by simp)
  have c2 := bcell h1 (by omega) hc1.out
  have c3 := bfrozen h1 (by omega) hf1.out
  have H1 := Lib.hid (((Below.refl _ w).alloc (Nat.le_refl _) _).trans (h1.mono (by omega)))
  clear h1 hv1
  go_wp2_with fail
  go_end0
  exact ⟨rfl, below_set H1.out _ _⟩

set_option maxHeartbeats 1000000 in
theorem code1_need (ps : List ByteArray) (v : Value) (a b : ByteArray) (hi pe pc : Nat) (o : Value) (w : World) (he : Err w hi (End.need a b) ps v) (hhi : hi ≤ w.heap.size) (hG : GlobW w)
    (hv : w.cell? ⟨pe, 0, none⟩ = some v) (hc : w.cell? ⟨pc, 0, none⟩ = some o) (hf : w.frozen? ⟨pc, 0, none⟩ = false) :
    Calls Tryz.prog 40 #[.pointer (some ⟨pe, 0, none⟩), .pointer (some ⟨pc, 0, none⟩)] w fun e w' => e = .returned (.tuple #[]) ∧ Below w.heap.size w w' := by
  have hv1 := cell_alloc hv (.cells #[.int .i64 0] 33)
  have hc1 := Lib.hid (cell_alloc hc (.cells #[.int .i64 0] 33))
  have hf1 := Lib.hid (frozen_alloc hc (.cells #[.int .i64 0] 33) hf)
  have hlt : pc < w.heap.size := World.block_lt_of_cell? w _ hc
  have HB : Below w.heap.size w (w.alloc (.cells #[.int .i64 0] 33)) := (Below.refl _ w).alloc (Nat.le_refl _) _
  have HE := Lib.hid (he.below HB hhi)
  have HG := Lib.hid (hG.below HB hG.big)
  clear he hG hv hc hf HB
  go_enter Tryz.func40, Tryz.ntmps40
  go_wp2_with fail
  refine (AsE_need ps v a b hi w.heap.size _ HE.out (by simp; omega) HG.out).mono ?_
  rintro e w' ⟨rfl, hb⟩
  have H1 := Lib.hid (((Below.refl _ w).alloc (Nat.le_refl _) _).trans (hb.mono (by simp)))
  clear hb hv1
  go_wp2_with fail
  go_end0
  exact ⟨rfl, H1.out⟩

set_option maxHeartbeats 1000000 in
theorem code1_nil (ps : List ByteArray) (v : Value) (hi pe pc : Nat) (o : Value) (w : World) (he : Err w hi End.nil ps v) (hs : some? End.nil ps) (hhi : hi ≤ w.heap.size) (hG : GlobW w)
    (hv : w.cell? ⟨pe, 0, none⟩ = some v) (hc : w.cell? ⟨pc, 0, none⟩ = some o) (hf : w.frozen? ⟨pc, 0, none⟩ = false) :
    Calls Tryz.prog 40 #[.pointer (some ⟨pe, 0, none⟩), .pointer (some ⟨pc, 0, none⟩)] w fun e w' => e = .returned (.tuple #[]) ∧ Below w.heap.size w w' := by
  have hv1 := cell_alloc hv (.cells #[.int .i64 0] 33)
  have hc1 := Lib.hid (cell_alloc hc (.cells #[.int .i64 0] 33))
  have hf1 := Lib.hid (frozen_alloc hc (.cells #[.int .i64 0] 33) hf)
  have hlt : pc < w.heap.size := World.block_lt_of_cell? w _ hc
  have HB : Below w.heap.size w (w.alloc (.cells #[.int .i64 0] 33)) := (Below.refl _ w).alloc (Nat.le_refl _) _
  have HE := Lib.hid (he.below HB hhi)
  have HG := Lib.hid (hG.below HB hG.big)
  clear he hG hv hc hf HB
  go_enter Tryz.func40, Tryz.ntmps40
  go_wp2_with fail
  refine (AsE_nil ps v hi w.heap.size _ HE.out hs (by simp; omega) HG.out).mono ?_
  rintro e w' ⟨rfl, hb⟩
  have H1 := Lib.hid (((Below.refl _ w).alloc (Nat.le_refl _) _).trans (hb.mono (by simp)))
  clear hb hv1
  go_wp2_with fail
  go_end0
  exact ⟨rfl, H1.out⟩

theorem code_none (w : World) : Calls Tryz.prog 13 #[.nilIface] w fun e w' => e = .returned (.int .i64 0) ∧ Below w.heap.size w w' := by
  go_enter Tryz.func13, Tryz.ntmps13
  go_wp2
  go_ret
  exact ⟨rfl, (Below.refl _ w).alloc (Nat.le_refl _) _⟩

set_option maxHeartbeats 1000000 in
theorem code_any (ps : List ByteArray) (v : Value) (e : End) (hi : Nat) (w : World) (he : Err w hi e ps v) (hs : some? e ps) (hhi : hi ≤ w.heap.size) (hG : GlobW w) :
    Calls Tryz.prog 13 #[v] w fun r w' => r = .returned (.int .i64 (codeOf e)) ∧ Below w.heap.size w w' := by
  have hmf : ∀ (fn : Fn) (first cap : Array Value) (w : World), (Instr.makeFunc fn first cap).run Tryz.prog w = .ok (.func fn first cap) w := fun _ _ _ _ => rfl
  have HB : Below w.heap.size w ((w.alloc (.cells #[v] 29)).alloc (.cells #[.int .i64 20] 33)) := ((Below.refl _ w).alloc (Nat.le_refl _) _).alloc (by simp) _
  have HE := he.below HB hhi
  have HG := hG.below HB hG.big
  have H := Lib.hid (show Calls Tryz.prog 40 #[.pointer (some ⟨w.heap.size, 0, none⟩), .pointer (some ⟨w.heap.size + 1, 0, none⟩)] ((w.alloc (.cells #[v] 29)).alloc (.cells #[.int .i64 20] 33))
      fun r w' => r = .returned (.tuple #[]) ∧ Below (w.heap.size + 2) ((w.alloc (.cells #[v] 29)).alloc (.cells #[.int .i64 (codeOf e)] 33)) w' from by
    rcases e with _ | n | ⟨a, b⟩
    · refine (code1_nil ps v hi _ _ (.int .i64 20) _ HE hs (by simp; omega) HG (by simp) (by simp) (by simp)).mono ?_
      rintro r w' ⟨rfl, hb⟩
      exact ⟨rfl, by simpa [codeOf] using hb⟩
    · refine (code1_num ps v n hi _ _ (.int .i64 20) _ HE (by simp; omega) HG (by simp) (by simp) (by simp)).mono ?_
      rintro r w' ⟨rfl, hb⟩
      refine ⟨rfl, ?_⟩
      simpa [World.setCell_alloc_at, codeOf] using hb
    · refine (code1_need ps v a b hi _ _ (.int .i64 20) _ HE (by simp; omega) HG (by simp) (by simp) (by simp)).mono ?_
      rintro r w' ⟨rfl, hb⟩
      exact ⟨rfl, by simpa [codeOf] using hb⟩)
  obtain ⟨T, y, rfl⟩ := he.iface hs
  clear he hG HB HE HG hs
  go_enter Tryz.func13, Tryz.ntmps13
  go_wp2_with fail
  refine (safely_of 40 _ _ (fun w' => Below (w.heap.size + 2) ((w.alloc (.cells #[.iface T y] 29)).alloc (.cells #[.int .i64 (codeOf e)] 33)) w') (by kernel_rfl) (H.out)).mono ?_
  rintro r w' ⟨rfl, hb⟩
  have c1 := bcell hb (by omega) (show ((w.alloc (.cells #[.iface T y] 29)).alloc (.cells #[.int .i64 (codeOf e)] 33)).cell? ⟨w.heap.size + 1, 0, none⟩ = some (.int .i64 (codeOf e)) by simp)
  have H1 := Lib.hid ((((Below.refl _ w).alloc (Nat.le_refl _) _).alloc (by simp) _).trans (hb.mono (by omega)))
  clear hb H
  go_wp2_with fail
  go_ret
  exact ⟨rfl, H1.out⟩
end Go.Proofs.YtidomoibhjgkjaaGreatDoor

/-
  What expressions come to where the function that is asked may have errors: as runG, with errors that are places around an end.
-/
namespace Go.Proofs.YtidomoibhjgkjaaGreatDoor
open Go.RowKit

abbrev Er : Type := End × List ByteArray
abbrev Asks : Type := ByteArray → Option V ⊕ Er
def numE (c : Int) (p : List ByteArray) : Er := (End.num c, p)
/-- What a variable's term comes to. -/
def varH (ask : Asks) (has : Bool) (nm : ByteArray) : V ⊕ Er :=
  match ask nm with
  | .inr (e, ps) => .inr (e, nm :: ps)
  | .inl o => if has = true then .inl (truthV o.isSome) else match o with | some v => .inl v | none => .inr (numE 61 [nm])
/-- What a term brings, and how many values it takes. -/
def bringH (ask : Asks) (t : TM) (st : List V) : V ⊕ Er :=
  if t.op = 0 then .inl t.v
  else if t.op = 1 then varH ask false t.nm
  else if t.op = 2 then varH ask true t.nm
  else if t.op < 6 then (match st with | a :: _ => if (oneV t.op a).2 = 0 then .inl (oneV t.op a).1 else .inr (numE (oneV t.op a).2 []) | [] => .inr (numE 6 []))
  else (match st with | b :: a :: _ => if (twoV t.op a b).2 = 0 then .inl (twoV t.op a b).1 else .inr (numE (twoV t.op a b).2 []) | _ => .inr (numE 6 []))
def stepH (ask : Asks) (t : TM) (st : List V) : List V ⊕ Er :=
  match bringH ask t st with
  | .inl v => .inl (v :: st.drop (takesT t.op))
  | .inr e => .inr e
/-- The fuel that is left behind an error: whoever has no fuel has not taken his one. -/
def leftH (e : End) (f : Nat) : Nat := if codeOf e = 60 then f + 1 else f
def runH (ask : Asks) : List TM → List V → Nat → (List V ⊕ Er) × Nat
  | [], st, f => (.inl st, f)
  | _ :: _, _, 0 => (.inr (numE 60 []), 0)
  | t :: l, st, f + 1 => match stepH ask t st with
    | .inl st' => runH ask l st' f
    | .inr e => (.inr e, leftH e.1 f)
def ofH (ask : Asks) (e : List TM) (f : Nat) : V × Nat × Option Er :=
  if checkL e ≠ 0 then (V0, f, some (numE (checkL e) [])) else match runH ask e [] f with
  | (.inl st, m) => (st.headD V0, m, none)
  | (.inr x, m) => (V0, m, some x)

/-- A function that has no errors. -/
def askOf (get : ByteArray → Option V) : Asks := fun nm => .inl (get nm)
def erOf (c : Int) (p : List ByteArray) : Option Er := if c = 0 then none else some (numE c p)
theorem step_of (get : ByteArray → Option V) {t : TM} (ht : ownT t = 0) {st : List V} (hn : takesT t.op ≤ st.length) :
    stepH (askOf get) t st = match stepG get t st with | .inl s => .inl s | .inr (c, p) => .inr (numE c p) := by
  obtain ⟨h0, h18, _, _⟩ := own_op ht
  unfold stepH bringH stepG
  by_cases e0 : t.op = 0
  · rw [if_pos e0, if_pos e0, show takesT t.op = 0 from if_pos (by omega)]
    rfl
  rw [if_neg e0, if_neg e0]
  by_cases e1 : t.op = 1
  · rw [if_pos e1, if_pos e1, show takesT t.op = 0 from if_pos (by omega)]
    unfold varH askOf
    cases get t.nm <;> rfl
  rw [if_neg e1, if_neg e1]
  by_cases e2 : t.op = 2
  · rw [if_pos e2, if_pos e2, show takesT t.op = 0 from if_pos (by omega)]
    rfl
  rw [if_neg e2, if_neg e2]
  by_cases e6 : t.op < 6
  · have h1 : takesT t.op = 1 := by unfold takesT; rw [if_neg (by omega), if_pos e6]
    rw [if_pos e6, if_pos e6, h1]
    rw [h1] at hn
    match st, hn with
    | a :: r, _ =>
      simp only
      by_cases hq : (oneV t.op a).2 = 0
      · rw [if_pos hq, if_pos hq]; rfl
      · rw [if_neg hq, if_neg hq]
  · have h2 : takesT t.op = 2 := by unfold takesT; rw [if_neg (by omega), if_neg e6]
    rw [if_neg e6, if_neg e6, h2]
    rw [h2] at hn
    match st, hn with
    | b :: a :: r, _ =>
      simp only
      by_cases hq : (twoV t.op a b).2 = 0
      · rw [if_pos hq, if_pos hq]; rfl
      · rw [if_neg hq, if_neg hq]
theorem run_of (get : ByteArray → Option V) : ∀ (l : List TM) (st : List V) (f m : Nat), checkGo st.length l = (0, m) →
    runH (askOf get) l st f = match runG get l st f with | (.inl s, k) => (.inl s, k) | (.inr (c, p), k) => (.inr (numE c p), k)
  | [], st, f, _, _ => rfl
  | t :: l, st, 0, _, _ => rfl
  | t :: l, st, f + 1, m, h => by
    rw [checkGo] at h
    by_cases h1 : ownT t = 0
    · rw [if_neg (by simp [h1])] at h
      by_cases h2 : st.length < takesT t.op
      · rw [if_pos h2] at h; cases h
      · rw [if_neg h2] at h
        simp only [runH, runG]
        rw [step_of get h1 (by omega)]
        cases hs : stepG get t st with
        | inl s' =>
          have hl := step_len h1 (by omega) hs
          rw [← hl] at h
          exact run_of get l s' f m h
        | inr e =>
          obtain ⟨c, p⟩ := e
          have hc := (step_err hs).2
          simp only [leftH]
          rw [if_neg (show ¬ codeOf (numE c p).1 = 60 from hc)]
    · rw [if_pos h1] at h
      injection h with h _
      exact absurd h h1
theorem run_nz (get : ByteArray → Option V) : ∀ (l : List TM) (st : List V) (f : Nat) {c : Int} {p : List ByteArray} {m : Nat}, runG get l st f = (.inr (c, p), m) → c ≠ 0
  | [], _, _, _, _, _, h => by simp [runG] at h
  | _ :: _, _, 0, c, _, _, h => by
    simp only [runG, Prod.mk.injEq, Sum.inr.injEq] at h
    omega
  | t :: l, st, f + 1, c, p, m, h => by
    simp only [runG] at h
    cases hs : stepG get t st with
    | inl s' => rw [hs] at h; exact run_nz get l s' f h
    | inr e =>
      rw [hs] at h
      simp only [Prod.mk.injEq, Sum.inr.injEq] at h
      rw [h.1] at hs
      exact (step_err hs).1
theorem of_of (get : ByteArray → Option V) (e : List TM) (f : Nat) : ofH (askOf get) e f = ((ofG get e f).1, (ofG get e f).2.1, erOf (ofG get e f).2.2.1 (ofG get e f).2.2.2) := by
  by_cases h : checkL e = 0
  · unfold ofH
    rw [if_neg (by simp [h]), ofG_right get h, run_of get e [] f 1 (right_go h)]
    cases hr : runG get e [] f with
    | mk x k =>
      cases x with
      | inl s => rfl
      | inr cp =>
        obtain ⟨c, p⟩ := cp
        have := run_nz get e [] f hr
        show (V0, k, some (numE c p)) = (V0, k, erOf c p)
        rw [erOf, if_neg this]
  · unfold ofH ofG
    rw [if_pos h, if_pos h]
    show (V0, f, some (numE (checkL e) [])) = (V0, f, erOf (checkL e) [])
    rw [erOf, if_neg h]
end Go.Proofs.YtidomoibhjgkjaaGreatDoor

/-
  Whether two values are the same, as Go compares them.
-/
namespace Go.Proofs.YtidomoibhjgkjaaGreatDoor
open Go.RowKit

/-- Are two values the same? -/
def eqV (a b : V) : Bool := decide (cmpV a b = 0)
theorem eqV_self (a : V) : eqV a a = true := by simp [eqV, (cmpV_zero a a).2 rfl]
theorem eqV_iff {a b : V} : eqV a b = true ↔ a = b := by simp [eqV, cmpV_zero]
theorem eq_in (k n k' n' : Int) (s s' : ByteArray) (w : World) : (Op.equalIn 10000 27 (.agg #[.int .i64 k, .int .i64 n, .string s]) (.agg #[.int .i64 k', .int .i64 n', .string s'])).run Tryz.prog w = .ok (eqV ⟨k, n, s⟩ ⟨k', n', s'⟩) w := by
  simp [go_sem, Tryz.underlying27, Tryz.underlying3, Tryz.underlying2, Tryz.underlying9]
  by_cases h1 : k = k'
  · by_cases h2 : n = n'
    · by_cases h3 : s.toList = s'.toList
      · have : s = s' := by rw [ByteArray.toList_eq, ByteArray.toList_eq] at h3; exact ba_list h3
        subst h1 h2 this
        simp [eqV_self]
      · have e : eqV ⟨k, n, s⟩ ⟨k', n', s'⟩ = false := by
          rw [Bool.eq_false_iff]
          intro h
          have := eqV_iff.1 h
          injection this with _ _ e3
          exact h3 (by rw [e3])
        simp [h1, h2, h3] at *
        simp [e]
    · have e : eqV ⟨k, n, s⟩ ⟨k', n', s'⟩ = false := by
        rw [Bool.eq_false_iff]
        intro h
        have := eqV_iff.1 h
        injection this with _ e2 _
        exact h2 e2
      simp [h1, h2] at *
      simp [e]
  · have e : eqV ⟨k, n, s⟩ ⟨k', n', s'⟩ = false := by
      rw [Bool.eq_false_iff]
      intro h
      have := eqV_iff.1 h
      injection this with e1 _ _
      exact h1 e1
    simp [h1, e]
end Go.Proofs.YtidomoibhjgkjaaGreatDoor

/-
  Package value: Int, Bool, Text, and Right.
-/
namespace Go.Proofs.YtidomoibhjgkjaaGreatDoor
open Go.RowKit

theorem vInt_all (n : Int) (w : World) : Calls Tryz.prog 95 #[.int .i64 n] w fun r w' => r = .returned (.agg #[.int .i64 1, .int .i64 n, .string ⟨#[]⟩]) ∧ Below w.heap.size w w' := by
  go_enter Tryz.func95, Tryz.ntmps95
  go_wp2
  exact bodyPost_ret (v := .agg #[.int .i64 1, .int .i64 n, .string ⟨#[]⟩]) (by simp [results, Tryz.results95, go_sem]) rfl ⟨rfl, box_below w _ _⟩
theorem vInt_any : IntC := fun n w _ _ => vInt_all n w

theorem vText_any : TextC := by
  intro s w
  go_enter Tryz.func91, Tryz.ntmps91
  go_wp2
  exact bodyPost_ret (v := .agg #[.int .i64 3, .int .i64 0, .string s]) (by simp [results, Tryz.results91, go_sem]) rfl ⟨rfl, box_below w _ _⟩

theorem vBool_any : BoolC := by
  intro b w
  cases b
  · go_enter Tryz.func57, Tryz.ntmps57
    go_wp2
    exact bodyPost_ret (v := .agg #[.int .i64 2, .int .i64 0, .string ⟨#[]⟩]) (by simp [results, Tryz.results57, go_sem]) rfl ⟨rfl, box_below w _ _⟩
  · go_enter Tryz.func57, Tryz.ntmps57
    go_wp2
    exact bodyPost_ret (v := .agg #[.int .i64 2, .int .i64 1, .string ⟨#[]⟩]) (by simp [results, Tryz.results57, go_sem]) rfl ⟨rfl, box_below w _ _⟩
end Go.Proofs.YtidomoibhjgkjaaGreatDoor
