/-
  Texts of values in plain words; what package value has to answer, as contracts that the walks of its statements take for granted; and the chapter's examples from them.
-/
import Derived.Test.YtepniiaojhiogaaDoorVRefC
import Derived.Test.YtepniiaojhiogaaDoorLive
import Derived.Deep.RegionHeld3
import Derived.Deep.RegionHeld
import Derived.Deep.DeepCutAuto
import Derived.BigQuiet
import Derived.Deep.QuietTactic
import Derived.Lib.LaidTab
import Derived.Lib.ItoaNum
namespace Go.Proofs.YtepniiaojhiogaaDoor
open Go.RowKit

/-! ### texts of values -/
/-- A number without a sign in digits. -/
def natL (n : Nat) : List UInt8 := if n < 10 then [UInt8.ofNat (48 + n)] else natL (n / 10) ++ [UInt8.ofNat (48 + n % 10)]
  termination_by n
  decreasing_by omega
theorem natL_small {n : Nat} (h : n < 10) : natL n = [UInt8.ofNat (48 + n)] := by rw [natL, if_pos h]
theorem natL_big {n : Nat} (h : 10 ≤ n) : natL n = natL (n / 10) ++ [UInt8.ofNat (48 + n % 10)] := by rw [natL, if_neg (by omega)]
theorem natL_len (k : Nat) : ∀ n, n < 10 ^ (k + 1) → (natL n).length ≤ k + 1 := by
  induction k with
  | zero => intro n h; rw [natL_small (by omega)]; simp
  | succ k ih =>
    intro n h
    by_cases h1 : n < 10
    · rw [natL_small h1]; simp
    · rw [natL_big (by omega), List.length_append]
      have := ih (n / 10) (by rw [Nat.pow_succ] at h; omega)
      simp
      omega
def intL (n : Int) : List UInt8 := if n < 0 then 45 :: natL (-n).toNat else natL n.toNat
/-- A byte as it stands between quotes. -/
def escB (c : UInt8) : List UInt8 := if c = 34 ∨ c = 92 then [92, c] else if 32 ≤ c.toNat ∧ c.toNat ≤ 126 then [c] else [92, digB (c.toNat / 16), digB (c.toNat % 16)]
def escL (l : List UInt8) : List UInt8 := l.flatMap escB
theorem escL_len (l : List UInt8) : (escL l).length ≤ 3 * l.length := by
  induction l with
  | nil => simp [escL]
  | cons c l ih =>
    have h1 : (escB c).length ≤ 3 := by
      unfold escB
      split
      · simp
      · split <;> simp
    have e : escL (c :: l) = escB c ++ escL l := by simp [escL]
    rw [e, List.length_append, List.length_cons]
    omega
def printV (v : V) : List UInt8 :=
  if v.k = 1 then intL v.n
  else if v.k = 2 then (if v.n ≠ 0 then [116, 114, 117, 101] else [102, 97, 108, 115, 101])
  else 34 :: (escL v.s.data.toList ++ [34])
theorem print_len {v : V} (h : rightV v = 0) (h0 : -9223372036854775808 ≤ v.n) (h1 : v.n ≤ 9223372036854775807) : (printV v).length ≤ 1000 := by
  unfold printV
  split
  · unfold intL
    split
    · have := natL_len 19 (-v.n).toNat (by omega)
      simp; omega
    · have := natL_len 19 v.n.toNat (by omega)
      omega
  · split
    · split <;> simp
    · have hk : v.k = 3 := by rcases right_kind h with e | e | e <;> omega
      have hs := (right_text h hk).1
      have hl : v.s.data.toList.length = v.s.size := rfl
      have := escL_len v.s.data.toList
      simp
      omega
def isNum (c : UInt8) : Bool := decide (48 ≤ c.toNat) && decide (c.toNat ≤ 57)
def isWord (c : UInt8) : Bool := (decide (97 ≤ c.toNat) && decide (c.toNat ≤ 122)) || isNum c || c == 45
/-- What may follow a value's text. -/
def moreOk (k : Int) : List UInt8 → Bool
  | [] => true
  | c :: _ => if k = 1 then !isNum c else if k = 2 then !isWord c else true

/-! ### contracts -/
/-- The library's table of powers of ten lies as its text lays it. -/
def TabW (w : World) : Prop := ∃ t fz, w.heap[0]? = some (.cells (Lib.pow10Tab.map fun z => Value.int .u64 z).toArray t fz)
theorem TabW.below {w w' : World} (h : TabW w) (hb : Below w.heap.size w w') : TabW w' := by
  obtain ⟨t, fz, e⟩ := h
  exact ⟨t, fz, (hb.block _ (Array.getElem?_eq_some_iff.1 e).1).trans e⟩
def RightC : Prop := ∀ (v : V) (w : World), Calls Tryd.prog 13 #[v.val] w fun r w' => r = .returned (.int .i64 (rightV v)) ∧ Below w.heap.size w w'
def CompareC : Prop := ∀ (a b : V) (w : World), Calls Tryd.prog 24 #[a.val, b.val] w fun r w' => r = .returned (.int .i64 (cmpV a b)) ∧ Below w.heap.size w w'
def IntC : Prop := ∀ (n : Int) (w : World), -9223372036854775808 ≤ n → n ≤ 9223372036854775807 → Calls Tryd.prog 18 #[.int .i64 n] w fun r w' => r = .returned (.agg #[.int .i64 1, .int .i64 n, .string ⟨#[]⟩]) ∧ Below w.heap.size w w'
def BoolC : Prop := ∀ (b : Bool) (w : World), Calls Tryd.prog 19 #[.bool b] w fun r w' => r = .returned (.agg #[.int .i64 2, .int .i64 (if b = true then 1 else 0), .string ⟨#[]⟩]) ∧ Below w.heap.size w w'
def TextC : Prop := ∀ (s : ByteArray) (w : World), Calls Tryd.prog 20 #[.string s] w fun r w' => r = .returned (.agg #[.int .i64 3, .int .i64 0, .string s]) ∧ Below w.heap.size w w'
def PutC : Prop := ∀ (v : V) (w : World), -9223372036854775808 ≤ v.n → v.n ≤ 9223372036854775807 → Calls Tryd.prog 16 #[v.val] w (Ret (putV v) w)
def TakeC : Prop := ∀ (b : List UInt8) (A : Option Addr) (c : Nat) (w : World), b.length ≤ c → b.length ≤ 1000000 → c ≤ maxLen → (A = none → c = 0) → Rd w 0 w.heap.size A b →
  Calls Tryd.prog 11 #[.slice A b.length c] w fun r w' => r = retTake (takeV b) ∧ Below w.heap.size w w'
def PrintC : Prop := ∀ (v : V) (w : World), (v.k = 1 → TabW w) → rightV v = 0 → -9223372036854775808 ≤ v.n → v.n ≤ 9223372036854775807 → Calls Tryd.prog 22 #[v.val] w fun r w' => r = .returned (.string ⟨(printV v).toArray⟩) ∧ Below w.heap.size w w'
def ParseC : Prop := ∀ (v : V) (more : List UInt8) (w : World), rightV v = 0 → -9223372036854775808 ≤ v.n → v.n ≤ 9223372036854775807 → moreOk v.k more = true → more.length ≤ 1000000 →
  Calls Tryd.prog 23 #[.string ⟨(printV v ++ more).toArray⟩] w fun r w' => r = retTake (v, (printV v).length, 0) ∧ Below w.heap.size w w'
structure ValueC : Prop where
  right : RightC
  compare : CompareC
  int : IntC
  bool : BoolC
  text : TextC
  put : PutC
  take : TakeC
  print : PrintC
  parse : ParseC

theorem call_from {P : Program} {f : FuncId} {args : Array Value} {v : Value} {W wx : World} (hb : Below W.heap.size W wx) (h : Calls P f args wx fun r w' => r = .returned v ∧ Below wx.heap.size wx w') :
    Calls P f args wx fun r w' => r = .returned v ∧ Below W.heap.size W w' := h.mono fun _ _ ⟨a, b⟩ => ⟨a, hb.trans (b.mono hb.size)⟩

theorem put_m1 : putV ⟨1, -1, ⟨#[]⟩⟩ = [1, 1] := by
  rw [put_right (right_int _)]
  show UInt8.ofNat (1 : Int).toNat :: unInt (-1) = _
  rw [unInt_m1]
  rfl
theorem natL_12 : natL 12 = [49, 50] := by
  rw [natL_big (by omega), natL_small (by omega)]
  rfl
theorem print_12 : printV ⟨1, 12, ⟨#[]⟩⟩ = [49, 50] := by
  show intL 12 = _
  rw [intL, if_neg (by omega)]
  exact natL_12
theorem print_q : printV ⟨3, 0, ⟨#[34]⟩⟩ = [34, 92, 34, 34] := rfl

theorem field_true (w : World) : (Instr.field 23 (.agg #[.int .i64 2, .int .i64 1, .string ⟨#[]⟩]) 1).run Tryd.prog w = .ok (.int .i64 1) w := by kernel_rfl

set_option maxRecDepth 100000 in
set_option maxHeartbeats 2000000 in
theorem liveV_any (K : ValueC) (w : World) : Calls Tryd.prog 10 #[] w fun r w' => r = .returned (.bool true) ∧ Below w.heap.size w w' := by
  have hp := K.parse ⟨1, 12, ⟨#[]⟩⟩ [97] w (right_int _) (by simp) (by simp) (by decide) (by simp)
  rw [print_12] at hp
  have HP : Hid (Calls Tryd.prog 23 #[.string ⟨#[49, 50, 97]⟩] w fun r w' => r = .returned (.tuple #[.agg #[.int .i64 1, .int .i64 12, .string ⟨#[]⟩], .int .i64 2, .int .i64 0]) ∧ Below w.heap.size w w') := Lib.hid hp
  clear hp
  have HI := Lib.hid (fun n (W wx : World) (h0 : -9223372036854775808 ≤ n) (h1 : n ≤ 9223372036854775807) (hb : Below W.heap.size W wx) => call_from hb (K.int n wx h0 h1))
  have hput := fun (wx : World) => K.put ⟨1, -1, ⟨#[]⟩⟩ wx (by simp) (by simp)
  rw [put_m1] at hput
  have HPut : Hid (∀ wx : World, Calls Tryd.prog 16 #[.agg #[.int .i64 1, .int .i64 (-1), .string ⟨#[]⟩]] wx (Ret [1, 1] wx)) := Lib.hid hput
  have HT := Lib.hid (fun s (W wx : World) (hb : Below W.heap.size W wx) => call_from hb (K.text s wx))
  have hpr := fun (W wx : World) (hb : Below W.heap.size W wx) => call_from hb (K.print ⟨3, 0, ⟨#[34]⟩⟩ wx (fun h => absurd h (by decide)) rfl (by simp) (by simp))
  rw [print_q] at hpr
  have HPr : Hid (∀ W wx : World, Below W.heap.size W wx → Calls Tryd.prog 22 #[.agg #[.int .i64 3, .int .i64 0, .string ⟨#[34]⟩]] wx fun r w' => r = .returned (.string ⟨#[34, 92, 34, 34]⟩) ∧ Below W.heap.size W w') := Lib.hid hpr
  clear hput hpr
  have HBo := Lib.hid (fun (W wx : World) (hb : Below W.heap.size W wx) => call_from hb (K.bool true wx))
  clear K
  go_enter Tryd.func10, Tryd.ntmps10
  go_wp2_with fail
  refine (HP.out).mono ?_
  rintro r w1 ⟨rfl, hb⟩
  have HB1 := Lib.hid hb
  clear hb
  go_upto_region 2 with fail
  have h1 := Boxed.new w1 1 12 ⟨#[]⟩
  obtain ⟨w2, hw2⟩ : ∃ wy, w1.alloc (.cells #[.int .i64 1, .int .i64 12, .string ⟨#[]⟩] 23) = wy := ⟨_, rfl⟩
  rw [hw2] at h1
  have HB2 := Lib.hid (show Below w.heap.size w w2 by rw [← hw2]; exact HB1.out.alloc HB1.out.size _)
  have HX := Lib.hid h1
  rw [hw2]
  clear hw2 h1
  have keep : ∀ w', Below w2.heap.size w2 w' → w'.cell? ⟨w1.heap.size, 0, none⟩ = some (.int .i64 1) ∧ w'.cell? ⟨w1.heap.size, 1, none⟩ = some (.int .i64 12) ∧ w'.cell? ⟨w1.heap.size, 2, none⟩ = some (.string ⟨#[]⟩) ∧ Below w2.heap.size w2 w' := fun w' h =>
    have m := (HX.out.below h).cells
    ⟨m.1, m.2.1, m.2.2, h⟩
  have KEEP := Lib.hid keep
  obtain ⟨c0, c1, c2, _⟩ := keep _ (Below.refl _ _)
  clear keep
  have hfl := field_true
  go_region_held (fun w' => w'.cell? ⟨w1.heap.size, 0, none⟩ = some (.int .i64 1) ∧ w'.cell? ⟨w1.heap.size, 1, none⟩ = some (.int .i64 12) ∧ w'.cell? ⟨w1.heap.size, 2, none⟩ = some (.string ⟨#[]⟩) ∧ Below w2.heap.size w2 w')
    (first | with_reducible exact KEEP.out _ hb6 | with_reducible exact KEEP.out _ (Below.refl _ _).drew)
    (first
      | (go_at_call 18; (with_reducible refine (HI.out _ w2 _ (by omega) (by omega) (by go_split_ands; assumption)).mono ?_); rintro r w' ⟨rfl, hb6⟩)
      | (go_at_call 16; (with_reducible refine (HPut.out _).mono ?_); rintro r w' ⟨A3, c3, rfl, hc3, hm3, z3, hr3, hb5⟩; have hb6 := Below.trans hb6 (hb5.mono hb6.size); have hcv := conv_ret (n := 2) (c := c3) rfl hr3)
      | (go_at_call 20; (with_reducible refine (HT.out _ w2 _ (by go_split_ands; assumption)).mono ?_); rintro r w' ⟨rfl, hb6⟩)
      | (go_at_call 22; (with_reducible refine (HPr.out w2 _ (by go_split_ands; assumption)).mono ?_); rintro r w' ⟨rfl, hb6⟩)
      | (go_at_call 19; (with_reducible refine (HBo.out w2 _ (by go_split_ands; assumption)).mono ?_); rintro r w' ⟨rfl, hb6⟩))
  clear hfl
  go_wp2
  go_ret
  exact ⟨rfl, HB2.out.trans (hb6.mono HB2.out.size)⟩
end Go.Proofs.YtepniiaojhiogaaDoor
