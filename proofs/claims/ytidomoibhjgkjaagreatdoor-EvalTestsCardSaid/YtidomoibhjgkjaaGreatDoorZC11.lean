import Derived.Test.YtidomoibhjgkjaaGreatDoorZC06
import Derived.Test.YtidomoibhjgkjaaGreatDoorZC10
import Derived.IntWalk
import Derived.Laws.Bits64
import Derived.Test.YtidomoibhjgkjaaGreatDoorZC04
import Derived.Test.YtidomoibhjgkjaaGreatDoorZC02
/-
  Package eval: numbers that fit in 64 bits, and values that are of one kind.
-/
namespace Go.Proofs.YtidomoibhjgkjaaGreatDoor
open Go.RowKit

/-! ### numbers that wrap round -/
/-- Does a number fit in 64 bits? -/
def fitB (z : Int) : Bool := decide (-9223372036854775808 ≤ z ∧ z ≤ 9223372036854775807)
theorem fitB_iff {z : Int} : fitB z = true ↔ inI z := decide_eq_true_iff
theorem fitB_no {z : Int} : fitB z = false ↔ ¬ inI z := decide_eq_false_iff_not
theorem wrap_in {z : Int} (h : inI z) : IntKind.i64.wrap z = z := IntWalk.i64_in z h
theorem wrap_inI (z : Int) : inI (IntKind.i64.wrap z) := by
  rw [IntKind.wrap_i64]
  unfold inI
  omega
theorem wrap_mod (z : Int) : ∃ k : Int, IntKind.i64.wrap z = z + 18446744073709551616 * k := by
  rw [IntKind.wrap_i64]
  exact ⟨(z + 9223372036854775808) / 18446744073709551616 * (-1), by omega⟩
theorem plus_fits {a b : Int} (ha : inI a) (hb : inI b) : (decide (a < IntKind.i64.wrap (a + b)) == decide (0 < b)) = fitB (a + b) := by
  obtain ⟨a0, a1⟩ := ha
  obtain ⟨b0, b1⟩ := hb
  rw [IntKind.wrap_i64]
  unfold fitB
  rw [Bool.eq_iff_iff, beq_iff_eq, Bool.eq_iff_iff, decide_eq_true_iff, decide_eq_true_iff, decide_eq_true_iff]
  omega
theorem minus_fits {a b : Int} (ha : inI a) (hb : inI b) : (decide (IntKind.i64.wrap (a - b) < a) == decide (0 < b)) = fitB (a - b) := by
  obtain ⟨a0, a1⟩ := ha
  obtain ⟨b0, b1⟩ := hb
  rw [IntKind.wrap_i64]
  unfold fitB
  rw [Bool.eq_iff_iff, beq_iff_eq, Bool.eq_iff_iff, decide_eq_true_iff, decide_eq_true_iff, decide_eq_true_iff]
  omega
/-- A quotient fits but in one place. -/
theorem quot_fits {a b : Int} (ha : inI a) (hb : b ≠ 0) : inI (a.tdiv b) ↔ ¬ (a = -9223372036854775808 ∧ b = -1) := by
  constructor
  · rintro h ⟨rfl, rfl⟩
    have e : (-9223372036854775808 : Int).tdiv (-1) = 9223372036854775808 := by decide
    rw [e] at h
    obtain ⟨_, h⟩ := h
    omega
  · exact tdiv_in ha hb
/-- A product fits, if it can be divided again. -/
theorem prod_fits {a b : Int} (ha : inI a) (hb : inI b) (h0 : b ≠ 0) :
    (inI ((IntKind.i64.wrap (a * b)).tdiv b) ∧ IntKind.i64.wrap ((IntKind.i64.wrap (a * b)).tdiv b) = a) ↔ inI (a * b) := by
  constructor
  · rintro ⟨h, e⟩
    rw [wrap_in h] at e
    obtain ⟨k, hk⟩ := wrap_mod (a * b)
    have hw := wrap_inI (a * b)
    have h1 := div_mod (IntKind.i64.wrap (a * b)) b
    rw [e] at h1
    have h2 := tmod_lt' (m := IntKind.i64.wrap (a * b)) h0
    generalize (IntKind.i64.wrap (a * b)).tmod b = r at *
    generalize IntKind.i64.wrap (a * b) = z at *
    generalize a * b = p at *
    obtain ⟨b0, b1⟩ := hb
    have : k = 0 := by omega
    subst this
    have : z = p := by omega
    rw [← this]
    exact hw
  · intro h
    rw [wrap_in h, Int.mul_tdiv_cancel _ h0]
    exact ⟨ha, wrap_in ha⟩
/-- A number and whether it fits, as a value and an error. -/
theorem fit_val (z : Int) : (if fitB z = true then numG (IntKind.i64.wrap z) else V0, if fitB z = true then (0 : Int) else 9) = fitV z := by
  by_cases h : inI z
  · rw [fitV_in h, if_pos (fitB_iff.2 h), if_pos (fitB_iff.2 h), wrap_in h]
  · rw [fitV_out h, fitB_no.2 h]
    rfl

set_option maxHeartbeats 1000000 in
theorem gNumber_any (z : Int) (b : Bool) (w : World) : Calls Tryz.prog 92 #[.int .i64 z, .bool b] w fun r w' => r = .returned (.tuple #[(if b = true then numG z else V0).val, .int .i64 (if b = true then 0 else 9)]) ∧ Below w.heap.size w w' := by
  have HX0 := Lib.hid (Boxed.new w 0 0 ⟨#[]⟩)
  have HB0 := Lib.hid (box_below w #[.int .i64 0, .int .i64 0, .string ⟨#[]⟩] 27)
  cases b
  · go_enter Tryz.func92, Tryz.ntmps92
    go_wp2
    exact bodyPost_ret (v := .tuple #[V0.val, .int .i64 9]) (by simp [results, Tryz.results92, go_sem, V.val, V0]) rfl ⟨rfl, HB0.out⟩
  · have HI := Lib.hid (vInt_all z)
    go_enter Tryz.func92, Tryz.ntmps92
    go_wp2_with fail
    refine (HI.out _).mono ?_
    rintro r w1 ⟨rfl, hb⟩
    have HX := Lib.hid (HX0.out.below hb)
    have HB := Lib.hid (HB0.out.trans (hb.mono HB0.out.size))
    clear hb HX0 HB0
    obtain ⟨r0, r1, r2⟩ := HX.out.cells
    have f0 := HX.out.frozen 0
    have f1 := HX.out.frozen 1
    have f2 := HX.out.frozen 2
    obtain ⟨t0, t1, t2⟩ := (HX.out.set3' 1 z ⟨#[]⟩).cells
    go_wp2
    refine bodyPost_ret (v := .tuple #[(numG z).val, .int .i64 0]) (by simp [results, Tryz.results92, go_sem, V.val, numG, mtS, t0, t1, t2]) rfl ⟨rfl, ?_⟩
    exact Below.set3' HB.out (Nat.le_refl _) _ _ _
set_option maxHeartbeats 1000000 in
theorem gPlus_any (a b : Int) (ha : inI a) (hb : inI b) (w : World) : Calls Tryz.prog 96 #[.int .i64 a, .int .i64 b] w fun r w' => r = .returned (.tuple #[.int .i64 (IntKind.i64.wrap (a + b)), .bool (fitB (a + b))]) ∧ w = w' := by
  have e := plus_fits ha hb
  clear ha hb
  rw [← e]
  clear e
  generalize hz : IntKind.i64.wrap (a + b) = z
  go_enter Tryz.func96, Tryz.ntmps96
  go_wp2
  refine bodyPost_ret (v := _) (by simp [results, Tryz.results96, go_sem]; rfl) rfl ?_
  exact ⟨rfl, rfl⟩
set_option maxHeartbeats 1000000 in
theorem gMinus_any (a b : Int) (ha : inI a) (hb : inI b) (w : World) : Calls Tryz.prog 97 #[.int .i64 a, .int .i64 b] w fun r w' => r = .returned (.tuple #[.int .i64 (IntKind.i64.wrap (a - b)), .bool (fitB (a - b))]) ∧ w = w' := by
  have e := minus_fits ha hb
  clear ha hb
  rw [← e]
  clear e
  generalize hz : IntKind.i64.wrap (a - b) = z
  go_enter Tryz.func97, Tryz.ntmps97
  go_wp2
  refine bodyPost_ret (v := _) (by simp [results, Tryz.results97, go_sem]; rfl) rfl ?_
  exact ⟨rfl, rfl⟩
set_option maxHeartbeats 1000000 in
theorem gQuotient_any (a b : Int) (ha : inI a) (h0 : b ≠ 0) (w : World) : Calls Tryz.prog 94 #[.int .i64 a, .int .i64 b] w fun r w' => r = .returned (.tuple #[.int .i64 (IntKind.i64.wrap (a.tdiv b)), .bool (fitB (a.tdiv b))]) ∧ w = w' := by
  have e := quot_fits ha h0
  have hb0 : (b == 0) = false := by rw [beq_eq_false_iff_ne]; exact h0
  have d : fitB (a.tdiv b) = ((a != -9223372036854775808) || (b != -1)) := by
    rw [Bool.eq_iff_iff, fitB_iff, e, Bool.or_eq_true, bne_iff_ne, bne_iff_ne]
    omega
  rw [d]
  obtain ⟨k1, hk1⟩ : ∃ k, (a != -9223372036854775808) = k := ⟨_, rfl⟩
  obtain ⟨k2, hk2⟩ : ∃ k, (b != -1) = k := ⟨_, rfl⟩
  rw [hk1, hk2]
  obtain ⟨z, hz⟩ : ∃ z, IntKind.i64.wrap (a.tdiv b) = z := ⟨_, rfl⟩
  rw [hz]
  clear e ha d
  cases k1
  · go_enter Tryz.func94, Tryz.ntmps94
    go_wp2
    refine bodyPost_ret (v := .tuple #[.int .i64 z, .bool k2]) (by simp [results, Tryz.results94, go_sem]) rfl ?_
    exact ⟨rfl, rfl⟩
  · go_enter Tryz.func94, Tryz.ntmps94
    go_wp2
    refine bodyPost_ret (v := .tuple #[.int .i64 z, .bool true]) (by simp [results, Tryz.results94, go_sem]) rfl ?_
    exact ⟨rfl, rfl⟩
set_option maxHeartbeats 1000000 in
theorem gProduct_any (a b : Int) (ha : inI a) (hb : inI b) (w : World) : Calls Tryz.prog 93 #[.int .i64 a, .int .i64 b] w fun r w' => r = .returned (.tuple #[.int .i64 (IntKind.i64.wrap (a * b)), .bool (fitB (a * b))]) ∧ w = w' := by
  by_cases hz : a = 0 ∨ b = 0
  · have e : a * b = 0 := by rcases hz with h | h <;> simp [h]
    have d : fitB (a * b) = true := by rw [e]; decide
    rw [d, e]
    clear ha hb d e
    by_cases h1 : a = 0
    · subst h1
      go_enter Tryz.func93, Tryz.ntmps93
      go_wp2
      refine bodyPost_ret (v := _) (by simp [results, Tryz.results93, go_sem]; rfl) rfl ?_
      exact ⟨rfl, rfl⟩
    · have h2 : b = 0 := by omega
      subst h2
      have q : (a == 0) = false := by rw [beq_eq_false_iff_ne]; exact h1
      go_enter Tryz.func93, Tryz.ntmps93
      go_wp2
      refine bodyPost_ret (v := _) (by simp [results, Tryz.results93, go_sem]; rfl) rfl ?_
      exact ⟨rfl, rfl⟩
  · have h1 : a ≠ 0 := fun h => hz (.inl h)
    have h2 : b ≠ 0 := fun h => hz (.inr h)
    have q1 : (a == 0) = false := by rw [beq_eq_false_iff_ne]; exact h1
    have q2 : (b == 0) = false := by rw [beq_eq_false_iff_ne]; exact h2
    have e := prod_fits ha hb h2
    have HQ := Lib.hid (fun w => gQuotient_any (IntKind.i64.wrap (a * b)) b (wrap_inI _) h2 w)
    clear ha hb h1 h2 hz
    obtain ⟨all, hall⟩ : ∃ all, IntKind.i64.wrap (a * b) = all := ⟨_, rfl⟩
    rw [hall] at HQ e ⊢
    obtain ⟨back, hback⟩ : ∃ back, IntKind.i64.wrap (all.tdiv b) = back := ⟨_, rfl⟩
    rw [hback] at HQ e
    by_cases g1 : inI (all.tdiv b)
    · have d1 : fitB (all.tdiv b) = true := fitB_iff.2 g1
      rw [d1] at HQ
      have d2 : fitB (a * b) = (back == a) := by
        rw [Bool.eq_iff_iff, fitB_iff, beq_iff_eq, ← e]
        exact ⟨fun h => h.2, fun h => ⟨g1, h⟩⟩
      rw [d2]
      clear e d1 d2 g1 hback
      go_enter Tryz.func93, Tryz.ntmps93
      go_wp2_with (go_at_call 94; refine (HQ.out _).mono ?_; rintro r w' ⟨rfl, rfl⟩)
      refine bodyPost_ret (v := _) (by simp [results, Tryz.results93, go_sem]; rfl) rfl ?_
      exact ⟨rfl, rfl⟩
    · have d1 : fitB (all.tdiv b) = false := fitB_no.2 g1
      rw [d1] at HQ
      have d2 : fitB (a * b) = false := by
        rw [fitB_no, ← e]
        exact fun h => g1 h.1
      rw [d2]
      clear e d1 d2 g1 hback
      go_enter Tryz.func93, Tryz.ntmps93
      go_wp2_with (go_at_call 94; refine (HQ.out _).mono ?_; rintro r w' ⟨rfl, rfl⟩)
      refine bodyPost_ret (v := _) (by simp [results, Tryz.results93, go_sem]; rfl) rfl ?_
      exact ⟨rfl, rfl⟩

/-! ### kinds -/
set_option maxHeartbeats 1000000 in
theorem gIsTrue_any (a : V) (w : World) : Calls Tryz.prog 46 #[a.val] w fun r w' => r = .returned (.bool (!(a.n == 0))) ∧ Below w.heap.size w w' := by
  obtain ⟨k, n, s⟩ := a
  simp only [V.val]
  go_enter Tryz.func46, Tryz.ntmps46
  go_wp2
  go_ret
  exact ⟨rfl, box_below _ _ _⟩
/-- The cells of a slice of values that a call has made. -/
def cells3 (l : List V) : List Value := l.flatMap fun v => [.int .i64 v.k, .int .i64 v.n, .string v.s]
set_option maxHeartbeats 2000000 in
theorem gAre_one (k : Int) (a : V) (g c : Nat) (w : World) (c0 : w.cell? ⟨g, 0, none⟩ = some (.int .i64 a.k)) (c1 : w.cell? ⟨g, 1, none⟩ = some (.int .i64 a.n)) (c2 : w.cell? ⟨g, 2, none⟩ = some (.string a.s)) :
    Calls Tryz.prog 44 #[.int .i64 k, .slice (some ⟨g, 0, none⟩) 1 c] w fun r w' => r = .returned (.bool (a.k == k)) ∧ Below w.heap.size w w' := by
  obtain ⟨ak, an, sa⟩ := a
  simp only at c0 c1 c2 ⊢
  cases hk : (ak == k)
  · go_enter Tryz.func44, Tryz.ntmps44
    go_wp2
    refine wp_loop_rounds 2 ?_
    rw [rounds_succ]
    go_wp2
    go_ret
    exact ⟨rfl, box_below _ _ _⟩
  · go_enter Tryz.func44, Tryz.ntmps44
    go_wp2
    refine wp_loop_rounds 2 ?_
    rw [rounds_succ]
    go_wp2
    rw [rounds_succ]
    go_wp2
    go_ret
    exact ⟨rfl, box_below _ _ _⟩
set_option maxHeartbeats 2000000 in
theorem gAre_two (k : Int) (a b : V) (g c : Nat) (w : World) (c0 : w.cell? ⟨g, 0, none⟩ = some (.int .i64 a.k)) (c1 : w.cell? ⟨g, 1, none⟩ = some (.int .i64 a.n)) (c2 : w.cell? ⟨g, 2, none⟩ = some (.string a.s))
    (c3 : w.cell? ⟨g, 3, none⟩ = some (.int .i64 b.k)) (c4 : w.cell? ⟨g, 4, none⟩ = some (.int .i64 b.n)) (c5 : w.cell? ⟨g, 5, none⟩ = some (.string b.s)) :
    Calls Tryz.prog 44 #[.int .i64 k, .slice (some ⟨g, 0, none⟩) 2 c] w fun r w' => r = .returned (.bool (a.k == k && b.k == k)) ∧ Below w.heap.size w w' := by
  obtain ⟨ak, an, sa⟩ := a
  obtain ⟨bk, bn, sb⟩ := b
  simp only at c0 c1 c2 c3 c4 c5 ⊢
  have hb1 := Lib.hid (box_below w #[.int .i64 ak, .int .i64 an, .string sa] 27)
  have hlt := World.block_lt_of_cell? w _ c0
  have e3 := (hb1.out.cell (p := ⟨g, 3, none⟩) hlt).trans c3
  have e4 := (hb1.out.cell (p := ⟨g, 4, none⟩) hlt).trans c4
  have e5 := (hb1.out.cell (p := ⟨g, 5, none⟩) hlt).trans c5
  clear c3 c4 c5
  cases hk : (ak == k)
  · go_enter Tryz.func44, Tryz.ntmps44
    go_wp2
    refine wp_loop_rounds 3 ?_
    rw [rounds_succ]
    go_wp2
    go_ret
    exact ⟨rfl, hb1.out⟩
  · cases hb : (bk == k)
    · go_enter Tryz.func44, Tryz.ntmps44
      go_wp2
      refine wp_loop_rounds 3 ?_
      rw [rounds_succ]
      go_wp2
      rw [rounds_succ]
      go_wp2
      go_ret
      exact ⟨rfl, hb1.out.alloc hb1.out.size _⟩
    · go_enter Tryz.func44, Tryz.ntmps44
      go_wp2
      refine wp_loop_rounds 3 ?_
      rw [rounds_succ]
      go_wp2
      rw [rounds_succ]
      go_wp2
      rw [rounds_succ]
      go_wp2
      go_ret
      exact ⟨rfl, hb1.out.alloc hb1.out.size _⟩
end Go.Proofs.YtidomoibhjgkjaaGreatDoor

/-
  Terms: slices of them that read as a list; few of the statements on expressions.
-/
namespace Go.Proofs.YtidomoibhjgkjaaGreatDoor
open Go.RowKit

def termVal (x : TM) : Value := .agg #[.int .i64 x.op, .int .i64 x.v.k, .int .i64 x.v.n, .string x.v.s, .string x.nm]
/-- The cells of a term stand at a place. -/
def TermAt (w : World) (b o : Nat) (x : TM) : Prop :=
  w.cell? ⟨b, o, none⟩ = some (.int .i64 x.op) ∧ w.cell? ⟨b, o + 1, none⟩ = some (.int .i64 x.v.k) ∧ w.cell? ⟨b, o + 2, none⟩ = some (.int .i64 x.v.n) ∧ w.cell? ⟨b, o + 3, none⟩ = some (.string x.v.s) ∧ w.cell? ⟨b, o + 4, none⟩ = some (.string x.nm)
/-- A slice at A reads as the terms l, in a block from lo on and below hi; of an empty one nothing is asked. -/
def RowT (w : World) (lo hi : Nat) (A : Option Addr) (l : List TM) : Prop :=
  0 < l.length → ∃ b o, A = some ⟨b, o, none⟩ ∧ lo ≤ b ∧ b < hi ∧ ∀ j (h : j < l.length), TermAt w b (o + j * 5) (l[j]'h)
theorem TermAt.below {w w' : World} {B b o : Nat} {x : TM} (h : TermAt w b o x) (hb : Below B w w') (hB : b < B) : TermAt w' b o x :=
  ⟨(hb.cell (p := ⟨b, o, none⟩) hB).trans h.1, (hb.cell (p := ⟨b, o + 1, none⟩) hB).trans h.2.1, (hb.cell (p := ⟨b, o + 2, none⟩) hB).trans h.2.2.1, (hb.cell (p := ⟨b, o + 3, none⟩) hB).trans h.2.2.2.1, (hb.cell (p := ⟨b, o + 4, none⟩) hB).trans h.2.2.2.2⟩
theorem RowT.below {w w' : World} {lo hi B : Nat} {A : Option Addr} {l : List TM} (h : RowT w lo hi A l) (hb : Below B w w') (hB : hi ≤ B) : RowT w' lo hi A l := fun hn => by
  obtain ⟨b, o, e, h1, h2, hc⟩ := h hn
  exact ⟨b, o, e, h1, h2, fun j hj => (hc j hj).below hb (Nat.lt_of_lt_of_le h2 hB)⟩
theorem RowT.wide {w : World} {lo hi lo' hi' : Nat} {A : Option Addr} {l : List TM} (h : RowT w lo hi A l) (h1 : lo' ≤ lo) (h2 : hi ≤ hi') : RowT w lo' hi' A l := fun hn => by
  obtain ⟨b, o, e, h3, h4, hc⟩ := h hn
  exact ⟨b, o, e, by omega, by omega, hc⟩
theorem RowT.at_ {w : World} {lo hi k : Nat} {A : Option Addr} {l : List TM} (h : RowT w lo hi A l) (hk : k < l.length) : ∃ b o, A = some ⟨b, o, none⟩ ∧ TermAt w b (o + k * 5) (l[k]'hk) := by
  obtain ⟨b, o, e, _, _, hc⟩ := h (by omega)
  exact ⟨b, o, e, hc k hk⟩

/-- Are these few terms, with little in each? -/
def fewTerm (x : TM) : Bool := decide (x.nm.size ≤ 100) && decide (x.v.s.size ≤ 200)
def fewT (l : List TM) : Bool := l.all fewTerm && decide (l.length ≤ 100)
theorem fewT_yes {l : List TM} (h : fewT l = true) : (∀ x ∈ l, x.nm.size ≤ 100 ∧ x.v.s.size ≤ 200) ∧ l.length ≤ 100 := by
  unfold fewT at h
  rw [Bool.and_eq_true, List.all_eq_true] at h
  exact ⟨fun x hx => by simpa [fewTerm] using h.1 x hx, by simpa using h.2⟩

end Go.Proofs.YtidomoibhjgkjaaGreatDoor

/-
  Expressions, the document's own answers: whether terms are the same; what an operation takes, how strong it is, its sign.
-/
namespace Go.Proofs.YtidomoibhjgkjaaGreatDoor
open Go.RowKit

/-- Are two terms the same? -/
def eqT (a b : TM) : Bool := decide (a.op = b.op) && (eqV a.v b.v && decide (a.nm = b.nm))
theorem eqT_iff {a b : TM} : eqT a b = true ↔ a = b := by
  obtain ⟨o, v, m⟩ := a
  obtain ⟨o', v', m'⟩ := b
  simp [eqT, eqV_iff]
instance : DecidableEq TM := fun a b => decidable_of_iff (eqT a b = true) eqT_iff
def sameT (a b : List TM) : Bool := decide (a = b)
theorem eqT_parts (op k n op' k' n' : Int) (s nm s' nm' : ByteArray) : eqT ⟨op, ⟨k, n, s⟩, nm⟩ ⟨op', ⟨k', n', s'⟩, nm'⟩ = decide (op = op' ∧ k = k' ∧ n = n' ∧ s.toList = s'.toList ∧ nm.toList = nm'.toList) := by
  have q : ∀ x y : ByteArray, x.toList = y.toList ↔ x = y := fun x y => ⟨fun h => by rw [ByteArray.toList_eq, ByteArray.toList_eq] at h; exact ba_list h, fun h => by rw [h]⟩
  rw [Bool.eq_iff_iff, eqT_iff, decide_eq_true_iff, q, q]
  simp [and_assoc]

theorem eq_inT (op k n op' k' n' : Int) (s nm s' nm' : ByteArray) (w : World) : (Op.equalIn 10000 47 (.agg #[.int .i64 op, .int .i64 k, .int .i64 n, .string s, .string nm]) (.agg #[.int .i64 op', .int .i64 k', .int .i64 n', .string s', .string nm'])).run Tryz.prog w = .ok (eqT ⟨op, ⟨k, n, s⟩, nm⟩ ⟨op', ⟨k', n', s'⟩, nm'⟩) w := by
  simp [go_sem, Tryz.underlying47, Tryz.underlying27, Tryz.underlying3, Tryz.underlying2, Tryz.underlying9]
  rw [eqT_parts]
  by_cases h1 : op = op' <;> by_cases h2 : k = k' <;> by_cases h3 : n = n' <;> by_cases h4 : s.toList = s'.toList <;> by_cases h5 : nm.toList = nm'.toList <;> simp [h1, h2, h3, h4, h5]

set_option maxHeartbeats 1000000 in
theorem takes_any (op : Int) (w : World) : Calls Tryz.prog 48 #[.int .i64 op] w fun e w' => e = .returned (.int .i64 (takesT op : Int)) ∧ w' = w := by
  have key : (decide (op < 3) = true ∧ takesT op = 0) ∨ (decide (op < 3) = false ∧ decide (op < 6) = true ∧ takesT op = 1) ∨ (decide (op < 3) = false ∧ decide (op < 6) = false ∧ takesT op = 2) := by
    unfold takesT
    by_cases h : op < 3
    · exact .inl ⟨by simpa using h, if_pos h⟩
    · by_cases h2 : op < 6
      · exact .inr (.inl ⟨by simpa using h, by simpa using h2, by rw [if_neg h, if_pos h2]⟩)
      · exact .inr (.inr ⟨by simpa using h, by simpa using h2, by rw [if_neg h, if_neg h2]⟩)
  rcases key with ⟨h1, e⟩ | ⟨h1, h2, e⟩ | ⟨h1, h2, e⟩
  all_goals
    rw [e]
    clear e
    go_enter Tryz.func48, Tryz.ntmps48
    go_wp2
    go_ret
    exact ⟨rfl, rfl⟩

set_option maxHeartbeats 2000000 in
theorem strength_any (op : Int) (w : World) : Calls Tryz.prog 128 #[.int .i64 op] w fun e w' => e = .returned (.int .i64 (strOf op : Int)) ∧ w' = w := by
  have eqb : ∀ n : Int, (op == n) = decide (op = n) := fun n => by by_cases h : op = n <;> simp [h]
  by_cases h18 : op = 18
  · subst h18
    go_enter Tryz.func128, Tryz.ntmps128
    go_wp2
    go_ret
    exact ⟨rfl, rfl⟩
  have b18 : (op == 18) = false := by rw [beq_eq_false_iff_ne]; exact h18
  by_cases h17 : op = 17
  · subst h17
    go_enter Tryz.func128, Tryz.ntmps128
    go_wp2
    go_ret
    exact ⟨rfl, rfl⟩
  have b17 : (op == 17) = false := by rw [beq_eq_false_iff_ne]; exact h17
  by_cases hlo : op < 6
  · have e : strOf op = 9 := by unfold strOf; rw [if_neg h18, if_neg h17, if_neg (by omega), if_neg (by omega), if_neg (by omega)]
    have d1 : decide (11 ≤ op) = false := by rw [decide_eq_false_iff_not]; omega
    have d2 : decide (6 ≤ op) = false := by rw [decide_eq_false_iff_not]; omega
    have d3 : (op == 9) = false := by rw [beq_eq_false_iff_ne]; omega
    have d4 : (op == 10) = false := by rw [beq_eq_false_iff_ne]; omega
    rw [e]
    clear e h18 h17 hlo eqb
    go_enter Tryz.func128, Tryz.ntmps128
    go_wp2
    go_ret
    exact ⟨rfl, rfl⟩
  · by_cases hhi : 18 < op
    · have e : strOf op = 9 := by unfold strOf; rw [if_neg h18, if_neg h17, if_neg (by omega), if_neg (by omega), if_neg (by omega)]
      have d1 : decide (11 ≤ op) = true := by rw [decide_eq_true_iff]; omega
      have d1' : decide (op ≤ 16) = false := by rw [decide_eq_false_iff_not]; omega
      have d2 : decide (6 ≤ op) = true := by rw [decide_eq_true_iff]; omega
      have d2' : decide (op ≤ 8) = false := by rw [decide_eq_false_iff_not]; omega
      have d3 : (op == 9) = false := by rw [beq_eq_false_iff_ne]; omega
      have d4 : (op == 10) = false := by rw [beq_eq_false_iff_ne]; omega
      rw [e]
      clear e h18 h17 hlo hhi eqb
      go_enter Tryz.func128, Tryz.ntmps128
      go_wp2
      go_ret
      exact ⟨rfl, rfl⟩
    · have hs : op = 6 ∨ op = 7 ∨ op = 8 ∨ op = 9 ∨ op = 10 ∨ op = 11 ∨ op = 12 ∨ op = 13 ∨ op = 14 ∨ op = 15 ∨ op = 16 := by omega
      clear h18 h17 b18 b17 hlo hhi eqb
      rcases hs with rfl | rfl | rfl | rfl | rfl | rfl | rfl | rfl | rfl | rfl | rfl
      all_goals
        go_enter Tryz.func128, Tryz.ntmps128
        go_wp2
        go_ret
        exact ⟨rfl, rfl⟩
def signS (op : Int) : ByteArray := ⟨(signL op).toArray⟩
set_option maxHeartbeats 4000000 in
theorem sign_any (op : Int) (w : World) : Calls Tryz.prog 81 #[.int .i64 op] w fun e w' => e = .returned (.string (signS op)) ∧ Below w.heap.size w w' := by
  have hb := box_below w #[.string ⟨#[]⟩, .string ⟨#[]⟩, .string ⟨#[]⟩, .string ⟨#[45]⟩, .string ⟨#[33]⟩, .string ⟨#[]⟩, .string ⟨#[42]⟩, .string ⟨#[47]⟩, .string ⟨#[37]⟩, .string ⟨#[43]⟩, .string ⟨#[45]⟩, .string ⟨#[60]⟩, .string ⟨#[60, 61]⟩, .string ⟨#[62]⟩, .string ⟨#[62, 61]⟩, .string ⟨#[61, 61]⟩, .string ⟨#[33, 61]⟩, .string ⟨#[38, 38]⟩, .string ⟨#[124, 124]⟩] 9
  by_cases hlo : op < 0
  · have e : signS op = ⟨#[]⟩ := by
      unfold signS signL
      rw [if_neg (by omega), if_neg (by omega), if_neg (by omega), if_neg (by omega), if_neg (by omega), if_neg (by omega), if_neg (by omega), if_neg (by omega), if_neg (by omega), if_neg (by omega), if_neg (by omega), if_neg (by omega), if_neg (by omega), if_neg (by omega), if_neg (by omega)]
    have d : decide (op < 0) = true := by rw [decide_eq_true_iff]; omega
    rw [e]
    clear e hlo
    go_enter Tryz.func81, Tryz.ntmps81
    go_wp2
    go_ret
    exact ⟨rfl, hb⟩
  · by_cases hhi : 19 ≤ op
    · have e : signS op = ⟨#[]⟩ := by
        unfold signS signL
        rw [if_neg (by omega), if_neg (by omega), if_neg (by omega), if_neg (by omega), if_neg (by omega), if_neg (by omega), if_neg (by omega), if_neg (by omega), if_neg (by omega), if_neg (by omega), if_neg (by omega), if_neg (by omega), if_neg (by omega), if_neg (by omega), if_neg (by omega)]
      have d : decide (op < 0) = false := by rw [decide_eq_false_iff_not]; omega
      have d2 : decide (19 ≤ op) = true := by rw [decide_eq_true_iff]; omega
      rw [e]
      clear e hlo hhi
      go_enter Tryz.func81, Tryz.ntmps81
      go_wp2
      go_ret
      exact ⟨rfl, hb⟩
    · have hs : op = 0 ∨ op = 1 ∨ op = 2 ∨ op = 3 ∨ op = 4 ∨ op = 5 ∨ op = 6 ∨ op = 7 ∨ op = 8 ∨ op = 9 ∨ op = 10 ∨ op = 11 ∨ op = 12 ∨ op = 13 ∨ op = 14 ∨ op = 15 ∨ op = 16 ∨ op = 17 ∨ op = 18 := by omega
      clear hlo hhi
      rcases hs with rfl | rfl | rfl | rfl | rfl | rfl | rfl | rfl | rfl | rfl | rfl | rfl | rfl | rfl | rfl | rfl | rfl | rfl | rfl
      all_goals
        go_enter Tryz.func81, Tryz.ntmps81
        go_wp2
        go_ret
        exact ⟨rfl, hb⟩
end Go.Proofs.YtidomoibhjgkjaaGreatDoor
