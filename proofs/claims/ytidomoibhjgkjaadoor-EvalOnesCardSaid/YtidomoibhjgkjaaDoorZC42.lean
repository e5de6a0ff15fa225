import Derived.Test.YtidomoibhjgkjaaDoorZC37
import Derived.Test.YtidomoibhjgkjaaDoorZC40
import Derived.Test.YtidomoibhjgkjaaDoorZC41
import Derived.Test.YtidomoibhjgkjaaDoorZC09
import Derived.LaidMore
import Derived.ProofKit
import Derived.Stop.Joined
import Derived.Lib.LaidTab
import Derived.SizedLaws
import Derived.HandedShaped
import Derived.Test.YtidomoibhjgkjaaDoorRows
import Derived.Test.YtidomoibhjgkjaaDoorZC11
/-
  EvalOnes: what any value comes to by any Op of one, or what is wrong.
-/
namespace Go.Proofs.YtidomoibhjgkjaaDoor
open Go.RowKit

namespace evalOnes
set_option maxRecDepth 100000 in
set_option maxHeartbeats 4000000 in
theorem walkG (op : Int) (a : V) (ha : ValIn a) (w : World) (hG : GlobW w) :
    Calls Tryd.prog 3 #[.int .i64 op, a.val] w fun r w' => r = .returned (.bool true) ∧ Below w.heap.size w w' := by
  obtain ⟨ak, an, sa⟩ := a
  have HLv := Lib.hid (fun W (hb : Below w.heap.size w W) => live6_any W (hG.below hb hG.big))
  have hB := box_below w #[.int .i64 ak, .int .i64 an, .string sa] 23
  have hxa := Boxed.new w ak an sa
  obtain ⟨w1, hw⟩ : ∃ y, w.alloc (.cells #[.int .i64 ak, .int .i64 an, .string sa] 23) = y := ⟨_, rfl⟩
  obtain ⟨s, hs⟩ : ∃ s, w.heap.size = s := ⟨_, rfl⟩
  rw [hw] at hB hxa
  rw [hs] at hxa
  have HXa := Lib.hid hxa
  have HB1 := Lib.hid hB
  have HW := Lib.hid hw
  have HS := Lib.hid hs
  simp only [V.val]
  clear hxa hB hw hs hG
  go_enter Tryd.func3, Tryd.ntmps3
  go_upto_region 1 with fail
  rw [HW.out, HS.out]
  clear HW
  go_wp2_with fail
  refine (HLv.out _ HB1.out).mono ?_
  rintro r w2 ⟨rfl, hb2⟩
  dsimp only
  have hxa := HXa.out.below hb2
  have HB2 := Lib.hid (HB1.out.trans (hb2.mono HB1.out.size))
  clear HXa hb2 HB1
  have HXa := Lib.hid hxa
  clear hxa
  obtain ⟨a0, a1, a2⟩ := HXa.out.cells
  simp only at a0 a1 a2
  by_cases ha1 : 1000 < sa.size
  · have da : decide (1000 < (sa.size : Int)) = true := by rw [decide_eq_true_iff]; omega
    go_wp2_with fail
    refine (HLv.out _ HB2.out).mono ?_
    rintro r w3 ⟨rfl, hb3⟩
    have HB3 := Lib.hid (HB2.out.trans (hb3.mono HB2.out.size))
    clear hb3
    dsimp only
    go_wp2
    go_ret
    exact ⟨rfl, HB3.out⟩
  have da : decide (1000 < (sa.size : Int)) = false := by rw [decide_eq_false_iff_not]; omega
  have hoa : okV ⟨ak, an, sa⟩ := ⟨⟨ha.1, ha.2.1⟩, by show sa.size ≤ 1000000; omega⟩
  obtain ⟨X, hX⟩ : ∃ X, oneV op ⟨ak, an, sa⟩ = X := ⟨_, rfl⟩
  have hHE := fun W => gOne_any op ⟨ak, an, sa⟩ W hoa
  rw [hX] at hHE
  have hHR := fun W => g6One_any op ⟨ak, an, sa⟩ W hoa
  rw [hX] at hHR
  obtain ⟨⟨xk, xn, xs⟩, xc⟩ := X
  have HE : Hid (∀ W, Calls Tryd.prog 7 #[.int .i64 op, .agg #[.int .i64 ak, .int .i64 an, .string sa]] W fun r w' => r = .returned (.tuple #[.agg #[.int .i64 xk, .int .i64 xn, .string xs], .int .i64 xc]) ∧ Below W.heap.size W w') := Lib.hid (fun W => hHE W)
  have HR : Hid (∀ W, Calls Tryd.prog 8 #[.int .i64 op, .agg #[.int .i64 ak, .int .i64 an, .string sa]] W fun r w' => r = .returned (.tuple #[.agg #[.int .i64 xk, .int .i64 xn, .string xs], .int .i64 xc]) ∧ Below W.heap.size W w') := Lib.hid (fun W => hHR W)
  have q : ∀ w, (Op.equalIn 10000 23 (.agg #[.int .i64 xk, .int .i64 xn, .string xs]) (.agg #[.int .i64 xk, .int .i64 xn, .string xs])).run Tryd.prog w = .ok true w := fun w => by rw [eq_in, eqV_self]
  clear hX hHE hHR hoa ha1 ha
  go_wp2_with fail
  refine (HE.out _).mono ?_
  rintro r w3 ⟨rfl, hb3⟩
  dsimp only
  have hb4 := box_below w3 #[.int .i64 xk, .int .i64 xn, .string xs] 23
  have hx := Boxed.new w3 xk xn xs
  have hbb := hb3.trans (hb4.mono hb3.size)
  have hxa := HXa.out.below hbb
  have hB := HB2.out.trans (hbb.mono HB2.out.size)
  obtain ⟨w4, hw⟩ : ∃ y, w3.alloc (.cells #[.int .i64 xk, .int .i64 xn, .string xs] 23) = y := ⟨_, rfl⟩
  obtain ⟨sv, hs⟩ : ∃ y, w3.heap.size = y := ⟨_, rfl⟩
  rw [hw] at hx hxa hB
  rw [hs] at hx
  clear HXa a0 a1 a2
  have HXa := Lib.hid hxa
  have HXv := Lib.hid hx
  have HB4 := Lib.hid hB
  have HW := Lib.hid hw
  have HSv := Lib.hid hs
  clear hb3 hb4 hx hbb hxa hB hw hs HB2
  go_upto_region 4 with fail
  rw [HW.out, HSv.out]
  clear HW HSv
  obtain ⟨a0, a1, a2⟩ := HXa.out.cells
  simp only at a0 a1 a2
  go_wp2_with fail
  refine (HR.out _).mono ?_
  rintro r w5 ⟨rfl, hb5⟩
  dsimp only
  have hb6 := box_below w5 #[.int .i64 xk, .int .i64 xn, .string xs] 23
  have hy := Boxed.new w5 xk xn xs
  have hbb := hb5.trans (hb6.mono hb5.size)
  have hxv := HXv.out.below hbb
  have hB := HB4.out.trans (hbb.mono HB4.out.size)
  obtain ⟨w6, hw⟩ : ∃ y, w5.alloc (.cells #[.int .i64 xk, .int .i64 xn, .string xs] 23) = y := ⟨_, rfl⟩
  obtain ⟨sw, hs⟩ : ∃ y, w5.heap.size = y := ⟨_, rfl⟩
  rw [hw] at hy hxv hB
  rw [hs] at hy
  have HXw := Lib.hid hy
  have HXz := Lib.hid hxv
  have HB6 := Lib.hid hB
  have HW := Lib.hid hw
  have HSv := Lib.hid hs
  clear hb5 hb6 hy hbb hxv hB hw hs HXv HB4 a0 a1 a2
  go_upto_region 5 with fail
  rw [HW.out, HSv.out]
  clear HW HSv
  obtain ⟨y0, y1, y2⟩ := HXw.out.cells
  obtain ⟨z0, z1, z2⟩ := HXz.out.cells
  simp only at y0 y1 y2 z0 z1 z2
  go_wp2
  go_ret
  exact ⟨rfl, HB6.out⟩
end evalOnes
end Go.Proofs.YtidomoibhjgkjaaDoor

/-
  What the rows' condition on the package-level variables gives the walks of stage 6; and a world that meets it.
-/
namespace Go.Proofs.YtidomoibhjgkjaaDoor
open Go.RowKit

theorem ownKnob_none : ownKnob Tryd.prog.godebug = none := by kernel_rfl
theorem laidOut_all : laidOutB Tryd.prog = true := by kernel_rfl

/-- The door's own heap meets the condition. -/
theorem door_met (os : Os) (args : Array Value) : laidMetH Tryd.prog Rows.evalNumbersRow.laid ((World.doorLaid Tryd.prog 200 os).forCall (fun _ _ => 0) ⟨#[], args, []⟩).memory :=
  laidMetH_of_parts3 (fuel := 8) (laidMet_of_run' 8 (by kernel_rfl) (by kernel_rfl)) (by kernel_rfl) (by kernel_rfl)

theorem gEt : Tryd.prog.globalNamed "errors.errorType" = some 0 := by kernel_rfl
theorem oneError : ((List.range Tryd.prog.types.size).filter fun t => Tryd.prog.rowNamed t [101, 114, 114, 111, 114]) = [37] := by kernel_rfl
theorem handleError : typeHandle Tryd.prog 37 = .pointer (some ⟨1, 37, none⟩) := by kernel_rfl

theorem globW_of_laid {W : World} (h : laidMetH Tryd.prog Rows.evalNumbersRow.laid W) (hbig : 1 ≤ W.heap.size) : GlobW W := by
  have h' : laidMet Tryd.prog [] W ∧ handlesMet Tryd.prog [(_, Rows.laid_errors_errorType)] W := h
  obtain ⟨_, hh⟩ := h'
  obtain ⟨name, u, ty, e1, e2, e3, e4, e5⟩ := hh _ (List.mem_singleton.2 rfl)
  have en : name = [101, 114, 114, 111, 114] := (Option.some.inj e1).symm
  subst en
  obtain rfl : u = 104 := Option.some.inj (e2.symm.trans (by kernel_rfl))
  have hm : ty ∈ (List.range Tryd.prog.types.size).filter fun t => Tryd.prog.rowNamed t [101, 114, 114, 111, 114] := List.mem_filter.2 ⟨List.mem_range.2 e3, e4⟩
  rw [oneError] at hm
  obtain rfl := List.mem_singleton.1 hm
  rw [handleError] at e5
  exact ⟨by simpa using World.var?_cell gEt e5 0, hbig⟩

/-- A world of the program's shape has all its package-level variables. -/
theorem big_of_shaped {W : World} (h : W.ShapedOpen Tryd.prog) : 1 ≤ W.heap.size := by
  obtain ⟨o, _, ho, _⟩ := h.2 1 (of_decide_eq_true (by kernel_rfl)) (of_decide_eq_true (by kernel_rfl))
  have := (Array.getElem?_eq_some_iff.1 ho).1
  omega

/-- A number of 16 bits. -/
theorem u16_nat {z : Int} (h : (Lit.int .u16 z).wf = true) : ∃ n : Nat, z = (n : Int) ∧ n ≤ 65535 := by
  simp [Lit.wf, IntKind.min, IntKind.max, IntKind.bits, IntKind.signed] at h
  exact ⟨z.toNat, by omega, by omega⟩

section
variable {H : Type} {enc : TypeId × Value → H}
set_option maxRecDepth 100000 in
/-- The wrap of a row with a condition X on its first world, that hands on the number of that world's blocks too. -/
theorem returnsG {a : Assume} {os : Os} {f : FuncId} {fn : Func} {s : ChangeSpec} {conds : List PathCond} {apart fresh handsOn again : Bool} {X : World → Array Value → Prop}
    (hX : ∀ (w w' : World) (args : Array Value), w.heap = w'.heap → X w args → X w' args)
    (started : os.Started) (noInit : Tryd.prog.inits.idxOf? f = none) (hfn : Tryd.prog.funcs[f]? = some fn)
    (witness : ∃ (w : World) (tape : Tape) (i : Input), w.os = os ∧ (w.forCall tape i).Shaped Tryd.prog ∧ i.vars = [] ∧ Input.okWide Tryd.prog (w.forCall tape i) .any w.heap.size f i ∧
      ((s.pre enc Tryd.prog fn conds apart (w.forCall tape i).memory i.args ∧ X (w.forCall tape i).memory i.args) ∧ sizedMet enc Tryd.prog fn (OpenSpec.ofChange s) apart (w.forCall tape i).memory i.args) ∧ a.holds Tryd.prog (lone (Frame.enter Tryd.prog f i.args .normal) [] (w.forCall tape i)))
    (contract : ∀ (W : World) (base : Nat) (args : Array Value) (ds gs : List (DataW H)) (before : List MemPlace),
      (∀ (j : Nat) t v, fn.params[j]? = some t → args[j]? = some v → Value.okWide Tryd.prog W .any base t v) →
      DataW.Whole enc Tryd.prog fn.params.toList s.vars apart W args.toList ds gs before → 1 ≤ W.heap.size →
      (DataW.weightsEach Tryd.prog (fn.params.toList ++ s.plain.varTypes Tryd.prog) (ds ++ gs)).all (· ≤ reachBytes) = true → X W args →
      a.holds Tryd.prog (lone (Frame.enter Tryd.prog f args .normal) [] W) →
      Calls Tryd.prog f args W fun e W' => ∃ v, e = .returned v ∧ s.post enc Tryd.prog fn apart fresh handsOn again W args v W') :
    ReturnsInHanded a Tryd.checked os f .any (fun w args => (s.pre enc Tryd.prog fn conds apart w args ∧ X w args) ∧ sizedMet enc Tryd.prog fn (OpenSpec.ofChange s) apart w args) (s.post enc Tryd.prog fn apart fresh handsOn again) := by
  refine returnsInHanded_of_calls (C := Tryd.checked) ownKnob_none started noInit witness ?_
  intro w tape i _ hsh _ hok hpre hholds
  have hbig := big_of_shaped hsh
  obtain ⟨_, _, _, fn', hfn', _, _, _, _, hval⟩ := hok
  have e : fn' = fn := Option.some.inj (hfn'.symm.trans hfn)
  subst e
  obtain ⟨⟨⟨ds, gs, before, hw, _⟩, hx⟩, hz⟩ := hpre
  have hw' := DataW.Whole.of_heap (w' := w.forCall tape i) (by rfl) hw
  refine (contract (w.forCall tape i) w.heap.size i.args ds gs before hval hw' hbig (hz.weights hw) (hX _ _ _ (by rfl) hx) hholds).mono fun e W' ⟨v, he, hp⟩ => ?_
  subst he
  exact ChangeSpec.post_blind hp
end
end Go.Proofs.YtidomoibhjgkjaaDoor

/-
  Arguments of the statements on expressions, opened: slices of terms.
-/
namespace Go.Proofs.YtidomoibhjgkjaaDoor
open Go.Joins Go.ChangeShapes Go.WideShapes Go.ChangeAt Go.RowKit Go.Deep

theorem cellsTerm : Tryd.prog.cellsOf 34 = 5 := by kernel_rfl
/-- What is known of a term that came in. -/
def TermIn (x : TM) : Prop := ValIn x.v ∧ x.nm.size ≤ maxLen
section
variable {H : Type} {enc : TypeId × Value → H} {W : World}
theorem term_cells {fuel : Nat} {c0 c1 c2 c3 c4 : Value} {y : DataW H × List MemPlace} (h : DataW.trod enc Tryd.prog W 0 (fun _ => true) true fuel 34 [c0, c1, c2, c3, c4] = some y) :
    ∃ x : TM, c0 = .int .i64 x.op ∧ c1 = .int .i64 x.v.k ∧ c2 = .int .i64 x.v.n ∧ c3 = .string x.v.s ∧ c4 = .string x.nm ∧ TermIn x := by
  obtain ⟨xs, n, _, hx, _, hlen, hg⟩ := DataW.trod_struct Tryd.underlying34 h
  have g0 := hg 0 _ rfl
  have g1 := hg 1 _ rfl
  have g2 := hg 2 _ rfl
  match xs, hlen with
  | [y0, y1, y2], _ =>
    simp [cellsStr, cellsValue, cellsInt] at g0 g1 g2
    obtain ⟨op, e0, _, _⟩ := DataW.trod_int Tryd.underlying3 g0
    simp at e0
    obtain ⟨v, e1, e2, e3, hv⟩ := value_cells g1
    obtain ⟨m, e4, _, hm⟩ := DataW.trod_string Tryd.underlying9 g2
    simp at e4
    exact ⟨⟨op, v, m⟩, e0, e1, e2, e3, e4, hv, hm⟩

/-- What is known of a slice of terms that came in. -/
theorem terms_in {fuel : Nat} {v : Value} {y : DataW H × List MemPlace} (h : DataW.trod enc Tryd.prog W 0 (fun _ => true) true fuel 35 [v] = some y) :
    ∃ (A : Option Addr) (c : Nat) (l : List TM), v = .slice A l.length c ∧ l.length ≤ maxLen ∧ (∀ x ∈ l, TermIn x) ∧ RowT W 0 W.heap.size A l := by
  rcases Go.Deep.open_slice Tryd.underlying35 h with ⟨hcs, _⟩ | ⟨a, len, cap, m, n, D, Pl, hcs, _, hl, hm, hmm, _, hel⟩
  · obtain rfl : v = .slice none 0 0 := by simpa using hcs
    exact ⟨none, 0, [], rfl, Nat.zero_le _, by simp, fun h => absurd h (by simp)⟩
  · obtain rfl : v = .slice (some a) len cap := by simpa using hcs
    have hmc : m = cap := by simpa using hmm
    obtain ⟨b, o, spot⟩ := a
    have each : ∀ i, i < len → ∃ x : TM, TermIn x ∧ W.cell? ((⟨b, o, spot⟩ : Addr).add (i * 5)) = some (.int .i64 x.op) ∧ W.cell? ((⟨b, o, spot⟩ : Addr).add (i * 5 + 1)) = some (.int .i64 x.v.k) ∧ W.cell? ((⟨b, o, spot⟩ : Addr).add (i * 5 + 2)) = some (.int .i64 x.v.n) ∧ W.cell? ((⟨b, o, spot⟩ : Addr).add (i * 5 + 3)) = some (.string x.v.s) ∧ W.cell? ((⟨b, o, spot⟩ : Addr).add (i * 5 + 4)) = some (.string x.nm) := fun i hi => by
      obtain ⟨cs', hc, ht⟩ := hel i (by omega)
      rw [cellsTerm] at hc
      obtain ⟨_, hlen, hat⟩ := World.cells?_some hc
      match cs', hlen with
      | [c0, c1, c2, c3, c4], _ =>
        obtain ⟨x, rfl, rfl, rfl, rfl, rfl, hx⟩ := term_cells ht
        have q0 := hat 0 (by omega)
        have q1 := hat 1 (by omega)
        have q2 := hat 2 (by omega)
        have q3 := hat 3 (by omega)
        have q4 := hat 4 (by omega)
        rw [Go.Deep.add_add] at q0 q1 q2 q3 q4
        exact ⟨x, hx, by simpa using q0, by simpa using q1, by simpa using q2, by simpa using q3, by simpa using q4⟩
    have hspot : 0 < len → spot = none := fun h0 => by
      obtain ⟨x, _, q0, _⟩ := each 0 h0
      simpa [Addr.add] using World.cell?_spot q0
    have hch : ∀ j : Nat, j ≤ len → ∃ l : List TM, l.length = j ∧ (∀ x ∈ l, TermIn x) ∧ ∀ i (h : i < l.length), W.cell? ((⟨b, o, spot⟩ : Addr).add (i * 5)) = some (.int .i64 (l[i]'h).op) ∧ W.cell? ((⟨b, o, spot⟩ : Addr).add (i * 5 + 1)) = some (.int .i64 (l[i]'h).v.k) ∧ W.cell? ((⟨b, o, spot⟩ : Addr).add (i * 5 + 2)) = some (.int .i64 (l[i]'h).v.n) ∧ W.cell? ((⟨b, o, spot⟩ : Addr).add (i * 5 + 3)) = some (.string (l[i]'h).v.s) ∧ W.cell? ((⟨b, o, spot⟩ : Addr).add (i * 5 + 4)) = some (.string (l[i]'h).nm) := by
      intro j
      induction j with
      | zero => exact fun _ => ⟨[], rfl, by simp, fun i h => absurd h (by simp)⟩
      | succ j ih =>
        intro hj
        obtain ⟨l, e, hi, hcl⟩ := ih (by omega)
        obtain ⟨x, hx, q⟩ := each j (by omega)
        refine ⟨l ++ [x], by simp [e], ?_, fun i h => ?_⟩
        · intro y hy
          rcases List.mem_append.1 hy with hy | hy
          · exact hi y hy
          · simp at hy; subst hy; exact hx
        · by_cases hil : i < l.length
          · rw [List.getElem_append_left hil]
            exact hcl i hil
          · have : i = l.length := by simp at h; omega
            subst this
            rw [List.getElem_append_right (Nat.le_refl _)]
            simp only [Nat.sub_self, List.getElem_cons_zero]
            rw [e]
            exact q
    obtain ⟨l, e, hi, hcl⟩ := hch len (Nat.le_refl _)
    refine ⟨some ⟨b, o, spot⟩, cap, l, by rw [e], by omega, hi, fun hp => ?_⟩
    have hs := hspot (by omega)
    subst hs
    have h0 := (hcl 0 hp).1
    refine ⟨b, o, rfl, Nat.zero_le _, ?_, fun j hj => ?_⟩
    · have := World.block_lt_of_cell? W _ h0
      simpa [addr_add] using this
    · have h := hcl j hj
      simp only [addr_add] at h
      exact ⟨h.1, by rw [Nat.add_assoc]; exact h.2.1, by rw [Nat.add_assoc]; exact h.2.2.1, by rw [Nat.add_assoc]; exact h.2.2.2.1, by rw [Nat.add_assoc]; exact h.2.2.2.2⟩
end
end Go.Proofs.YtidomoibhjgkjaaDoor
