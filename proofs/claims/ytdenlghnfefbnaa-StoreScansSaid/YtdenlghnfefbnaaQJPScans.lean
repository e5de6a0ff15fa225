/-
  StoreScans (P8.7) is true for every script, stretch, key and time: a scan has just the keys of its stretch that are read, each once, in order. No condition.
-/
import Derived.Test.YtdenlghnfefbnaaZC44
import Derived.Test.YtdenlghnfefbnaaZC43
import Derived.ProofKit
import Derived.SizedLaws
namespace Go.Proofs.Ytdenlghnfefbnaa.storeScans
open Go.ChangeShapes Go.WideShapes Go.ChangeAt Go.RowKit
open Go.ChangeMaps (open_string shut_string)
set_option linter.unusedVariables false

theorem own : ownKnob Try.prog.godebug = none := by kernel_rfl

set_option maxRecDepth 100000 in
theorem lifted (os : Os) (started : os.Started) (H : Type) (enc : TypeId × Value → H) :
    ReturnsInHanded {} Try.checked os 5 .any (Rows.storeScansSpec.pre6 enc Try.prog Try.f5 Rows.storeScansRow.domain false) (Rows.storeScansSpec.post enc Try.prog Try.f5 false true false false) := by
  refine returnsInHanded_of_change_sized (C := Try.checked) own started (by kernel_rfl) Try.func5
    (ChangeSpec.witness6 (enc := enc) (C := Try.checked) false ⟨#[], #[.slice none 0 0, .string ⟨#[]⟩, .string ⟨#[]⟩, .string ⟨#[]⟩, .int .u64 0], []⟩ 8 (by kernel_rfl) (by kernel_rfl) (by kernel_rfl) (by kernel_rfl)) ?_
  intro W base args ds gs before hval0 hW hcnd hSZ _
  have hval : ∀ (j : Nat) t v, Try.f5.params[j]? = some t → args[j]? = some v → Value.okWide Try.prog W .any base t v := hval0
  have hW' := hW
  obtain ⟨p, q, hA0, hV, rfl, hfz, hnd⟩ := hW
  have hA : DataW.TrodAll enc Try.prog W 0 (fun _ => true) true Try.f5.params.toList args.toList ds p := hA0
  rw [Try.params5] at hA hval
  obtain ⟨v0, vs0, d0, ds0, p0, q0, hargs, rfl, rfl, h0, r0⟩ := trodAll_cons hA
  obtain ⟨v1, vs1, d1, ds1, p1, q1, rfl, rfl, rfl, h1, r1⟩ := trodAll_cons r0
  obtain ⟨v2, vs2, d2, ds2, p2, q2, rfl, rfl, rfl, h2, r2⟩ := trodAll_cons r1
  obtain ⟨v3, vs3, d3, ds3, p3, q3, rfl, rfl, rfl, h3, r3⟩ := trodAll_cons r2
  obtain ⟨v4, vs4, d4, ds4, p4, q4, rfl, rfl, rfl, h4, r4⟩ := trodAll_cons r3
  obtain ⟨rfl, rfl, rfl⟩ := trodAll_nil r4
  obtain rfl : args = #[v0, v1, v2, v3, v4] := by cases args; simp_all
  obtain ⟨rfl, rfl⟩ := trodVars_none hV
  have k0 := h0
  have lt0 : ∀ x ∈ p0, x.block < W.heap.size := by obtain ⟨m, hm⟩ := k0; exact DataW.trod_lt m _ _ _ hm
  obtain ⟨a0, len0, cap0, rfl⟩ := okWide_slice Try.underlying25 (hval 0 25 v0 rfl rfl)
  obtain ⟨fuel0, hf0⟩ := h0
  obtain ⟨A0, c0, l0, e0, hc0⟩ := ops_in hf0
  obtain ⟨rfl, rfl, rfl⟩ : a0 = A0 ∧ len0 = l0.length ∧ cap0 = c0 := by simpa using e0
  obtain ⟨a1, rfl, rfl, rfl, w1⟩ := open_string Try.underlying9 (hval 1 9 v1 rfl rfl) h1
  obtain ⟨a2, rfl, rfl, rfl, w2⟩ := open_string Try.underlying9 (hval 2 9 v2 rfl rfl) h2
  obtain ⟨a3, rfl, rfl, rfl, w3⟩ := open_string Try.underlying9 (hval 3 9 v3 rfl rfl) h3
  obtain ⟨a4, rfl, rfl, rfl, w4⟩ := open_int Try.underlying22 (hval 4 22 v4 rfl rfl) h4
  obtain ⟨u4, rfl, e4⟩ := u64_natJ w4
  have z1 : a1.size ≤ reachBytes := Go.sized_string hSZ (j := 1) (by rw [Try.params5]; rfl) rfl
  have z2 : a2.size ≤ reachBytes := Go.sized_string hSZ (j := 2) (by rw [Try.params5]; rfl) rfl
  have z3 : a3.size ≤ reachBytes := Go.sized_string hSZ (j := 3) (by rw [Try.params5]; rfl) rfl
  obtain ⟨k1, rfl⟩ : ∃ k, a1 = bs k := ⟨_, bs_of a1⟩
  have y1 : k1.length ≤ maxLen := by rw [← bs_size]; unfold reachBytes at z1; unfold maxLen; omega
  obtain ⟨k2, rfl⟩ : ∃ k, a2 = bs k := ⟨_, bs_of a2⟩
  have y2 : k2.length ≤ maxLen := by rw [← bs_size]; unfold reachBytes at z2; unfold maxLen; omega
  obtain ⟨k3, rfl⟩ : ∃ k, a3 = bs k := ⟨_, bs_of a3⟩
  have y3 : k3.length ≤ maxLen := by rw [← bs_size]; unfold reachBytes at z3; unfold maxLen; omega
  clear hA0 hval0 hSZ
  simp only [List.append_nil, List.nil_append] at hW'
  refine (walk (K := storeC) (w := W) (a := l0) (lo := k1) (hi := k2) (key := k3) (at_ := u4) (ha := hc0) (l1 := y1) (l2 := y2) (l3 := y3) (hat := e4)).mono fun e W' ⟨he, bel⟩ => ?_
  subst he
  exact ⟨_, rfl, _, _, _, [], _, [], hW', trodAll_mk1 (shut_bool Try.underlying4 _), (trodAll_cons_mk (Below.trod laidOutJ (by kernel_rfl) (of_decide_eq_true (by kernel_rfl)) k0 bel lt0) (trodAll_cons_mk (shut_string Try.underlying9 w1) (trodAll_cons_mk (shut_string Try.underlying9 w2) (trodAll_cons_mk (shut_string Try.underlying9 w3) (trodAll_cons_mk (shut_int Try.underlying22 w4) trodAll_mk0))))), rfl, bel.frame _, fun h => by cases h⟩

theorem over : Rows.storeScansRow.holds Try.pinned (OpenSpec.ofChange Rows.storeScansSpec) :=
  OpenClaim.holds_of_wide 5 Try.f5 rfl rfl rfl rfl rfl rfl rfl ⟨rfl, rfl, rfl, rfl, rfl⟩ rfl rfl rfl rfl rfl (by kernel_rfl) Try.func5 (by kernel_rfl)
    (of_decide_eq_true (by kernel_rfl)) (by unfold Func.isWrapper; first | (rw [if_pos (by decide +kernel)]; kernel_rfl) | (rw [if_neg (by decide +kernel)]; exact ⟨rfl, rfl⟩))
    (fun os started H enc _ => lifted os started H enc)

theorem proved : Rows.StoreScansSaid := over
end Go.Proofs.Ytdenlghnfefbnaa.storeScans
