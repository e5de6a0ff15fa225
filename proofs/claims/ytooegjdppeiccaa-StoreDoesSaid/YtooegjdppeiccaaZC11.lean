import Derived.Test.YtooegjdppeiccaaZC10
import Derived.OpenShut
import Derived.Test.YtooegjdppeiccaaZC00
import Derived.BigQuiet
import Derived.Test.YtooegjdppeiccaaZC09
import Derived.Deep.DeepCutAuto
/-
  Arguments that are slices of numbers, opened to what the walks ask of bytes; and Equal of the document's own answers.
-/
namespace Go.Proofs.Ytooegjdppeiccaa
open Go.RowKit

/-- What is known of a slice of integers that came in: nil; or a row of cap cells, the first len of which are its elements. -/
def IsRow (k : IntKind) (w : World) (a : Option Addr) (len cap : Nat) (zs : List Int) : Prop :=
  (a = none ∧ len = 0 ∧ cap = 0 ∧ zs = []) ∨
  ∃ x, a = some x ∧ len ≤ cap ∧ cap ≤ maxLen ∧ zs.length = cap ∧ (∀ i, i < zs.length → w.cell? (x.add i) = some (.int k (zs.getD i 0))) ∧ ∀ n ∈ zs, (Lit.int k n).wf = true

theorem bytes_in {w : World} {a : Option Addr} {len cap : Nat} {zs : List Int} (h : IsRow .u8 w a len cap zs) :
    ∃ l : List UInt8, len = l.length ∧ len ≤ cap ∧ cap ≤ maxLen ∧ (a = none → cap = 0) ∧ Rd w 0 w.heap.size a l := by
  rcases h with ⟨rfl, rfl, rfl, rfl⟩ | ⟨x, rfl, h1, h2, h3, hc, hw⟩
  · exact ⟨[], rfl, Nat.le_refl _, Nat.zero_le _, fun _ => rfl, Rd.nil_⟩
  · refine ⟨(zs.take len).map fun n => UInt8.ofNat n.toNat, by rw [List.length_map, List.length_take]; omega, h1, h2, fun h => (by cases h), fun hp => ?_⟩
    rw [List.length_map, List.length_take] at hp
    obtain ⟨b, off, rfl, hc'⟩ := ints_at hc (by omega)
    refine ⟨b, off, rfl, Nat.zero_le _, World.block_lt_of_cell? w ⟨b, off + 0, none⟩ (hc' 0 (by omega)), fun j hj => ?_⟩
    rw [List.length_map, List.length_take] at hj
    have hjz : j < zs.length := by omega
    rw [hc' j hjz, List.getElem_map, List.getElem_take, List.getD_eq_getElem?_getD, List.getElem?_eq_getElem hjz]
    have hb := bounds_u8 (hw _ (List.getElem_mem hjz))
    have e : ((UInt8.ofNat (zs[j]).toNat).toNat : Int) = zs[j] := by rw [byte_nat _ (by omega)]; omega
    rw [e]
    rfl

/-- A slice at A holds the values vs. -/
def RowV (w : World) (hi : Nat) (A : Option Addr) (vs : List Value) : Prop :=
  0 < vs.length → ∃ b o, A = some ⟨b, o, none⟩ ∧ b < hi ∧ ∀ j (h : j < vs.length), w.cell? ⟨b, o + j, none⟩ = some (vs[j]'h)

theorem RowV.below {w w' : World} {hi B : Nat} {A : Option Addr} {vs : List Value} (h : RowV w hi A vs) (hb : Below B w w') (hB : hi ≤ B) : RowV w' hi A vs := fun hn => by
  obtain ⟨b, o, e, h1, hc⟩ := h hn
  exact ⟨b, o, e, h1, fun j hj => (hb.cell (p := ⟨b, o + j, none⟩) (Nat.lt_of_lt_of_le h1 hB)).trans (hc j hj)⟩

theorem RowV.at_ {w : World} {hi k : Nat} {A : Option Addr} {vs : List Value} (h : RowV w hi A vs) (hk : k < vs.length) : ∃ b o, A = some ⟨b, o, none⟩ ∧ w.cell? ⟨b, o + k, none⟩ = some (vs[k]'hk) := by
  obtain ⟨b, o, e, _, hc⟩ := h (by omega)
  exact ⟨b, o, e, hc k hk⟩

theorem nums_in {k : IntKind} {w : World} {a : Option Addr} {len cap : Nat} {zs : List Int} (h : IsRow k w a len cap zs) :
    ∃ l : List Int, len = l.length ∧ (∀ n ∈ l, (Lit.int k n).wf = true) ∧ len ≤ maxLen ∧ RowV w w.heap.size a (l.map (Value.int k)) := by
  rcases h with ⟨rfl, rfl, rfl, rfl⟩ | ⟨x, rfl, h1, h2, h3, hc, hw⟩
  · exact ⟨[], rfl, by simp, Nat.zero_le _, fun h => absurd h (by simp)⟩
  · refine ⟨zs.take len, by rw [List.length_take]; omega, fun n hn => hw n (List.mem_of_mem_take hn), by omega, fun hp => ?_⟩
    rw [List.length_map, List.length_take] at hp
    obtain ⟨b, off, rfl, hc'⟩ := ints_at hc (by omega)
    refine ⟨b, off, rfl, World.block_lt_of_cell? w ⟨b, off + 0, none⟩ (hc' 0 (by omega)), fun j hj => ?_⟩
    rw [List.length_map, List.length_take] at hj
    have hjz : j < zs.length := by omega
    rw [hc' j hjz, List.getElem_map, List.getElem_take, List.getD_eq_getElem?_getD, List.getElem?_eq_getElem hjz]
    rfl

/-- What is known of a slice of strings that came in. -/
def IsStrs (w : World) (a : Option Addr) (len cap : Nat) (ss : List ByteArray) : Prop :=
  (a = none ∧ len = 0 ∧ cap = 0 ∧ ss = []) ∨
  ∃ x, a = some x ∧ len ≤ cap ∧ cap ≤ maxLen ∧ ss.length = cap ∧ (∀ i, i < ss.length → w.cell? (x.add i) = some (.string (ss.getD i ByteArray.empty))) ∧ ∀ s ∈ ss, s.size ≤ maxLen

/-- The strings that are the slice's elements. -/
theorem strs_take {w : World} {a : Option Addr} {len cap : Nat} {ss : List ByteArray} {p : ByteArray → Prop} (h : IsStrs w a len cap ss) (hp : ∀ s ∈ ss.take len, p s) :
    ∃ l : List ByteArray, len = l.length ∧ (∀ s ∈ l, p s) ∧ RowV w w.heap.size a (l.map Value.string) := by
  rcases h with ⟨rfl, rfl, rfl, rfl⟩ | ⟨x, rfl, h1, h2, h3, hc, hw⟩
  · exact ⟨[], rfl, by simp, fun h => absurd h (by simp)⟩
  · refine ⟨ss.take len, by rw [List.length_take]; omega, hp, fun hp => ?_⟩
    rw [List.length_map, List.length_take] at hp
    have h0 := hc 0 (by omega)
    obtain ⟨b, off, spot⟩ := x
    have hspot : spot = none := by simpa [Addr.add] using World.cell?_spot h0
    subst hspot
    refine ⟨b, off, rfl, World.block_lt_of_cell? w _ h0, fun j hj => ?_⟩
    rw [List.length_map, List.length_take] at hj
    have hjz : j < ss.length := by omega
    have := hc j hjz
    rw [addr_add] at this
    rw [this, List.getElem_map, List.getElem_take, List.getD_eq_getElem?_getD, List.getElem?_eq_getElem hjz]
    rfl

theorem strs_in {w : World} {a : Option Addr} {len cap : Nat} {ss : List ByteArray} (h : IsStrs w a len cap ss) :
    ∃ l : List ByteArray, len = l.length ∧ (∀ s ∈ l, s.size ≤ maxLen) ∧ len ≤ maxLen ∧ RowV w w.heap.size a (l.map Value.string) := by
  have hs : ∀ s ∈ ss, s.size ≤ maxLen := by
    rcases h with ⟨_, _, _, rfl⟩ | ⟨_, _, _, _, _, _, hw⟩
    · simp
    · exact hw
  have hl : len ≤ maxLen := by
    rcases h with ⟨_, rfl, _, _⟩ | ⟨_, _, h1, h2, _⟩
    · exact Nat.zero_le _
    · omega
  obtain ⟨l, h1, h2, h3⟩ := strs_take h (p := fun s => s.size ≤ maxLen) (fun s hm => hs s (List.mem_of_mem_take hm))
  exact ⟨l, h1, h2, hl, h3⟩

/-- Equal of two slices of bytes. -/
theorem equal_any (A1 A2 : Option Addr) (c1 c2 n1 n2 lo1 hi1 lo2 hi2 : Nat) (l1 l2 : List UInt8) (w : World) (e1 : n1 = l1.length) (e2 : n2 = l2.length) (h1 : Rd w lo1 hi1 A1 l1) (h2 : Rd w lo2 hi2 A2 l2) :
    Calls Try.prog 61 #[.slice A1 n1 c1, .slice A2 n2 c2] w fun e w' => e = .returned (.bool (l1 == l2)) ∧ w = w' := by
  have k1 := conv_ret (c := c1) e1 h1
  have k2 := conv_ret (c := c2) e2 h2
  clear h1 h2 e1 e2
  go_enter Try.func61, Try.ntmps61
  go_wp2
  go_ret
  exact ⟨rfl, rfl⟩

theorem equal_same (A1 A2 : Option Addr) (c1 c2 n1 n2 lo1 hi1 lo2 hi2 : Nat) (l : List UInt8) (w : World) (e1 : n1 = l.length) (e2 : n2 = l.length) (h1 : Rd w lo1 hi1 A1 l) (h2 : Rd w lo2 hi2 A2 l) :
    Calls Try.prog 61 #[.slice A1 n1 c1, .slice A2 n2 c2] w fun e w' => e = .returned (.bool true) ∧ w = w' := by
  have := equal_any A1 A2 c1 c2 n1 n2 lo1 hi1 lo2 hi2 l l w e1 e2 h1 h2
  rwa [beq_self_eq_true] at this

end Go.Proofs.Ytooegjdppeiccaa

/-
  A region that draws its order, walked once in the order of its text over a class of worlds.
-/
namespace Go.Proofs.Ytooegjdppeiccaa
open Go.RowKit

theorem wp_region_classJ {P : Program} {C : World → Prop} {id : Nat} {Q : Exit → Act → World → Prop} {a : Act} {w : World} {l : List Oper} (hm : P.follows .mixedOrders = true) (hB : Region.lexB .any l.toArray = true) (hC : C w.drew)
    (h : wpQuiet P l.toArray C (fun a' => ∀ w', C w' → Q .normal a' w') l a) : (Code.region id l.toArray true).wp P Q a w :=
  wp_region_quiet (C := C) hm hB hC (by simpa using h)
end Go.Proofs.Ytooegjdppeiccaa

/-
  The statements' own helpers on stores: pairs held against each other; what was told held against what was told; limits; a store made; a write put.
-/
namespace Go.Proofs.Ytooegjdppeiccaa
open Go.RowKit

/-- No block has turned. -/
def SameAs (w w' : World) : Prop := w'.heap = w.heap ∧ Below w.heap.size w w'
def sameP (a b : List (KeyS × List UInt8)) : Bool := decide (a = b)
set_option maxRecDepth 100000 in
set_option maxHeartbeats 4000000 in
theorem samePairs_any (l m : List (KeyS × List UInt8)) (A B : Option Addr) (c d : Nat) (lo1 hi1 lo2 hi2 : Nat) (w : World) (hl : l.length ≤ 9223372036854775807) (hm : m.length ≤ 9223372036854775807) (hr : RowP w lo1 hi1 A l) (hrm : RowP w lo2 hi2 B m) :
    Calls Try.prog 62 #[.slice A l.length c, .slice B m.length d] w fun r w' => r = .returned (.bool (sameP l m)) ∧ Below w.heap.size w w' := by
  by_cases hlen : l.length = m.length
  · have HR := Lib.hid hr
    have HRM := Lib.hid hrm
    rw [hlen]
    have HLen := Lib.hid hlen
    clear hr hrm hlen hl
    go_enter Try.func62, Try.ntmps62
    go_wp2
    go_loopg [5, 13] m.length (fun q _ i wr => ∃ j : Nat, j + q = m.length ∧ i = .int .i64 j ∧ l.take j = m.take j ∧ Below w.heap.size w wr ∧ wr.heap = w.heap)
    case atStart => exact ⟨0, by omega, rfl, rfl, Below.refl _ _, rfl⟩
    case round =>
      obtain ⟨j, hk, rfl, hall, hb, hh⟩ := hrel
      have HK := Lib.hid hk
      have HA := Lib.hid hall
      have HB := Lib.hid hb
      have HH := Lib.hid hh
      clear hall hb hk hh
      by_cases hjm : j < m.length
      · have hlt : decide ((j : Int) < (m.length : Int)) = true := by simpa using hjm
        have hlt3 : decide (j < m.length) = true := by simpa using hjm
        have hj : j < l.length := by rw [HLen.out]; exact hjm
        obtain ⟨b, o, A', c', rfl, hbl, c0, c1, hs⟩ := HR.out.at_ hj
        obtain ⟨b', o', B', d', rfl, hbl2, e0, e1, hs2⟩ := HRM.out.at_ hjm
        have hcell : ∀ W, SameAs wr W → ∀ p, W.cell? p = w.cell? p := fun W h p => World.cell?_of_block (by rw [h.1, HH.out])
        have HCl := Lib.hid (fun (W : World) (h : SameAs wr W) => And.intro ((hcell W h _).trans c0) (And.intro ((hcell W h _).trans c1) (And.intro ((hcell W h _).trans e0) ((hcell W h _).trans e1))))
        have HK1 : Hid (∀ W : World, SameAs wr W → (convert 41 9 (.slice A' l[j].2.length c')).run Try.prog W = .ok (.string (bs l[j].2)) W) := Lib.hid fun W h => conv_ret rfl (hs.2.2.2.keep fun p _ _ => hcell W h p)
        have HK2 : Hid (∀ W : World, SameAs wr W → (convert 41 9 (.slice B' m[j].2.length d')).run Try.prog W = .ok (.string (bs m[j].2)) W) := Lib.hid fun W h => conv_ret rfl (hs2.2.2.2.keep fun p _ _ => hcell W h p)
        clear c0 c1 e0 e1
        have HT1 := Lib.hid (show l.take (j + 1) = l.take j ++ [l[j]] from by rw [List.take_succ_eq_append_getElem hj])
        have HT2 := Lib.hid (show m.take (j + 1) = m.take j ++ [m[j]] from by rw [List.take_succ_eq_append_getElem hjm])
        have HNe := Lib.hid (fun (h : l[j] ≠ m[j]) => (show sameP l m = false by
          unfold sameP
          rw [decide_eq_false_iff_not]
          intro e
          subst e
          exact h rfl))
        clear hs hs2 hcell
        generalize l[j] = x at *
        generalize m[j] = y at *
        obtain ⟨x1, x2⟩ := x
        obtain ⟨y1, y2⟩ := y
        simp only at HCl HK1 HK2
        by_cases hx : x1 = y1
        · subst hx
          have q1 : ((bs x1).toList == (bs x1).toList) = true := beq_self_eq_true _
          by_cases hy : x2 = y2
          · subst hy
            have q2 : ((bs x2).toList == (bs x2).toList) = true := beq_self_eq_true _
            go_wp2
            refine wp_region_classJ (C := SameAs wr) (by kernel_rfl) (by kernel_rfl) ⟨rfl, (Below.refl _ _).drew⟩ ?_
            repeat (
              refine no_implicit_lambda% (wpQuiet_step ?_)
              intro K hK
              go_simp
              first
              | (refine no_implicit_lambda% (hK _ ?_); clear hK K)
              | (apply Exists.intro
                 refine ⟨fun _ => ?_, hK _ ?_⟩
                 (first
                   | (intro _; with_reducible rfl)
                   | (intro hw; obtain ⟨z0, z1, z2, z3⟩ := HCl.out _ hw; go_simp; with_reducible exact ⟨rfl, rfl⟩)
                   | (intro hw; obtain ⟨z0, z1, z2, z3⟩ := HCl.out _ hw; go_simp; with_reducible rfl)
                   | (intro hw; have z1 := HK1.out _ hw; have z2 := HK2.out _ hw; go_simp; with_reducible exact ⟨rfl, rfl⟩)
                   | (intro hw; have z1 := HK1.out _ hw; have z2 := HK2.out _ hw; go_simp; with_reducible rfl)
                   | (intro hw; go_simp; with_reducible exact ⟨rfl, rfl⟩))
                 clear hK K))
            refine wpQuiet_nil ?_
            intro w8 hb8
            have HB8 := Lib.hid hb8
            clear hb8
            go_wp2_with fail
            go_roundg (gk - 1)
            case measure => have := HK.out; omega
            case rel => exact ⟨j + 1, by have := HK.out; omega, by go_num, by rw [HT1.out, HT2.out, HA.out], HB.out.trans (HB8.out.2.mono HB.out.size), HB8.out.1.trans HH.out⟩
          · have q2 : ((bs x2).toList == (bs y2).toList) = false := by rw [bs_same]; exact beq_neB hy
            have HF := Lib.hid (HNe.out (by simp [hy]))
            clear hy
            go_wp2
            refine wp_region_classJ (C := SameAs wr) (by kernel_rfl) (by kernel_rfl) ⟨rfl, (Below.refl _ _).drew⟩ ?_
            repeat (
              refine no_implicit_lambda% (wpQuiet_step ?_)
              intro K hK
              go_simp
              first
              | (refine no_implicit_lambda% (hK _ ?_); clear hK K)
              | (apply Exists.intro
                 refine ⟨fun _ => ?_, hK _ ?_⟩
                 (first
                   | (intro _; with_reducible rfl)
                   | (intro hw; obtain ⟨z0, z1, z2, z3⟩ := HCl.out _ hw; go_simp; with_reducible exact ⟨rfl, rfl⟩)
                   | (intro hw; obtain ⟨z0, z1, z2, z3⟩ := HCl.out _ hw; go_simp; with_reducible rfl)
                   | (intro hw; have z1 := HK1.out _ hw; have z2 := HK2.out _ hw; go_simp; with_reducible exact ⟨rfl, rfl⟩)
                   | (intro hw; have z1 := HK1.out _ hw; have z2 := HK2.out _ hw; go_simp; with_reducible rfl)
                   | (intro hw; go_simp; with_reducible exact ⟨rfl, rfl⟩))
                 clear hK K))
            refine wpQuiet_nil ?_
            intro w8 hb8
            have HB8 := Lib.hid hb8
            clear hb8
            go_wp2_with fail
            go_ret
            rw [HF.out]
            exact ⟨rfl, HB.out.trans (HB8.out.2.mono HB.out.size)⟩
        · have q1 : ((bs x1).toList == (bs y1).toList) = false := by rw [bs_same]; exact beq_neB hx
          have HF := Lib.hid (HNe.out (by simp [hx]))
          clear hx
          go_wp2
          refine wp_region_classJ (C := SameAs wr) (by kernel_rfl) (by kernel_rfl) ⟨rfl, (Below.refl _ _).drew⟩ ?_
          repeat (
            refine no_implicit_lambda% (wpQuiet_step ?_)
            intro K hK
            go_simp
            first
            | (refine no_implicit_lambda% (hK _ ?_); clear hK K)
            | (apply Exists.intro
               refine ⟨fun _ => ?_, hK _ ?_⟩
               (first
                 | (intro _; with_reducible rfl)
                 | (intro hw; obtain ⟨z0, z1, z2, z3⟩ := HCl.out _ hw; go_simp; with_reducible exact ⟨rfl, rfl⟩)
                 | (intro hw; obtain ⟨z0, z1, z2, z3⟩ := HCl.out _ hw; go_simp; with_reducible rfl)
                 | (intro hw; have z1 := HK1.out _ hw; have z2 := HK2.out _ hw; go_simp; with_reducible exact ⟨rfl, rfl⟩)
                 | (intro hw; have z1 := HK1.out _ hw; have z2 := HK2.out _ hw; go_simp; with_reducible rfl)
                 | (intro hw; go_simp; with_reducible exact ⟨rfl, rfl⟩))
               clear hK K))
          refine wpQuiet_nil ?_
          intro w8 hb8
          have HB8 := Lib.hid hb8
          clear hb8
          go_wp2_with fail
          go_ret
          rw [HF.out]
          exact ⟨rfl, HB.out.trans (HB8.out.2.mono HB.out.size)⟩
      · have hj' : j = m.length := by have := HK.out; omega
        have hlt : decide ((j : Int) < (m.length : Int)) = false := by simpa using hjm
        have HF := Lib.hid (show sameP l m = true by
          have h := HA.out
          rw [hj', List.take_length, ← HLen.out, List.take_length] at h
          unfold sameP
          rw [decide_eq_true_iff]
          exact h)
        clear hj'
        go_wp2
        go_ret
        rw [HF.out]
        exact ⟨rfl, HB.out⟩
  · have hle : ((l.length : Int) == (m.length : Int)) = false := by rw [beq_eq_false_iff_ne]; omega
    have hle2 : ((l.length : Int) != (m.length : Int)) = true := by rw [bne, hle]; rfl
    have e : sameP l m = false := by unfold sameP; rw [decide_eq_false_iff_not]; intro e; exact hlen (by rw [e])
    rw [e]
    clear e hlen hr hrm
    go_enter Try.func62, Try.ntmps62
    go_wp2
    go_ret
    exact ⟨rfl, Below.refl _ _⟩
end Go.Proofs.Ytooegjdppeiccaa
