/-
  The document's own answers on keys: part and Make of conductorref03.
-/
import Derived.Test.YtaldjfijcoppiaaSame
import Derived.Test.YtaldjfijcoppiaaKPlain
import Derived.Laws.NewBlocks
namespace Go.Proofs.Ytaldjfijcoppiaa
open Go.RowKit

theorem info_byteK : (Try.prog.info? 5).map (fun i => (i.zero, i.size, i.bytes)) = some (some (.int .u8 0), 1, 1) := by kernel_rfl
theorem infoByte : ∃ i, Try.prog.info? 5 = some i ∧ i.zero = some (.int .u8 0) ∧ i.size = 1 ∧ i.bytes = 1 := by
  obtain ⟨i, hi, hz⟩ := Option.map_eq_some_iff.1 info_byteK
  simp only [Prod.mk.injEq] at hz
  exact ⟨i, hi, hz.1, hz.2.1, hz.2.2⟩

/-- A new slice without elements. -/
theorem own_empty (w : World) (e : TypeId) : (w.alloc (.cells #[] e)).ownsRow w.heap.size e 1 (.slice (some ⟨w.heap.size, 0, none⟩) 0 0) 0 (bvs []) :=
  ⟨rfl, .inr ⟨w.heap.size, 0, #[], rfl, Nat.le_refl _, heap_alloc_new w _, Nat.le_refl _, by decide, rfl, rfl⟩⟩

/-- Two bytes that were built. -/
theorem Rd.two (w : World) (e : TypeId) (a b : UInt8) : Rd (w.alloc (.cells #[.int .u8 a.toNat, .int .u8 b.toNat] e)) w.heap.size (w.heap.size + 1) (some ⟨w.heap.size, 0, none⟩) [a, b] := fun _ => by
  refine ⟨w.heap.size, 0, rfl, Nat.le_refl _, by omega, fun j hj => ?_⟩
  rw [cell_of_row _ w.heap.size _ _ e (0, 0) (heap_alloc_new w _)]
  match j, hj with
  | 0, _ => rfl
  | 1, _ => rfl

theorem take_snocB (s : ByteArray) (k : Nat) (h : k < s.size) : s.data.toList.take (k + 1) = s.data.toList.take k ++ [s[k]] := by
  rw [List.take_succ_eq_append_getElem (by simpa using h)]; rfl

set_option maxRecDepth 100000 in
set_option maxHeartbeats 1000000 in
theorem part_any (s : ByteArray) (w : World) (hs : s.size ≤ 100000) :
    Calls Try.prog 29 #[.string s] w fun r w' => r = .returned (.string ⟨(encP s.data.toList).toArray⟩) ∧ Below w.heap.size w w' := by
  obtain ⟨i0, hi, hz0, hz1, hz2⟩ := infoByte
  have I0 := Lib.hid hi
  have I1 := Lib.hid hz0
  have I2 := Lib.hid hz1
  have I3 := Lib.hid hz2
  clear hi hz0 hz1 hz2
  go_enter Try.func29, Try.ntmps29
  go_wp2
  go_loopg [3, 8] s.size (fun q v i wr => ∃ (k n : Nat), k + q = s.size ∧ i = .int .i64 k ∧ wr.ownsRow w.heap.size 5 1 v n (bvs (encL (s.data.toList.take k))) ∧ Below w.heap.size w wr)
  case atStart => exact ⟨0, 0, by omega, rfl, own_empty w _, (Below.refl _ w).alloc (Nat.le_refl _) _⟩
  case round =>
    obtain ⟨k, n, hk, rfl, hown, hb⟩ := hrel
    have HK := Lib.hid hk
    have hn : n = (encL (s.data.toList.take k)).length := by have := hown.1; rw [bvs_length] at this; omega
    have hl1 := encL_len (s.data.toList.take k)
    have hl2 : (s.data.toList.take k).length ≤ k := List.length_take_le _ _
    have hnn : n ≤ 200000 := by omega
    have hbs := hb.size
    have HL := Lib.hid (show (encL (s.data.toList.take k)).length ≤ 200000 by omega)
    clear hk hn hl1 hl2
    by_cases hj : k < s.size
    · have hlt : decide ((k : Int) < (s.size : Int)) = true := by simpa using hj
      have HT := Lib.hid (take_snocB s k hj)
      by_cases hc : s[k] = 0
      · have hz : ((s[k].toNat : Int) == 0) = true := by rw [hc]; rfl
        have HC := Lib.hid hc
        clear hc
        go_wp2_with (first | (at_builtin; refine append_rd _ rfl _ _ 49 rfl w.heap.size 5 i0 (.int .u8 0) Try.underlying49 I0.out I1.out I2.out I3.out rfl _ _ _ rfl (hown1.alloc _) _ _ _ 1 _ [255] rfl rfl (by intro h; cases h) (Rd.one _ _ _ _ rfl) (by have := HL.out; simp; omega) (by have := hb1.size; simp; omega) ?_; intro v2 w2 hown2 hgrow2; have hb2 : Below w.heap.size w w2 := (hb1.alloc hb1.size _).grown hgrow2 (by simp; have := hb1.size; omega) (fun g hg => (hown1.lt g hg).1); clear hgrow2) | (at_builtin; refine append_rd _ rfl _ _ 49 rfl w.heap.size 5 i0 (.int .u8 0) Try.underlying49 I0.out I1.out I2.out I3.out rfl _ _ _ rfl (hown.alloc _) _ _ _ 1 _ [s[k]] rfl rfl (by intro h; cases h) (Rd.one _ _ _ _ rfl) (by have := HL.out; simp; omega) (by simp; omega) ?_; intro v1 w1 hown1 hgrow1; have hb1 : Below w.heap.size w w1 := (hb.alloc hb.size _).grown hgrow1 (by simp; have := hb.size; omega) (fun g hg => (hown.lt g hg).1); clear hgrow1))
        go_roundg (gk - 1)
        case measure => have := HK.out; omega
        case rel =>
          refine ⟨k + 1, n + 1 + 1, by have := HK.out; omega, by go_num, ?_, hb2⟩
          rw [HT.out, encL_snoc, HC.out, show encB 0 = [0, 255] from rfl]
          rw [HC.out, List.append_assoc] at hown2
          exact hown2
      · have hz : ((s[k].toNat : Int) == 0) = false := by
          rw [beq_eq_false_iff_ne]
          intro h
          exact hc (UInt8.toNat_inj.1 (by show s[k].toNat = 0; omega))
        have HC := Lib.hid hc
        clear hc
        go_wp2_with ((at_builtin; refine append_rd _ rfl _ _ 49 rfl w.heap.size 5 i0 (.int .u8 0) Try.underlying49 I0.out I1.out I2.out I3.out rfl _ _ _ rfl (hown.alloc _) _ _ _ 1 _ [s[k]] rfl rfl (by intro h; cases h) (Rd.one _ _ _ _ rfl) (by have := HL.out; simp; omega) (by simp; omega) ?_; intro v1 w1 hown1 hgrow1; have hb1 : Below w.heap.size w w1 := (hb.alloc hb.size _).grown hgrow1 (by simp; have := hb.size; omega) (fun g hg => (hown.lt g hg).1); clear hgrow1))
        go_roundg (gk - 1)
        case measure => have := HK.out; omega
        case rel =>
          refine ⟨k + 1, n + 1, by have := HK.out; omega, by go_num, ?_, hb1⟩
          rw [HT.out, encL_snoc, show encB s[k] = [s[k]] from if_neg HC.out]
          exact hown1
    · have hj' : k = s.size := by have := HK.out; omega
      have hlt : decide ((k : Int) < (s.size : Int)) = false := by simpa using hj
      subst hj'
      go_wp2_with ((at_builtin; refine append_rd _ rfl _ _ 49 rfl w.heap.size 5 i0 (.int .u8 0) Try.underlying49 I0.out I1.out I2.out I3.out rfl _ _ _ rfl (hown.alloc _) _ _ _ 2 _ [0, 1] rfl rfl (by intro h; cases h) (Rd.two _ _ 0 1) (by have := HL.out; simp; omega) (by simp; omega) ?_; intro v1 w1 hown1 hgrow1; have hb1 : Below w.heap.size w w1 := (hb.alloc hb.size _).grown hgrow1 (by simp; have := hb.size; omega) (fun g hg => (hown.lt g hg).1); clear hgrow1; obtain ⟨A9, c9, rfl⟩ := own_slice hown1; have hcv := conv_rd 49 9 5 Try.underlying49 Try.underlying5 Try.underlying9 (c := c9) (Rd.own hown1).1 (Rd.own hown1).2.2.2.2))
      go_ret
      refine ⟨?_, hb1⟩
      rw [encP]
      rw [show s.data.toList.take s.size = s.data.toList from List.take_length]
      rfl

/-- The bytes of the first j parts. -/
def keyPre (l : List ByteArray) (j : Nat) : List UInt8 := encAll ((l.take j).map (·.data.toList))
theorem keyPre_succ (l : List ByteArray) (j : Nat) (h : j < l.length) : keyPre l (j + 1) = keyPre l j ++ encP l[j].data.toList := by
  unfold keyPre
  rw [List.take_succ_eq_append_getElem h, List.map_append, List.map_cons, List.map_nil, encAll_snoc]
theorem keyPre_len {l : List ByteArray} (hp : ∀ p ∈ l, p.size ≤ 100000) (j : Nat) : (keyPre l j).length ≤ 200002 * j := by
  induction j with
  | zero => simp [keyPre, encAll]
  | succ j ih =>
    by_cases h : j < l.length
    · rw [keyPre_succ l j h, List.length_append]
      have h1 := encP_len l[j].data.toList
      have h2 := hp _ (List.getElem_mem h)
      have h3 : l[j].data.toList.length = l[j].size := rfl
      omega
    · have e : keyPre l (j + 1) = keyPre l j := by
        unfold keyPre
        rw [List.take_of_length_le (by omega), List.take_of_length_le (by omega)]
      rw [e]
      omega
theorem ba_cat (a b : List UInt8) : (⟨a.toArray⟩ : ByteArray) ++ ⟨b.toArray⟩ = ⟨(a ++ b).toArray⟩ := by
  apply ByteArray.ext
  simp

/-- The bytes of a key. -/
def keyB (kind : UInt8) (l : List ByteArray) : List UInt8 := kind :: encAll (l.map (·.data.toList))

theorem conv_byte (w : World) (b : UInt8) (x : Int) (hx : x = (b.toNat : Int)) : (convert 49 9 (.slice (some ⟨w.heap.size, 0, none⟩) 1 1)).run Try.prog (w.alloc (.cells #[.int .u8 x] 5)) = .ok (.string ⟨[b].toArray⟩) (w.alloc (.cells #[.int .u8 x] 5)) :=
  conv_rd (m := [b]) 49 9 5 Try.underlying49 Try.underlying5 Try.underlying9 rfl (Rd.one w 5 _ b hx)

set_option maxRecDepth 100000 in
set_option maxHeartbeats 1000000 in
theorem refMake_any (kind : UInt8) (A : Option Addr) (n c : Nat) (l : List ByteArray) (lo hi : Nat) (w : World) (hn : n = l.length) (hl : n ≤ 100000) (hp : ∀ p ∈ l, p.size ≤ 100000) (hr : RowS w lo hi A l) (hhi : hi ≤ w.heap.size) :
    Calls Try.prog 14 #[.int .u8 kind.toNat, .slice A n c] w fun r w' => r = .returned (.string ⟨(keyB kind l).toArray⟩) ∧ Below w.heap.size w w' := by
  subst hn
  have HR := Lib.hid hr
  have HP := Lib.hid hp
  have hcv := conv_byte w kind kind.toNat rfl
  clear hr hp
  go_enter Try.func14, Try.ntmps14
  go_wp2
  go_loopg [5, 13] l.length (fun q s i wr => ∃ j : Nat, j + q = l.length ∧ i = .int .i64 j ∧ s = .string ⟨(kind :: keyPre l j).toArray⟩ ∧ Below w.heap.size w wr)
  case atStart => exact ⟨0, by omega, rfl, rfl, (Below.refl _ w).alloc (Nat.le_refl _) _⟩
  case round =>
    obtain ⟨j, hk, rfl, rfl, hb⟩ := hrel
    have HK := Lib.hid hk
    have HB := Lib.hid hb
    clear hb hcv
    have hkl := keyPre_len HP.out j
    by_cases hj : j < l.length
    · have hlt : decide ((j : Int) < (l.length : Int)) = true := by simpa using hj
      obtain ⟨b, o, rfl, d1⟩ := (HR.out.below HB.out hhi).at_ hj
      have HS := Lib.hid (keyPre_succ l j hj)
      have hz := HP.out _ (List.getElem_mem hj)
      have hel := encP_len l[j].data.toList
      have hel' : l[j].data.toList.length = l[j].size := rfl
      have hle : (encP l[j].data.toList).length ≤ 200002 := by omega
      clear hel hel' hk
      generalize l[j] = pj at d1 HS hz hle
      go_wp2_with fail
      refine (part_any pj _ hz).mono ?_
      rintro r w2 ⟨rfl, b2⟩
      have B2 := Lib.hid (HB.out.trans (b2.mono HB.out.size))
      clear b2
      go_wp2_with fail
      go_roundg (gk - 1)
      case measure => have := HK.out; omega
      case rel =>
        refine ⟨j + 1, by have := HK.out; omega, by go_num, ?_, B2.out⟩
        rw [HS.out, ba_cat]
        rfl
    · have hj' : j = l.length := by have := HK.out; omega
      have hlt : decide ((j : Int) < (l.length : Int)) = false := by simpa using hj
      subst hj'
      clear hk
      go_wp2_with fail
      go_ret
      refine ⟨?_, HB.out⟩
      unfold keyPre keyB
      rw [List.take_length]
      rfl
end Go.Proofs.Ytaldjfijcoppiaa
