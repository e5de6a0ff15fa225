import Derived.Test.YtooegjdppeiccaaZC14
import Derived.Test.YtooegjdppeiccaaZC17
import Derived.Deep.LoopGhost
/-
  Stores, the document's own answers: a store in memory, key by key; Chain, Read, Latest, Check.
-/
namespace Go.Proofs.Ytooegjdppeiccaa
open Go.RowKit

/-- A key with its chain, and where they lie. -/
structure MOne where
  key : KeyS
  A : Option Addr
  c : Nat
  ms : List MV
def oneCells (x : MOne) : List Value := [.string (bs x.key), .slice x.A x.ms.length x.c]
theorem oneF : Fixed 2 oneCells := ⟨by decide, fun _ => rfl, fun x v hv => by
  simp only [oneCells, List.mem_cons, List.not_mem_nil, or_false] at hv
  rcases hv with rfl | rfl <;> rfl⟩
def MOne.k (x : MOne) : KeyS × List Ver := (x.key, x.ms.map MV.v)
/-- A slice at A holds the elements l, in a block of S. -/
def RowS {α : Type} (cs : α → List Value) (w : World) (S : Nat → Prop) (A : Option Addr) (l : List α) : Prop :=
  0 < l.length → ∃ b o, A = some ⟨b, o, none⟩ ∧ S b ∧ ∀ j u, (flatG cs l)[j]? = some u → w.cell? ⟨b, o + j, none⟩ = some u
def RdS (w : World) (S : Nat → Prop) (A : Option Addr) (l : List UInt8) : Prop :=
  0 < l.length → ∃ b o, A = some ⟨b, o, none⟩ ∧ S b ∧ ∀ j (h : j < l.length), w.cell? ⟨b, o + j, none⟩ = some (.int .u8 ((l[j]'h).toNat : Int))
def VerIn (w : World) (S : Nat → Prop) (y : MV) : Prop := y.v.tm < 18446744073709551616 ∧ y.v.dat.length ≤ y.c ∧ y.c ≤ maxLen ∧ (y.A = none → y.c = 0) ∧ RdS w S y.A y.v.dat
def OneIn (w : World) (S : Nat → Prop) (x : MOne) : Prop := x.ms.length ≤ x.c ∧ x.c ≤ maxLen ∧ (x.A = none → x.c = 0) ∧ RowS mvCells w S x.A x.ms ∧ ∀ y ∈ x.ms, VerIn w S y
section
variable {α : Type} {k : Nat} {cs : α → List Value} {w w' : World} {S T : Nat → Prop} {A : Option Addr} {l : List α}
theorem RowS.block (hF : Fixed k cs) (h : RowS cs w S A l) (hn : 0 < l.length) : ∃ b o, A = some ⟨b, o, none⟩ ∧ S b ∧ b < w.heap.size ∧ ∀ j u, (flatG cs l)[j]? = some u → w.cell? ⟨b, o + j, none⟩ = some u := by
  obtain ⟨b, o, e, hs, hc⟩ := h hn
  have h0 : 0 < (flatG cs l).length := by rw [hF.flat_len]; exact Nat.mul_pos hn hF.pos
  have := World.block_lt_of_cell? w _ (hc 0 _ (List.getElem?_eq_getElem h0))
  exact ⟨b, o, e, hs, by simpa using this, hc⟩
theorem RowS.rowG (hF : Fixed k cs) (h : RowS cs w S A l) : RowG cs w 0 w.heap.size A l := fun hn => by
  obtain ⟨b, o, e, _, hb, hc⟩ := h.block hF hn
  exact ⟨b, o, e, Nat.zero_le _, hb, hc⟩
theorem RowS.keep (hF : Fixed k cs) (h : RowS cs w S A l) (hk : ∀ g, S g → g < w.heap.size → w'.heap[g]? = w.heap[g]? ∧ T g) : RowS cs w' T A l := fun hn => by
  obtain ⟨b, o, e, hs, hb, hc⟩ := h.block hF hn
  obtain ⟨h1, h2⟩ := hk b hs hb
  exact ⟨b, o, e, h2, fun j u hj => (World.cell?_of_block (a := ⟨b, o + j, none⟩) h1).trans (hc j u hj)⟩
theorem RowS.of_new {lo hi : Nat} (h : RowG cs w lo hi A l) (hS : ∀ g, lo ≤ g → S g) : RowS cs w S A l := fun hn => by
  obtain ⟨b, o, e, h1, _, hc⟩ := h hn
  exact ⟨b, o, e, hS b h1, hc⟩
theorem RdS.block {d : List UInt8} (h : RdS w S A d) (hn : 0 < d.length) : ∃ b o, A = some ⟨b, o, none⟩ ∧ S b ∧ b < w.heap.size ∧ ∀ j (h : j < d.length), w.cell? ⟨b, o + j, none⟩ = some (.int .u8 ((d[j]'h).toNat : Int)) := by
  obtain ⟨b, o, e, hs, hc⟩ := h hn
  have := World.block_lt_of_cell? w _ (hc 0 hn)
  exact ⟨b, o, e, hs, by simpa using this, hc⟩
theorem RdS.rd {d : List UInt8} (h : RdS w S A d) : Rd w 0 w.heap.size A d := fun hn => by
  obtain ⟨b, o, e, _, hb, hc⟩ := h.block hn
  exact ⟨b, o, e, Nat.zero_le _, hb, hc⟩
theorem RdS.keep {d : List UInt8} (h : RdS w S A d) (hk : ∀ g, S g → g < w.heap.size → w'.heap[g]? = w.heap[g]? ∧ T g) : RdS w' T A d := fun hn => by
  obtain ⟨b, o, e, hs, hb, hc⟩ := h.block hn
  obtain ⟨h1, h2⟩ := hk b hs hb
  exact ⟨b, o, e, h2, fun j hj => (World.cell?_of_block (a := ⟨b, o + j, none⟩) h1).trans (hc j hj)⟩
theorem RdS.of_rd {d : List UInt8} {lo hi : Nat} (h : Rd w lo hi A d) (hS : ∀ g, lo ≤ g → g < hi → S g) : RdS w S A d := fun hn => by
  obtain ⟨b, o, e, h1, h2, hc⟩ := h hn
  exact ⟨b, o, e, hS b h1 h2, hc⟩
theorem VerIn.keep {y : MV} (h : VerIn w S y) (hk : ∀ g, S g → g < w.heap.size → w'.heap[g]? = w.heap[g]? ∧ T g) : VerIn w' T y := ⟨h.1, h.2.1, h.2.2.1, h.2.2.2.1, h.2.2.2.2.keep hk⟩
theorem VerIn.ok {y : MV} (h : VerIn w S y) : OkMV w w.heap.size y := ⟨h.1, h.2.1, h.2.2.1, h.2.2.2.1, h.2.2.2.2.rd⟩
theorem OneIn.keep {x : MOne} (h : OneIn w S x) (hk : ∀ g, S g → g < w.heap.size → w'.heap[g]? = w.heap[g]? ∧ T g) : OneIn w' T x := ⟨h.1, h.2.1, h.2.2.1, h.2.2.2.1.keep mvF hk, fun y hy => (h.2.2.2.2 y hy).keep hk⟩
theorem OneIn.rowM {x : MOne} (h : OneIn w S x) : RowM w w.heap.size x.A x.ms := ⟨h.2.2.2.1.rowG mvF, fun y hy => (h.2.2.2.2 y hy).ok⟩
end
/-- A store of the document's in memory: its own block, and the keys' rows in blocks of S. -/
structure RefM (w : World) (p : Nat) (S : Nat → Prop) (L : LimS) (m r v : Int) (time : Nat) (A : Option Addr) (c : Nat) (os : List MOne) : Prop where
  box : w.heap[p]? = some (.cells #[.int .i64 L.keys, .int .i64 L.vers, .int .i64 L.byts, .int .i64 m, .int .i64 r, .int .i64 v, .int .u64 L.last, .int .u64 time, .slice A os.length c] 36 (0, 0))
  len : os.length ≤ c
  cap : c ≤ maxLen
  none_ : A = none → c = 0
  row : RowS oneCells w S A os
  each : ∀ x ∈ os, OneIn w S x
section
variable {w w' : World} {p : Nat} {S T : Nat → Prop} {L : LimS} {m r v : Int} {time : Nat} {A : Option Addr} {c : Nat} {os : List MOne}
theorem RefM.keep (h : RefM w p S L m r v time A c os) (hp : w'.heap[p]? = w.heap[p]?) (hk : ∀ g, S g → g < w.heap.size → w'.heap[g]? = w.heap[g]? ∧ T g) : RefM w' p T L m r v time A c os :=
  ⟨hp.trans h.box, h.len, h.cap, h.none_, h.row.keep oneF hk, fun x hx => (h.each x hx).keep hk⟩
theorem RefM.lt (h : RefM w p S L m r v time A c os) : p < w.heap.size := lt_of_heap h.box
theorem RefM.below (h : RefM w p S L m r v time A c os) (hb : Below w.heap.size w w') : RefM w' p S L m r v time A c os :=
  h.keep (hb.block p h.lt) fun g hs hg => ⟨hb.block g hg, hs⟩
end
def chainM (os : List MOne) (key : KeyS) : Option MOne := os.find? fun x => x.key == key
def chainVal : Option MOne → Value
  | some x => .slice x.A x.ms.length x.c
  | none => .slice none 0 0
theorem chainM_K (os : List MOne) (key : KeyS) : chainS (os.map MOne.k) key = ((chainM os key).map fun x => x.ms.map MV.v).getD [] := by
  induction os with
  | nil => rfl
  | cons x os ih =>
    rw [List.map_cons, chainS_cons]
    unfold chainM at ih ⊢
    rw [List.find?_cons]
    by_cases h : x.key = key
    · rw [if_pos (show x.k.1 = key from h), h, beq_self_eq_true]
      rfl
    · rw [if_neg (show ¬ x.k.1 = key from h), beq_neB h]
      exact ih
theorem chainM_mem {os : List MOne} {key : KeyS} {x : MOne} (h : chainM os key = some x) : x ∈ os ∧ x.key = key := ⟨List.mem_of_find?_eq_some h, by simpa using List.find?_some h⟩

set_option maxRecDepth 100000 in
set_option maxHeartbeats 4000000 in
theorem refChain_any (p : Nat) (S : Nat → Prop) (L : LimS) (m r v : Int) (time : Nat) (A : Option Addr) (c : Nat) (os : List MOne) (key : KeyS) (w : World) (h : RefM w p S L m r v time A c os) :
    Calls Try.prog 28 #[.pointer (some ⟨p, 0, none⟩), .string (bs key)] w fun e w' => e = .returned (chainVal (chainM os key)) ∧ Below w.heap.size w w' := by
  have HR := Lib.hid (h.row.rowG oneF)
  have hol : os.length ≤ 9223372036854775807 := by have := h.len; have := h.cap; unfold maxLen at *; omega
  have c8 := cell_of_row w p 8 _ _ _ h.box
  have c0 := cell_of_row w p 0 _ _ _ h.box
  clear h
  go_enter Try.func28, Try.ntmps28
  go_wp2
  go_loopg [12] os.length (fun q i wr => ∃ j : Nat, j + q = os.length ∧ i = .int .i64 j ∧ (∀ x ∈ os.take j, x.key ≠ key) ∧ Below w.heap.size w wr)
  case atStart => exact ⟨0, by omega, rfl, by simp, Below.refl _ _⟩
  case round =>
    obtain ⟨j, hk, rfl, hall, hb⟩ := hrel
    have HK := Lib.hid hk
    have HA := Lib.hid hall
    have HB := Lib.hid hb
    clear hk hall hb
    by_cases hj : j < os.length
    · have hlt : decide ((j : Int) < (os.length : Int)) = true := by simpa using hj
      have hlt2 : decide (j < os.length) = true := by simpa using hj
      obtain ⟨b, o, rfl, _, hbh, hcell⟩ := (HR.out.below HB.out (Nat.le_refl _)).at_ oneF hj
      have d0 := hcell 0 _ rfl
      have d1 := hcell 1 _ rfl
      simp only [Nat.add_zero] at d0
      have HTk := Lib.hid (show os.take (j + 1) = os.take j ++ [os[j]] from by rw [List.take_succ_eq_append_getElem hj])
      have HF := Lib.hid (fun (h : (os[j]'hj).key = key) => show chainM os key = some (os[j]'hj) by
        unfold chainM
        have e2 : List.find? (fun x => x.key == key) os = List.find? (fun x => x.key == key) (os.take j ++ os.drop j) := by rw [List.take_append_drop]
        rw [e2, List.find?_append, List.find?_eq_none.2 (fun x hx => by simpa using HA.out x hx), List.drop_eq_getElem_cons hj, List.find?_cons]
        simp [h])
      have HBA := Lib.hid (HB.out.alloc HB.out.size (.cells #[.string (bs (os[j]'hj).key), .slice (os[j]'hj).A (os[j]'hj).ms.length (os[j]'hj).c] 98))
      have q1 := bs_same (os[j]'hj).key key
      clear hcell hbh c8 c0
      generalize os[j] = x at *
      obtain ⟨xk, xA, xc, xm⟩ := x
      simp only at d0 d1 q1 HF HBA
      by_cases hq : xk = key
      · rw [show (xk == key) = true by rw [hq]; exact beq_self_eq_true _] at q1
        have HV := Lib.hid (HF.out hq)
        clear hq
        go_wp2
        go_ret
        rw [HV.out]
        exact ⟨rfl, HBA.out⟩
      · rw [beq_neB hq] at q1
        have HQ := Lib.hid hq
        clear hq
        go_wp2
        go_roundg (gk - 1)
        case measure => have := HK.out; omega
        case rel =>
          refine ⟨j + 1, by have := HK.out; omega, by go_num, fun x hx => ?_, HBA.out⟩
          rw [HTk.out] at hx
          rcases List.mem_append.1 hx with hx | hx
          · exact HA.out x hx
          · rw [List.mem_singleton] at hx
            subst hx
            exact HQ.out
    · have hj' : j = os.length := by have := HK.out; omega
      have hlt : decide ((j : Int) < (os.length : Int)) = false := by simpa using hj
      have HV := Lib.hid (show chainM os key = none by
        unfold chainM
        rw [List.find?_eq_none]
        intro x hx
        have h := HA.out x (by rw [hj', List.take_length]; exact hx)
        simpa using h)
      clear hj'
      go_wp2
      go_ret
      rw [HV.out]
      exact ⟨rfl, HB.out⟩

theorem okRow {w : World} {S : Nat → Prop} {os : List MOne} (h : ∀ x ∈ os, OneIn w S x) {key : KeyS} : ∀ x, chainM os key = some x → x.ms.length ≤ 9223372036854775807 ∧ RowH w w.heap.size x.A (x.ms.map MV.v) := fun x hx => by
  have h1 := h x (chainM_mem hx).1
  refine ⟨?_, h1.rowM.row⟩
  have := h1.1
  have := h1.2.1
  unfold maxLen at *
  omega
set_option maxRecDepth 100000 in
set_option maxHeartbeats 4000000 in
theorem refReadS_any (p : Nat) (S : Nat → Prop) (L : LimS) (m r v : Int) (time : Nat) (A : Option Addr) (c : Nat) (os : List MOne) (key : KeyS) (t : Nat) (w : World) (h : RefM w p S L m r v time A c os) :
    Calls Try.prog 67 #[.pointer (some ⟨p, 0, none⟩), .string (bs key), .int .u64 t] w (RetGet (readS (os.map MOne.k) key t) w) := by
  have HC := Lib.hid (refChain_any p S L m r v time A c os key w h)
  have HG : Hid (∀ W, Below w.heap.size w W → Calls Try.prog 96 #[chainVal (chainM os key), .int .u64 t] W (RetGet (readS (os.map MOne.k) key t) w)) := Lib.hid fun W hb => by
    unfold readS
    rw [chainM_K]
    cases hc : chainM os key with
    | none => exact (refGetH_any [] none 0 t W (by simp) (RowH.nil_ _ _ _)).mono fun _ _ ⟨B, d, e, h1, h2⟩ => ⟨B, d, e, h1, hb.trans (h2.mono hb.size)⟩
    | some x =>
      obtain ⟨h1, h2⟩ := okRow (h.below hb).each x hc
      have h3 := refGetH_any (x.ms.map MV.v) x.A x.c t W (by rw [List.length_map]; exact h1) h2
      rw [List.length_map] at h3
      exact h3.mono fun _ _ ⟨B, d, e, h4, h5⟩ => ⟨B, d, e, h4, hb.trans (h5.mono hb.size)⟩
  clear h
  go_enter Try.func67, Try.ntmps67
  go_wp2_with fail
  refine HC.out.mono ?_
  rintro e w1 ⟨rfl, hb1⟩
  have H2 := Lib.hid (HG.out w1 hb1)
  clear hb1 HG HC
  go_wp2_with fail
  refine H2.out.mono ?_
  rintro e w2 ⟨B, d, rfl, hs, hb⟩
  have HQ := Lib.hid (show RetGet (readS (os.map MOne.k) key t) w (.returned (.tuple #[.slice B ((readS (os.map MOne.k) key t).getD []).length d, .bool (readS (os.map MOne.k) key t).isSome])) w2 from ⟨B, d, rfl, hs, hb⟩)
  clear hs hb H2
  go_wp2_with fail
  refine bodyPost_ret (v := .tuple #[.slice B ((readS (os.map MOne.k) key t).getD []).length d, .bool (readS (os.map MOne.k) key t).isSome]) (by simp [results, Try.results67, go_sem]) rfl ?_
  exact HQ.out
set_option maxRecDepth 100000 in
set_option maxHeartbeats 4000000 in
theorem refLatest_any (p : Nat) (S : Nat → Prop) (L : LimS) (m r v : Int) (time : Nat) (A : Option Addr) (c : Nat) (os : List MOne) (key : KeyS) (w : World) (h : RefM w p S L m r v time A c os) :
    Calls Try.prog 68 #[.pointer (some ⟨p, 0, none⟩), .string (bs key)] w fun e w' => e = .returned (.int .u64 (lastH (chainS (os.map MOne.k) key) : Nat)) ∧ Below w.heap.size w w' := by
  have HC := Lib.hid (refChain_any p S L m r v time A c os key w h)
  have HG : Hid (∀ W, Below w.heap.size w W → Calls Try.prog 97 #[chainVal (chainM os key)] W fun e w' => e = .returned (.int .u64 (lastH (chainS (os.map MOne.k) key) : Nat)) ∧ Below w.heap.size w w') := Lib.hid fun W hb => by
    rw [chainM_K]
    cases hc : chainM os key with
    | none => exact (refLast_any [] none 0 W (by simp) (RowH.nil_ _ _ _)).mono fun _ _ q => ⟨q.1, hb.trans (q.2.mono hb.size)⟩
    | some x =>
      obtain ⟨h1, h2⟩ := okRow (h.below hb).each x hc
      have h3 := refLast_any (x.ms.map MV.v) x.A x.c W (by rw [List.length_map]; exact h1) h2
      rw [List.length_map] at h3
      exact h3.mono fun _ _ q => ⟨q.1, hb.trans (q.2.mono hb.size)⟩
  clear h
  go_enter Try.func68, Try.ntmps68
  go_wp2_with fail
  refine HC.out.mono ?_
  rintro e w1 ⟨rfl, hb1⟩
  have H2 := Lib.hid (HG.out w1 hb1)
  clear hb1 HG HC
  go_wp2_with fail
  refine H2.out.mono ?_
  rintro e w2 ⟨rfl, hb⟩
  have HQ := Lib.hid hb
  clear hb H2
  go_wp2_with fail
  go_ret
  exact ⟨rfl, HQ.out⟩
end Go.Proofs.Ytooegjdppeiccaa
