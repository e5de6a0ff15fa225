import Derived.Test.YtooegjdppeiccaaZC18
import Derived.Deep.LoopGhost
import Derived.StillTail
import Derived.Deep.Quiet
/-
  Stores, the document's own answers: Check, Keys.
-/
namespace Go.Proofs.Ytooegjdppeiccaa
open Go.RowKit

set_option maxRecDepth 100000 in
set_option maxHeartbeats 4000000 in
theorem refCheck_any (l : List Wr) (lo hi : Nat) (A : Option Addr) (c : Nat) (w : World) (hl : l.length ≤ 9223372036854775807) (hr : RowW w lo hi A l) (hhi : hi ≤ w.heap.size) :
    Calls Try.prog 22 #[.slice A l.length c] w fun r w' => r = .returned (.int .i64 (checkS [] l)) ∧ Below w.heap.size w w' := by
  have HR := Lib.hid hr
  have hleq := string_leqJ
  clear hr
  go_enter Try.func22, Try.ntmps22
  go_wp2
  go_loopg [3, 8] l.length (fun q v i wr => ∃ (j : Nat) (last : KeyS), j + q = l.length ∧ i = .int .i64 j ∧ v = .string (bs last) ∧ checkS [] l = checkS last (l.drop j) ∧ Below w.heap.size w wr)
  case atStart => exact ⟨0, [], by omega, rfl, rfl, rfl, Below.refl _ _⟩
  case round =>
    obtain ⟨j, last, hk, rfl, rfl, hall, hb⟩ := hrel
    have HK := Lib.hid hk
    have HA := Lib.hid hall
    have HB := Lib.hid hb
    clear hall hb hk
    by_cases hj : j < l.length
    · have hlt : decide ((j : Int) < (l.length : Int)) = true := by simpa using hj
      have hlt2 : decide (j < l.length) = true := by simpa using hj
      obtain ⟨b, o, A', c', rfl, _, c0, c1, c2, hs, hkl⟩ := (HR.out.below HB.out hhi (Nat.le_refl _)).at_ hj
      have HD := Lib.hid (HA.out.trans (by rw [List.drop_eq_getElem_cons hj]))
      have hdl : l[j].dat.length ≤ maxLen := Nat.le_trans hs.1 hs.2.1
      clear hs
      generalize l[j] = x at *
      obtain ⟨key, gone, dat⟩ := x
      simp only at c0 c1 c2 hdl hkl HD
      rw [← bs_size] at hkl
      have HBN := Lib.hid (HB.out.alloc HB.out.size (.cells #[.string (bs key), .bool gone, .slice A' dat.length c'] 84))
      have HC : Hid (checkS last (⟨key, gone, dat⟩ :: l.drop (j + 1)) = if 256 < key.length ∨ 4096 < dat.length then 3 else if blt last key = false ∨ okVer ⟨0, gone, dat⟩ = false then 1 else checkS key (l.drop (j + 1))) := Lib.hid rfl
      unfold maxLen at hdl hkl
      by_cases h1 : 256 < (bs key).size
      · have d1 : decide (256 < ((bs key).size : Int)) = true := by rw [decide_eq_true_iff]; omega
        have d2 : decide (256 < (bs key).size) = true := by rw [decide_eq_true_iff]; omega
        have HF := Lib.hid (HD.out.trans (HC.out.trans (if_pos (.inl (by rw [← bs_size]; exact h1)))))
        clear h1
        go_wp2
        go_ret
        rw [HF.out]
        exact ⟨rfl, HBN.out⟩
      · have d1 : decide (256 < ((bs key).size : Int)) = false := by rw [decide_eq_false_iff_not]; omega
        have d2 : decide (256 < (bs key).size) = false := by rw [decide_eq_false_iff_not]; omega
        by_cases h2 : 4096 < dat.length
        · have d3 : decide (4096 < (dat.length : Int)) = true := by rw [decide_eq_true_iff]; omega
          have d4 : decide (4096 < dat.length) = true := by rw [decide_eq_true_iff]; omega
          have HF := Lib.hid (HD.out.trans (HC.out.trans (if_pos (.inr h2))))
          clear h1 h2
          go_wp2
          go_ret
          rw [HF.out]
          exact ⟨rfl, HBN.out⟩
        · have d3 : decide (4096 < (dat.length : Int)) = false := by rw [decide_eq_false_iff_not]; omega
          have d4 : decide (4096 < dat.length) = false := by rw [decide_eq_false_iff_not]; omega
          have hn1 : ¬ (256 < key.length ∨ 4096 < dat.length) := by rw [bs_size] at h1; omega
          have HD2 := Lib.hid (HD.out.trans (HC.out.trans (if_neg hn1)))
          clear hn1 h1 h2
          by_cases h3 : blt last key = true
          · have q1 : Op.bytesLess (bs key).toList (bs last).toList = false := by rw [bs_less]; exact blt_asymm h3
            have q2 : ((bs key).toList == (bs last).toList) = false := by rw [bs_same]; exact beq_neB fun e => blt_ne h3 e.symm
            cases gone
            · have HF := Lib.hid (HD2.out.trans (if_neg (by rw [h3, show okVer ⟨0, false, dat⟩ = true from rfl]; simp)))
              clear h3
              go_wp2
              go_roundg (gk - 1)
              case measure => have := HK.out; omega
              case rel => exact ⟨j + 1, key, by have := HK.out; omega, by go_num, rfl, HF.out, HBN.out⟩
            · by_cases h4 : 0 < dat.length
              · have d5 : decide (0 < (dat.length : Int)) = true := by rw [decide_eq_true_iff]; omega
                have d6 : decide (0 < dat.length) = true := by rw [decide_eq_true_iff]; omega
                have HF := Lib.hid (HD2.out.trans (if_pos (.inr (show (!(true && decide (0 < dat.length))) = false by rw [d6]; rfl))))
                clear h3 h4
                go_wp2
                go_ret
                rw [HF.out]
                exact ⟨rfl, HBN.out⟩
              · have d5 : decide (0 < (dat.length : Int)) = false := by rw [decide_eq_false_iff_not]; omega
                have d6 : decide (0 < dat.length) = false := by rw [decide_eq_false_iff_not]; omega
                have HF := Lib.hid (HD2.out.trans (if_neg (by
                  rw [h3, show okVer ⟨0, true, dat⟩ = true from (show (!(true && decide (0 < dat.length))) = true by rw [d6]; rfl)]
                  simp)))
                clear h3 h4
                go_wp2
                go_roundg (gk - 1)
                case measure => have := HK.out; omega
                case rel => exact ⟨j + 1, key, by have := HK.out; omega, by go_num, rfl, HF.out, HBN.out⟩
          · have h3f : blt last key = false := by simpa using h3
            have q1 : (Op.bytesLess (bs key).toList (bs last).toList || (bs key).toList == (bs last).toList) = true := by
              rw [bs_less, bs_same]
              rcases blt_tri last key with g | g | g
              · exact absurd g h3
              · rw [g, beq_self_eq_true, Bool.or_true]
              · rw [g, Bool.true_or]
            have HF := Lib.hid (HD2.out.trans (if_pos (.inl h3f)))
            clear h3 h3f
            go_wp2
            go_ret
            rw [HF.out]
            exact ⟨rfl, HBN.out⟩
    · have hj' : j = l.length := by have := HK.out; omega
      have hlt : decide ((j : Int) < (l.length : Int)) = false := by simpa using hj
      have HF := Lib.hid (show checkS [] l = 0 by rw [HA.out, hj', List.drop_length]; rfl)
      clear hj'
      go_wp2
      go_ret
      rw [HF.out]
      exact ⟨rfl, HB.out⟩

theorem kInfoR : InfoG Try.prog 9 1 16 := InfoG.of (by kernel_rfl)
set_option maxRecDepth 100000 in
set_option maxHeartbeats 4000000 in
theorem refKeys_any (p : Nat) (S : Nat → Prop) (L : LimS) (m r v : Int) (time : Nat) (A : Option Addr) (c : Nat) (os : List MOne) (w : World) (hn : os.length ≤ 2097152) (h : RefM w p S L m r v time A c os) :
    Calls Try.prog 25 #[.pointer (some ⟨p, 0, none⟩)] w fun e w' => ∃ A c, e = .returned (.slice A os.length c) ∧ os.length ≤ c ∧ c ≤ maxLen ∧ (A = none → c = 0) ∧ RowG kCells w' w.heap.size w'.heap.size A (os.map MOne.key) ∧ Below w.heap.size w w' := by
  have HR := Lib.hid (h.row.rowG oneF)
  have c8 := cell_of_row w p 8 _ _ _ h.box
  have c0 := cell_of_row w p 0 _ _ _ h.box
  clear h
  go_enter Try.func25, Try.ntmps25
  go_wp2
  go_loopg [3, 11] os.length (fun q vo i wr => ∃ j : Nat, j + q = os.length ∧ i = .int .i64 j ∧ OwnG 9 1 kCells wr w.heap.size vo ((os.take j).map MOne.key) ∧ Below w.heap.size w wr)
  case atStart => exact ⟨0, by omega, rfl, OwnG.none_ _ _ _ _ _, Below.refl _ _⟩
  case round =>
    obtain ⟨j, hk, rfl, ho, hb⟩ := hrel
    have HK := Lib.hid hk
    have HO := Lib.hid ho
    have HB := Lib.hid hb
    clear hk ho hb c8 c0
    by_cases hj : j < os.length
    · have hlt : decide ((j : Int) < (os.length : Int)) = true := by simpa using hj
      have hlt2 : decide (j < os.length) = true := by simpa using hj
      obtain ⟨b, o, rfl, _, hbh, hcell⟩ := (HR.out.below HB.out (Nat.le_refl _)).at_ oneF hj
      have d0 := hcell 0 _ rfl
      have d1 := hcell 1 _ rfl
      simp only [Nat.add_zero] at d0
      have HTk := Lib.hid (show (os.take (j + 1)).map MOne.key = (os.take j).map MOne.key ++ [(os[j]'hj).key] from by rw [List.take_succ_eq_append_getElem hj, List.map_append]; rfl)
      have HLn := Lib.hid (show ((os.take j).map MOne.key).length ≤ 2097152 by rw [List.length_map, List.length_take]; omega)
      have HSZ := Lib.hid HB.out.size
      clear hcell hbh
      generalize os[j] = x at *
      obtain ⟨xk, xA, xc, xm⟩ := x
      simp only at d0 d1 HTk
      go_wp2_with (at_builtin; refine append_row _ rfl _ _ 53 9 16 kF kInfoR Try.underlying53 rfl w.heap.size _ ((os.take j).map MOne.key) rfl ((HO.out.allocs _).allocs _) (wr.heap.size + 1) (wr.heap.size + 1 + 1) (some ⟨wr.heap.size + 1, 0, none⟩) 1 1 [xk] rfl rfl (fun e => by cases e) (RowG.one (cs := kCells) (heap_new2 wr _ _)) (by have := HLn.out; simp only [List.length_singleton]; unfold maxLen; omega) (by have := HLn.out; simp only [List.length_singleton]; omega) (by have := HSZ.out; simp; omega) ?_; intro v1 w5 ho5 hg5; have HO5 := Lib.hid ho5; have HB5 := Lib.hid (((HB.out.alloc HSZ.out (.cells #[.string (bs xk), .slice xA xm.length xc] 98)).alloc (by have := HSZ.out; simp; omega) (.cells #[.string (bs xk)] 9)).grown hg5 (by have := HSZ.out; simp; omega) (fun k hk => (HO.out.lt k hk).1)); clear ho5 hg5)
      go_roundg (gk - 1)
      case measure => have := HK.out; omega
      case rel => exact ⟨j + 1, by have := HK.out; omega, by go_num, by rw [HTk.out]; exact HO5.out, HB5.out⟩
    · have hj' : j = os.length := by have := HK.out; omega
      have hlt : decide ((j : Int) < (os.length : Int)) = false := by simpa using hj
      obtain ⟨A9, c9, rfl, k1, k2, k3, k4⟩ := HO.out.form
      have hml : ((os.take j).map MOne.key).length = os.length := by rw [hj', List.take_length, List.length_map]
      have HQ := Lib.hid (And.intro (show os.length ≤ c9 by rw [← hml]; exact k1) (And.intro k2 (And.intro k3 (show RowG kCells wr w.heap.size wr.heap.size A9 (os.map MOne.key) by rw [hj', List.take_length] at k4; exact k4))))
      rw [hml]
      clear k1 k2 k3 k4 hml hj'
      go_wp2
      go_ret
      exact ⟨A9, c9, rfl, HQ.out.1, HQ.out.2.1, HQ.out.2.2.1, HQ.out.2.2.2, HB.out⟩
end Go.Proofs.Ytooegjdppeiccaa

/-
  A region that draws its order, its head quiet in a class of worlds, its tail in one forced order.
-/
namespace Go.Proofs.Ytooegjdppeiccaa
open Go

section
variable {P : Program} {ops : Array Oper} {md : Region.Mode} {C : World → Prop}

/-- Whatever order the head takes: then L. -/
def headQ (P : Program) (md : Region.Mode) (ops : Array Oper) (C : World → Prop) (L : Array Bool → Act → Prop) : Nat → Array Bool → Act → Prop
  | 0, listed, a => L listed a
  | f + 1, listed, a => Region.ready md ops listed ≠ [] ∧ ∀ i ∈ Region.ready md ops listed, qOp P ops C i (headQ P md ops C L f (listed.setIfInBounds i true)) a

theorem any_of_head {g : Nat} {L : Array Bool → Act → Prop} {Q : Exit → Act → World → Prop} (hL : ∀ listed a w, C w → L listed a → wpAny P md ops Q g listed a w) (f : Nat) :
    ∀ (listed : Array Bool) (a : Act) (w : World), C w → headQ P md ops C L f listed a → wpAny P md ops Q (f + g) listed a w := by
  induction f with
  | zero => intro listed a w hw h; rw [Nat.zero_add]; exact hL _ _ _ hw h
  | succ f ih =>
    intro listed a w hw h
    rw [show f + 1 + g = (f + g) + 1 by omega]
    exact ⟨fun e => absurd e h.1, fun i hi => wpOp_of_qOp hw (fun a' w' hw' hh => ih _ a' w' hw' hh) (h.2 i hi)⟩

theorem head_first {n i : Nat} {oi : Oper} {v : Value} {L : Array Bool → Act → Prop} (hoi : ops[i]? = some oi) (hsel : ∀ (j : Nat) (o : Oper) cs b, ops[j]? = some o → o.op ≠ .select cs b)
    (hs : Region.sinkB md ops n = true) (hc : Region.chainB md ops n = true) (hn : n < ops.size) (hin : i < n) (hdone : ∀ listed a, L listed a → ∀ j ∈ Region.ready md ops listed, n ≤ j) (f : Nat) :
    ∀ (listed : Array Bool) (a : Act), HeadInv md ops n listed →
      (∀ j oj, ops[j]? = some oj → j ≠ i → listed.getD j true = false → (∀ e ∈ oj.after, Region.binds md e = true → e.on ≠ i) → oi.apart ops oj = true) →
      i ∈ Region.ready md ops listed → YieldsIn P ops C oi v a → headQ P md ops C L f (listed.setIfInBounds i true) (a.put oi.dst v) → headQ P md ops C L (f + 1) listed a := by
  induction f with
  | zero =>
    intro listed a inv hfree hr hy H
    refine ⟨fun e => (by rw [e] at hr; cases hr), fun j hj => ?_⟩
    by_cases e : j = i
    · subst e; exact hy.qOp hoi H
    · have h1 := hdone _ _ H j (ready_mono hj e)
      exact absurd hj (tail_waits hs hc hn inv _ i rfl hin (mem_ready.1 hr).1 j h1)
  | succ f ih =>
    intro listed a inv hfree hr hy H
    refine ⟨fun e => (by rw [e] at hr; cases hr), fun j hj => ?_⟩
    by_cases e : j = i
    · subst e; exact hy.qOp hoi H
    · have hu := (mem_ready.1 hr).1
      have hjn : j < n := by
        by_cases h : j < n
        · exact h
        · exact absurd hj (tail_waits hs hc hn inv _ i rfl hin hu j (by omega))
      obtain ⟨hjun, oj, hoj, hall⟩ := mem_ready.1 hj
      have hnot : ∀ x ∈ oj.after, Region.binds md x = true → x.on ≠ i := fun x hx hb heq => by
        have h1 := hall x hx hb
        rw [heq, getD_both hu] at h1
        cases h1
      have h2 := qOp_put hoj (hfree j oj hoj e hjun hnot) (fun cs b => hsel i oi cs b hoi) (fun cs b => hsel j oj cs b hoj) hy (H.2 j (ready_mono hj e))
      refine qOp_mono (fun a' h3 => ih _ a' (inv.set hj hjn) (fun k ok hk hki hun hno => hfree k ok hk hki ?_ hno) (ready_mono hr (Ne.symm e)) h3.1 ?_) h2
      · by_cases hjk : j = k
        · subst hjk; exact hjun
        · rwa [getD_set_ne true hjk] at hun
      · rw [Array.setIfInBounds_comm _ _ e]
        exact h3.2

theorem head_lex {n g : Nat} {Lq : Act → Prop} (hsel : Region.noSelect ops = true) (hs : Region.sinkB md ops n = true) (hc : Region.chainB md ops n = true) (hn : n < ops.size) (l : List Oper) :
    ∀ (k : Nat) (listed : Array Bool) (a : Act), (∀ j, j < l.length → l[j]? = ops[k + j]?) → k + l.length = n → HeadInv md ops n listed → Region.lexHead md ops g l.length k listed = true → wpQuiet P ops C Lq l a →
      headQ P md ops C (fun listed' a' => Region.seqB md ops g n listed' = true ∧ Lq a') l.length listed a := by
  induction l with
  | nil =>
    intro k listed a _ hk _ hB h
    have e : k = n := by simpa using hk
    subst e
    exact ⟨by simpa [Region.lexHead] using hB, h⟩
  | cons o l ih =>
    intro k listed a hl hk inv hB h
    have h0 : ops[k]? = some o := by simpa using (hl 0 (by simp)).symm
    simp only [List.length_cons, Region.lexHead, Bool.and_eq_true] at hB hk
    have hkn : k < n := by omega
    have hr : k ∈ Region.ready md ops listed := by simpa using hB.1.1
    have hq : qOp P ops C k (wpQuiet P ops C Lq l) a := by unfold qOp; simp only [h0]; exact h
    obtain ⟨v, hy, hK⟩ := yieldsIn_of_qOp h0 hq
    exact head_first h0 (Region.noSelect_spec hsel) hs hc hn hkn (fun _ _ hL => seqB_ready hL.1) l.length listed a inv (Region.free_spec h0 hB.1.2) hr hy
      (ih (k + 1) _ _ (fun j hj => by have := hl (j + 1) (by simp; omega); simpa [Nat.add_assoc, Nat.add_comm 1 j] using this) (by omega) (inv.set hr hkn) hB.2 hK)

/-- The head quiet in a class, walked once in the order of the text; the tail in any world of the class. -/
theorem wp_region_class_tail {id : Nat} {Q : Exit → Act → World → Prop} {a : Act} {w : World} {l : List Oper} (n : Nat) (hm : P.follows .mixedOrders = true) (hB : Region.lexTailB .any l.toArray n = true) (hC : C w.drew)
    (h : wpQuiet P l.toArray C (fun a' => ∀ w', C w' → wpList P l.toArray Q (l.drop n) a' w') (l.take n) a) : (Code.region id l.toArray true).wp P Q a w := by
  simp only [Region.lexTailB, Bool.and_eq_true, decide_eq_true_eq] at hB
  obtain ⟨⟨⟨⟨hsel, hn⟩, hs⟩, hc⟩, hlex⟩ := hB
  have hn' : n < l.length := by simpa using hn
  have htl : (l.take n).length = n := by simp; omega
  have hdl : (l.drop n).length = l.toArray.size - n := by simp
  have inv : HeadInv .any l.toArray n (Array.replicate l.toArray.size false) :=
    ⟨by simp, fun j oj _ hl => (by rw [getD_replicate_false] at hl; cases hl), fun t _ ht => getD_in (by simpa using ht) (getD_replicate_false _ _)⟩
  have H := head_lex (C := C) (P := P) (g := l.toArray.size - n) hsel hs hc hn (l.take n) 0 _ a (fun j hj => by
    have hj' : j < n := by rw [htl] at hj; exact hj
    simp [hj']) (by simpa using htl) inv (by rw [htl]; exact hlex) h
  have H2 := any_of_head (Q := Q) (g := l.toArray.size - n) (fun listed a' w' hw' hL => by
    have := wpAny_of_seq (md := .any) (Q' := Q) (l.drop n) n listed a' w' (fun j => by simp [List.getElem?_drop]) (by rw [hdl]; exact hL.1) (hL.2 w' hw')
    rwa [hdl] at this) _ _ _ _ hC H
  rw [htl, show n + (l.toArray.size - n) = l.toArray.size by omega] at H2
  exact wp_region_any hm H2
end
end Go.Proofs.Ytooegjdppeiccaa
