import Derived.Test.YtfdiidhilonkoaaZC41
import Derived.Deep.RegionLaw
set_option linter.unusedVariables false
/-
  Package span, as it landed: a list of the call's own laid in the order in which its stretches begin, by slices.SortFunc off the shelf; laid.
-/
namespace Go.Proofs.Ytfdiidhilonkoaa
open Go.RowKit

instance : Inhabited Sp := ⟨sp0⟩
def cfI (x y : Sp) : Int := Lib.compareBytes x.lo y.lo
theorem cmp_less : ∀ a b : List UInt8, decide (Lib.compareBytes a b < 0) = blt a b
  | [], [] => rfl
  | [], _ :: _ => rfl
  | a :: x, [] => rfl
  | a :: x, b :: y => by
    unfold Lib.compareBytes
    by_cases h : a < b
    · rw [if_pos h, blt_lt h]
      rfl
    · rw [if_neg h]
      by_cases g : b < a
      · rw [if_pos g, blt_gt g]
        rfl
      · rw [if_neg g, cmp_less x y]
        have e : a = b := by
          rcases Nat.lt_trichotomy a.toNat b.toNat with q | q | q
          · exact absurd (UInt8.lt_iff_toNat_lt.2 q) h
          · exact UInt8.toNat.inj q
          · exact absurd (UInt8.lt_iff_toNat_lt.2 q) g
        subst e
        rw [blt_eq]
theorem ltI (x y : Sp) : ltOf cfI x y = blt x.lo y.lo := by
  unfold ltOf cfI
  exact cmp_less _ _
theorem swoI : Go.Sort.SWO (ltOf cfI) where
  irrefl x := by rw [ltI]; exact blt_self _
  trans x y z h1 h2 := by rw [ltI] at *; exact blt_trans h1 h2
  ntrans x y z h1 h2 := by
    rw [ltI] at *
    cases h : blt x.lo z.lo
    · rfl
    · have a1 : blo y.lo x.lo = true := by simp [blo, h1]
      have a2 : blo z.lo y.lo = true := by simp [blo, h2]
      have := lt_blo h (blo_trans a2 a1)
      rw [blt_self] at this
      cases this
theorem flatK_list (l : List Sp) : Go.Sort.flatK spCells 2 l.toArray = (flatG spCells l).toArray := by
  refine Go.Sort.ext_get! ?_ fun t ht => ?_
  · rw [Go.Sort.size_flatK, List.size_toArray, List.size_toArray, spF.flat_len]
  · have ht' : t < l.toArray.size * 2 := by simpa using ht
    have hq : t / 2 < l.length := by simp at ht'; omega
    rw [Go.Sort.get_flatK _ _ _ _ ht']
    have e := spF.flat_at l (t / 2) hq (t % 2) (by omega)
    rw [show t / 2 * 2 + t % 2 = t by omega] at e
    have hl : t < (flatG spCells l).length := by rw [spF.flat_len]; simpa using ht'
    have h2 : t % 2 < (spCells (l[t / 2]'hq)).length := by simp only [spCells, List.length_cons, List.length_nil]; omega
    rw [List.getElem?_eq_getElem hl, List.getElem?_eq_getElem h2] at e
    injection e with e
    have e1 : l.toArray[t / 2]! = l[t / 2]'hq := by simp [hq]
    rw [e1, getElem!_pos (flatG spCells l).toArray t (by simpa using hl), List.getElem_toArray, e, List.getElem!_eq_getElem?_getD, List.getElem?_eq_getElem h2]
    rfl
section
variable {w : World} {lo b cap : Nat} {l : List Sp}
theorem BlkI.holds (h : BlkI w lo b cap l) : Go.Sort.HoldsK spCells 2 w b 0 l.toArray := by
  obtain ⟨cur, h2, _, hc⟩ := h.cur
  intro j hj
  rw [flatK_list] at hj ⊢
  have hj' : j < (flatG spCells l).length := by simpa using hj
  refine ⟨?_, h.frozen _⟩
  rw [cell_of_row w b _ _ _ _ h2, Nat.zero_add, getElem!_pos _ j hj, List.getElem_toArray]
  exact hc j _ (List.getElem?_eq_getElem hj')
theorem sort_heap {w : World} {b : Nat} {cur : Array Value} {e : TypeId} (h : w.heap[b]? = some (.cells cur e (0, 0))) (m : Nat) (d : Array Sp) (os : Array Obj) :
    (sortWorldK spCells 2 w b 0 m d os).heap[b]? = some (.cells (Go.Sort.putCells id 0 (Go.Sort.flatK spCells 2 d) cur) e (0, 0)) := by
  have hlt := lt_of_heap h
  unfold sortWorldK Go.Sort.grow Go.Sort.putRowK Go.Sort.putRow Go.Sort.mapBlock
  simp only
  rw [Array.getElem?_append_left (by simpa [Go.Sort.ahead] using hlt), Array.getElem?_modify, if_pos rfl]
  rw [show (Go.Sort.ahead w m).heap = w.heap from rfl, h]
  rfl
theorem BlkI.sorted (h : BlkI w lo b cap l) (m : Nat) (d : Array Sp) (os : Array Obj) (hd : d.size = l.length) : BlkI (sortWorldK spCells 2 w b 0 m d os) lo b cap d.toList := by
  obtain ⟨cur, h1, h2, h3, h4, h5, h6⟩ := h
  have hl : d.toList.length = l.length := by rw [Array.length_toList, hd]
  refine ⟨_, h1, sort_heap h2 m d os, by rw [hl]; exact h3, h4, by simp [Go.Sort.putCells, h5], ?_⟩
  have e : Go.Sort.flatK spCells 2 d = (flatG spCells d.toList).toArray := by rw [← flatK_list]
  rw [e, hl]
  apply List.ext_getElem?
  intro i
  rw [List.getElem?_take]
  by_cases hi : i < l.length * 2
  · rw [if_pos hi, Array.getElem?_toList]
    have hi2 : i < cur.size := by omega
    have hi3 : i < (flatG spCells d.toList).length := by rw [spF.flat_len, hl]; exact hi
    unfold Go.Sort.putCells
    rw [Array.getElem?_mapIdx, Array.getElem?_eq_getElem hi2, Option.map_some, if_pos ⟨Nat.zero_le _, by simp only [List.size_toArray]; omega⟩, Nat.sub_zero, getElem!_pos _ i (by simpa using hi3), List.getElem_toArray, List.getElem?_eq_getElem hi3]
    rfl
  · rw [if_neg hi, List.getElem?_eq_none (by rw [spF.flat_len, hl]; omega)]
theorem sort_below {w : World} {lo b : Nat} (h1 : lo ≤ b) (h2 : lo ≤ w.heap.size) (m : Nat) (d : Array Sp) (os : Array Obj) : Below lo w (sortWorldK spCells 2 w b 0 m d os) := by
  refine ⟨rfl, rfl, rfl, ?_, fun k hk => ?_⟩
  · unfold sortWorldK Go.Sort.grow Go.Sort.putRowK Go.Sort.putRow Go.Sort.mapBlock Go.Sort.ahead
    simp
  · unfold sortWorldK Go.Sort.grow Go.Sort.putRowK Go.Sort.putRow Go.Sort.mapBlock Go.Sort.ahead
    simp only
    rw [Array.getElem?_append_left (by simp; omega), Array.getElem?_modify, if_neg (by omega)]
end
theorem sorted_rises {d : Array Sp} (h : Go.Sort.SortedIn (ltOf cfI) 0 d.size d) : risesS d.toList := by
  unfold risesS
  rw [List.pairwise_iff_getElem]
  intro i j hi hj hij
  have hi' : i < d.size := by simpa using hi
  have hj' : j < d.size := by simpa using hj
  have e := h i j (Nat.zero_le _) hij hj'
  rw [ltI, getElem!_pos d i hi', getElem!_pos d j hj'] at e
  rw [Array.getElem_toList, Array.getElem_toList]
  simp [blo, e]
theorem perm_mem {d d' : Array Sp} (h : Go.Sort.PermIn 0 d.size d d') (x : Sp) : x ∈ d'.toList ↔ x ∈ d.toList := by
  obtain ⟨h1, _, h3⟩ := h
  have e := h3.mem_iff (a := x)
  have a1 : d'.extract 0 d.size = d' := by rw [← h1]; exact Array.extract_size
  have a2 : d.extract 0 d.size = d := Array.extract_size
  rwa [a1, a2] at e
theorem laid1_any : PredAll 58 #[] fun x => !rightS x := by
  intro W x
  obtain ⟨xl, xh⟩ := x
  have HC := Lib.hid (dRight_anyI ⟨xl, xh⟩)
  have HB := Lib.hid ((Below.refl W.heap.size W).alloc (Nat.le_refl _) (.cells #[.string (bs xl), .string (bs xh)] 52))
  unfold spVal at HC ⊢
  simp only at HC ⊢
  generalize rightS ⟨xl, xh⟩ = q at *
  show Calls Try.prog 58 #[.agg #[.string (bs xl), .string (bs xh)]] W _
  go_enter Try.func58, Try.ntmps58
  go_wp2_with fail
  refine (HC.out _).mono ?_
  rintro r w2 ⟨rfl, hb2⟩
  have HB2 := Lib.hid (HB.out.trans (hb2.mono HB.out.size))
  clear hb2
  go_wp2_with fail
  go_ret
  exact ⟨rfl, HB2.out⟩
theorem laid2_any (x y : Sp) (W : World) : Calls Try.prog 60 #[.agg #[.string (bs x.lo), .string (bs x.hi)], .agg #[.string (bs y.lo), .string (bs y.hi)]] W fun e w' => e = .returned (.int .i64 (cfI x y)) ∧ ∃ q os', w' = Go.Sort.grow (W.drewN q) os' := by
  have hcon := fun W' => Any.strings_Compare Try.lays106 (bs x.lo) (bs y.lo) W'
  change ∀ W', Calls Try.prog 61 _ _ _ at hcon
  have e : Lib.compareBytes (bs x.lo).data.toList (bs y.lo).data.toList = cfI x y := rfl
  rw [e] at hcon
  generalize cfI x y = r at hcon ⊢
  clear e
  go_enter Try.func60, Try.ntmps60
  go_wp2_with (go_at_call 61; refine (hcon _).mono ?_; rintro e w' ⟨rfl, rfl⟩)
  go_ret
  exact ⟨rfl, 0, _, by rw [Go.Sort.alloc_eq_grow, Go.Sort.alloc_eq_grow, Go.Sort.grow_grow]; rfl⟩
set_option maxRecDepth 100000 in
set_option maxHeartbeats 2000000 in
theorem dLaid_any (l : List Sp) (lo b cap : Nat) (w : World) (hl : l.length ≤ 1000000) (hb : BlkI w lo b cap l) (hlo : lo ≤ w.heap.size) :
    Calls Try.prog 51 #[.slice (some ⟨b, 0, none⟩) l.length cap] w fun e w' => ∃ m : List Sp, (∀ s, s ∈ m ↔ s ∈ l ∧ rightS s = true) ∧ risesS m ∧ m.length ≤ l.length ∧ e = .returned (.slice (some ⟨b, 0, none⟩) m.length cap) ∧ BlkI w' lo b cap m ∧ Below lo w w' := by
  have eg1 : ∀ args w, (callFunc 58 args).run Try.prog w = .ok (.enter 58 args) w := enters_of Try.func58 (by kernel_rfl) rfl
  have eg2 : ∀ args w, (callFunc 60 args).run Try.prog w = .ok (.enter 60 args) w := enters_of Try.func60 (by kernel_rfl) rfl
  have HD := Lib.hid (dDeleteFunc_any (fun x => !rightS x) 58 #[] eg1 laid1_any l lo b cap w hl hb)
  have hF : ∀ s, s ∈ (l.filter fun x => !!rightS x) ↔ s ∈ l ∧ rightS s = true := fun s => by rw [List.mem_filter, Bool.not_not]
  have hFl : (l.filter fun x => !!rightS x).length ≤ l.length := List.length_filter_le _ _
  generalize (l.filter fun x => !!rightS x) = F at *
  have HF := Lib.hid hF
  have HFl := Lib.hid hFl
  have HLl := Lib.hid hl
  have HLO := Lib.hid hlo
  have HE := Lib.hid eg2
  clear hb hF hFl hl hlo eg1 eg2
  go_enter Try.func51, Try.ntmps51
  go_wp2_with fail
  refine HD.out.mono ?_
  rintro r w1 ⟨rfl, hb1, hw1⟩
  have hcmp : CmpLays Try.prog 60 #[] spCells 2 cfI b 0 F.toArray.size w1 := fun m os dk _ x y => laid2_any x y _
  have hcon := AnyQ.slices_SortFunc Try.sortI 2 Try.isAgg52 Try.sizeOf52 spCells (fun _ => rfl) spF.one cfI swoI 60 #[] b 0 cap F.toArray w1 HE.out hcmp hb1.holds hb1.lt.2 (by have := HFl.out; have := HLl.out; simp; omega)
  change Calls Try.prog 59 #[.slice (some ⟨b, 0, none⟩) F.length cap, _] _ _ at hcon
  have HCon := Lib.hid hcon
  have HB1 := Lib.hid hb1
  have HW1 := Lib.hid hw1
  clear hb1 hw1 hcmp hcon HD
  go_wp2_with fail
  refine HCon.out.mono ?_
  rintro e w2 ⟨rfl, d, n, os, hp, hs, rfl⟩
  have hd : d.size = F.length := by rw [hp.1]; simp
  have hm := perm_mem hp
  have hr := sorted_rises (d := d) (by rw [hp.1]; exact hs)
  have HM := Lib.hid (show ∀ s, s ∈ d.toList ↔ s ∈ l ∧ rightS s = true from fun s => by rw [hm s, ← HF.out s])
  have HR := Lib.hid hr
  have HS := Lib.hid (HB1.out.sorted n d os hd)
  have HW := Lib.hid (HW1.out.trans (sort_below HB1.out.lt.1 (Nat.le_trans HLO.out HW1.out.size) n d os))
  have HDl := Lib.hid (show d.toList.length = F.length by rw [Array.length_toList, hd])
  generalize sortWorldK spCells 2 w1 b 0 n d os = w3 at *
  clear hp hs hd hm hr HCon
  go_wp2_with fail
  go_ret
  exact ⟨d.toList, HM.out, HR.out, by rw [HDl.out]; exact HFl.out, by rw [HDl.out]; rfl, HS.out, HW.out⟩
end Go.Proofs.Ytfdiidhilonkoaa

/-
  Package span, as it landed: slices.Delete of a list of the call's own.
-/
namespace Go.Proofs.Ytfdiidhilonkoaa
open Go.RowKit

theorem setCells_rowI2 (g : Nat) (t : TypeId) : ∀ (vs : List Value) (o : Nat) (w : World) (cur : Array Value), w.heap[g]? = some (.cells cur t (0, 0)) → o + vs.length ≤ cur.size →
    ∃ cur' : Array Value, (w.setCells g o vs).heap[g]? = some (.cells cur' t (0, 0)) ∧ cur'.size = cur.size ∧ (∀ i, i < o → cur'[i]? = cur[i]?) ∧ ∀ q u, vs[q]? = some u → cur'[o + q]? = some u
  | [], o, _, cur, h, _ => ⟨cur, h, rfl, fun _ _ => rfl, fun _ _ h => by cases h⟩
  | v :: vs, o, w, cur, h, hs => by
    have hs' : o + 1 + vs.length ≤ cur.size := by rw [List.length_cons] at hs; omega
    have h1 : (w.setCell ⟨g, o, none⟩ v).heap[g]? = some (.cells (cur.setIfInBounds o v) t (0, 0)) := by
      simp [World.setCell, Array.getElem?_modify, h]
    obtain ⟨cur', k1, k2, k3, k4⟩ := setCells_rowI2 g t vs (o + 1) (w.setCell ⟨g, o, none⟩ v) _ h1 (by rw [Array.size_setIfInBounds]; exact hs')
    refine ⟨cur', k1, by rw [k2, Array.size_setIfInBounds], fun i hi => ?_, fun q u hq => ?_⟩
    · rw [k3 i (by omega), Array.getElem?_setIfInBounds_ne (by omega)]
    · cases q with
      | zero =>
        rw [Nat.add_zero, k3 o (by omega), Array.getElem?_setIfInBounds_self_of_lt (by omega)]
        exact hq
      | succ q =>
        have := k4 q u hq
        rwa [show o + 1 + q = o + (q + 1) by omega] at this
theorem BlkI.splice {w : World} {lo b cap : Nat} {l : List Sp} (h : BlkI w lo b cap l) {i j : Nat} (hij : i ≤ j) (hj : j ≤ l.length) : BlkI (w.setCells b (i * 2) (flatG spCells (l.drop j))) lo b cap (l.take i ++ l.drop j) := by
  have hat := h.take i
  obtain ⟨cur, h1, h2, h3, h4, h5, h6⟩ := h
  have hdl : (flatG spCells (l.drop j)).length = (l.length - j) * 2 := by rw [spF.flat_len, List.length_drop]
  obtain ⟨cur', k1, k2, k3, k4⟩ := setCells_rowI2 b _ (flatG spCells (l.drop j)) (i * 2) w cur h2 (by rw [hdl]; omega)
  have htl : (l.take i).length = i := by rw [List.length_take]; omega
  have e1 : cur.toList.take (i * 2) = flatG spCells (l.take i) := by
    have e := congrArg (List.take (i * 2)) h6
    rw [List.take_take, spF.flat_take, show min (i * 2) (l.length * 2) = i * 2 by omega] at e
    exact e
  refine ⟨cur', h1, k1, by rw [List.length_append, htl, List.length_drop]; omega, h4, by rw [k2, h5], ?_⟩
  rw [flatG_append, ← e1, List.length_append, htl, List.length_drop]
  apply List.ext_getElem?
  intro t
  rw [List.getElem?_take]
  have hcl : i * 2 ≤ cur.toList.length := by rw [Array.length_toList]; omega
  by_cases ht : t < i * 2
  · rw [if_pos (by omega), List.getElem?_append_left (by rw [List.length_take]; omega), List.getElem?_take, if_pos ht, Array.getElem?_toList, Array.getElem?_toList, k3 t ht]
  · rw [List.getElem?_append_right (by rw [List.length_take]; omega), List.length_take, Nat.min_eq_left hcl]
    split
    · next h9 =>
      have hq : t - i * 2 < (flatG spCells (l.drop j)).length := by rw [hdl]; omega
      rw [Array.getElem?_toList, List.getElem?_eq_getElem hq]
      have := k4 (t - i * 2) _ (List.getElem?_eq_getElem hq)
      rwa [show i * 2 + (t - i * 2) = t by omega] at this
    · next h9 => rw [List.getElem?_eq_none (by rw [hdl]; omega)]
set_option maxRecDepth 100000 in
set_option maxHeartbeats 4000000 in
theorem dDelete_any (l : List Sp) (i j lo b cap : Nat) (w : World) (hij : i ≤ j) (hj : j ≤ l.length) (hl : l.length ≤ 1000000) (hb : BlkI w lo b cap l) (hlo : lo ≤ w.heap.size) :
    Calls Try.prog 54 #[.slice (some ⟨b, 0, none⟩) l.length cap, .int .i64 i, .int .i64 j] w fun e w' => e = .returned (.slice (some ⟨b, 0, none⟩) (l.take i ++ l.drop j).length cap) ∧ BlkI w' lo b cap (l.take i ++ l.drop j) ∧ Below lo w w' := by
  have hlc := hb.len.1
  have hcm := hb.len.2
  have a1 : (0 : Int) ≤ (i : Int) := by omega
  have a2 : (i : Int) ≤ (j : Int) := by omega
  have a3 : (j : Int) ≤ (l.length : Int) := by omega
  have a4 : (l.length : Int) ≤ (cap : Int) := by omega
  have HB := Lib.hid hb
  have HLO := Lib.hid hlo
  by_cases he : i = j
  · subst he
    have e1 : ((i : Int) == (i : Int)) = true := beq_self_eq_true _
    have HE := Lib.hid (show l.take i ++ l.drop i = l from List.take_append_drop i l)
    clear hb hlo
    rw [HE.out]
    go_enter Try.func54, Try.ntmps54
    go_wp2
    all_goals
      go_ret
      exact ⟨rfl, HB.out, Below.refl _ _⟩
  · have e1 : ((i : Int) == (j : Int)) = false := by rw [beq_eq_false_iff_ne]; omega
    have e2 : ¬ ((i : Int) = (j : Int)) := by omega
    have hlt : i < j := by omega
    have a5 : i ≤ cap := by omega
    have a6 : ¬ l.length = i := by omega
    obtain ⟨i0, z, hi0, hz0, hzs, hs2, hb2⟩ := infoFull
    have HI := Lib.hid hi0
    have HS2 := Lib.hid hs2
    have hbd : BlkI w.drew lo b cap l := hb
    have hsp := hbd.splice hij hj
    have HSp := Lib.hid hsp
    have HRow := Lib.hid (hbd.row.drop spF j cap hj hlc)
    have HBw := Lib.hid (Below.setCells (flatG spCells (l.drop j)) (i * 2) w w.drew (Below.refl lo w).drew hb.lt.1)
    obtain ⟨cur, g1, g2, _⟩ := hbd.cur
    have HSpare := Lib.hid (fun q (hq : q < (flatG spCells (l.drop j)).length) => (show (w.drew.cell? ⟨b, 0 + i * 2 + q, none⟩).isSome = true ∧ w.drew.frozen? ⟨b, 0 + i * 2 + q, none⟩ = false by
      refine ⟨?_, hbd.frozen _⟩
      rw [spF.flat_len, List.length_drop] at hq
      rw [cell_of_row w.drew b _ _ _ _ g1, Array.getElem?_eq_getElem (by omega)]
      rfl))
    have HLen := Lib.hid (show (l.take i ++ l.drop j).length = i + (l.length - j) by rw [List.length_append, List.length_take, List.length_drop]; omega)
    have HFl := Lib.hid (show (flatG spCells (l.drop j)).length = (l.length - j) * 2 by rw [spF.flat_len, List.length_drop])
    have hdl : (l.drop j).length = l.length - j := List.length_drop
    obtain ⟨N, hN⟩ : ∃ N, l.take i ++ l.drop j = N := ⟨_, rfl⟩
    rw [hN] at HSp HLen ⊢
    clear hb hbd hlo hi0 hz0 hzs hs2 hb2 g1 g2 hsp hN
    generalize hW : w.drew.setCells b (i * 2) (flatG spCells (l.drop j)) = w5 at *
    have HW := Lib.hid hW
    clear hW
    have HDel : ∀ (q : Nat), q = i + (l.length - j) → Hid (∀ ty, (Builtin.clear_ #[27] ty #[.slice (some ⟨b, q * 2, none⟩) (l.length - q) (cap - q)]).run Try.prog w5 = .ok (.tuple #[]) (w5.setCells b (q * 2) (zeroI (l.length - q)))) := fun q hq => Lib.hid fun ty => run_clearI (P := Try.prog) rfl HSp.out ty q (l.length - q) (cap - q) (by omega) (by omega)
    have HFin : ∀ (q : Nat), q = i + (l.length - j) → Hid (BlkI (w5.setCells b (q * 2) (zeroI (l.length - q))) lo b cap N ∧ Below lo w (w5.setCells b (q * 2) (zeroI (l.length - q)))) := fun q hq => Lib.hid ⟨by
      have h := HSp.out.tail q (zeroI (l.length - q))
      rw [List.take_of_length_le (by rw [HLen.out]; omega)] at h
      exact h, Below.setCells _ _ _ _ HBw.out HSp.out.lt.1⟩
    by_cases hcj : cap = j
    · have hdn : l.length - j = 0 := by omega
      have hcz : cap - j = 0 := by omega
      have HD := HDel i (by omega)
      have HFi := HFin i (by omega)
      have HLn := Lib.hid (show N.length = i by rw [HLen.out]; omega)
      subst hcj
      have hlcap : cap = l.length := by omega
      subst hlcap
      have HF0 := Lib.hid (show (flatG spCells (l.drop l.length)).length = 0 * 2 by rw [HFl.out]; omega)
      have HCell := Lib.hid (show ∀ (q : Nat) (u : Value), (flatG spCells (l.drop l.length))[q]? = some u → w.drew.cell? ((⟨b, 0, none⟩ : Addr).add q) = some u from fun q u hu => by
        have h9 := (List.getElem?_eq_some_iff.1 hu).1
        rw [HF0.out] at h9
        omega)
      obtain ⟨w6, hw6⟩ : ∃ y, w5.setCells b (i * 2) (zeroI (l.length - i)) = y := ⟨_, rfl⟩
      rw [hw6] at HD HFi
      have HW2 := Lib.hid (show w.drew.setCells b (i * 2) (flatG spCells []) = w5 by rw [← HW.out, List.drop_length])
      have q1 : (0 : Int) ≤ (i : Int) := by omega
      have q2 : (i : Int) ≤ (l.length : Int) := by omega
      have q3 : i ≤ l.length := by omega
      clear hw6 HDel HFin hij hj hdn hcz hdl
      go_enter Try.func54, Try.ntmps54
      go_wp2
      go_region_law (refine step_append_room rfl _ _ 27 rfl 52 i0 2 Try.underlying27 HI.out HS2.out b 0 i l.length rfl ⟨b, 0, none⟩ 0 0 (flatG spCells (l.drop l.length)) rfl HF0.out HCell.out (spF.flat_one _) (by omega) HSpare.out ?_)
      rw [HW2.out]
      have HDo := HD.out
      go_wp2
      go_ret
      exact ⟨by rw [HLn.out]; rfl, HFi.out.1, HFi.out.2⟩
    · have hR := HRow.out
      rw [if_neg hcj] at hR
      have HCell := Lib.hid (show ∀ (q : Nat) (u : Value), (flatG spCells (l.drop j))[q]? = some u → w.drew.cell? ((⟨b, j * 2, none⟩ : Addr).add q) = some u from fun q u hu => by
        have h9 := (List.getElem?_eq_some_iff.1 hu).1
        rw [spF.flat_len] at h9
        obtain ⟨b', o', e', _, _, hc'⟩ := hR (by omega)
        have e9 : b' = b ∧ o' = j * 2 := by
          simp [addr_add] at e'
          exact ⟨e'.1.symm, e'.2.symm⟩
        obtain ⟨rfl, rfl⟩ := e9
        rw [addr_add]
        exact hc' q u hu)
      clear hR
      go_enter Try.func54, Try.ntmps54
      go_wp2
      go_region_law (refine step_append_room rfl _ _ 27 rfl 52 i0 2 Try.underlying27 HI.out HS2.out b 0 i cap rfl ⟨b, j * 2, none⟩ (l.length - j) (cap - j) (flatG spCells (l.drop j)) rfl HFl.out HCell.out (spF.flat_one _) (by omega) HSpare.out ?_)
      obtain ⟨q, hq⟩ : ∃ q, i + (l.length - j) = q := ⟨_, rfl⟩
      have HD := HDel q hq.symm
      have HFi := HFin q hq.symm
      have HLn := Lib.hid (show N.length = q by rw [HLen.out]; omega)
      have q1 : (0 : Int) ≤ (q : Int) := by omega
      have q2 : (q : Int) ≤ (l.length : Int) := by omega
      have q3 : q ≤ l.length := by omega
      have q4 : ¬ cap = q := by omega
      obtain ⟨w6, hw6⟩ : ∃ y, w5.setCells b (q * 2) (zeroI (l.length - q)) = y := ⟨_, rfl⟩
      rw [hw6] at HD HFi
      rw [HW.out, hq]
      clear hw6 hq HDel HFin
      have HDo := HD.out
      go_wp2
      go_ret
      exact ⟨by rw [HLn.out]; rfl, HFi.out.1, HFi.out.2⟩
end Go.Proofs.Ytfdiidhilonkoaa
