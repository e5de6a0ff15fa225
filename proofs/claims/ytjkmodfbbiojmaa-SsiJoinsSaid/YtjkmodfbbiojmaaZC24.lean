import Derived.Test.YtjkmodfbbiojmaaZC23
/-
  Package span, as it landed: a list of the call's own laid in the order in which its stretches begin, by slices.SortFunc off the shelf; laid.
-/
namespace Go.Proofs.Ytjkmodfbbiojmaa
open Go.RowKit

instance : Inhabited Sp := ⟨sp0⟩
def cfI (x y : Sp) : Int := Lib.compareBytes x.lo y.lo
theorem cmp_less : ∀ a b : List UInt8, decide (Lib.compareBytes a b < 0) = blt a b
  | [], [] => rfl
  | [], _ :: _ => rfl
  | a :: x, [] => rfl
  | a :: x, b :: y => by
    unfold Lib.compareBytes
    by_cases h : a < b
    · rw [if_pos h, blt_lt h]
      rfl
    · rw [if_neg h]
      by_cases g : b < a
      · rw [if_pos g, blt_gt g]
        rfl
      · rw [if_neg g, cmp_less x y]
        have e : a = b := by
          rcases Nat.lt_trichotomy a.toNat b.toNat with q | q | q
          · exact absurd (UInt8.lt_iff_toNat_lt.2 q) h
          · exact UInt8.toNat.inj q
          · exact absurd (UInt8.lt_iff_toNat_lt.2 q) g
        subst e
        rw [blt_eq]
theorem ltI (x y : Sp) : ltOf cfI x y = blt x.lo y.lo := by
  unfold ltOf cfI
  exact cmp_less _ _
theorem swoI : Go.Sort.SWO (ltOf cfI) where
  irrefl x := by rw [ltI]; exact blt_self _
  trans x y z h1 h2 := by rw [ltI] at *; exact blt_trans h1 h2
  ntrans x y z h1 h2 := by
    rw [ltI] at *
    cases h : blt x.lo z.lo
    · rfl
    · have a1 : blo y.lo x.lo = true := by simp [blo, h1]
      have a2 : blo z.lo y.lo = true := by simp [blo, h2]
      have := lt_blo h (blo_trans a2 a1)
      rw [blt_self] at this
      cases this
theorem flatK_list (l : List Sp) : Go.Sort.flatK spCells 2 l.toArray = (flatG spCells l).toArray := by
  refine Go.Sort.ext_get! ?_ fun t ht => ?_
  · rw [Go.Sort.size_flatK, List.size_toArray, List.size_toArray, spF.flat_len]
  · have ht' : t < l.toArray.size * 2 := by simpa using ht
    have hq : t / 2 < l.length := by simp at ht'; omega
    rw [Go.Sort.get_flatK _ _ _ _ ht']
    have e := spF.flat_at l (t / 2) hq (t % 2) (by omega)
    rw [show t / 2 * 2 + t % 2 = t by omega] at e
    have hl : t < (flatG spCells l).length := by rw [spF.flat_len]; simpa using ht'
    have h2 : t % 2 < (spCells (l[t / 2]'hq)).length := by simp only [spCells, List.length_cons, List.length_nil]; omega
    rw [List.getElem?_eq_getElem hl, List.getElem?_eq_getElem h2] at e
    injection e with e
    have e1 : l.toArray[t / 2]! = l[t / 2]'hq := by simp [hq]
    rw [e1, getElem!_pos (flatG spCells l).toArray t (by simpa using hl), List.getElem_toArray, e, List.getElem!_eq_getElem?_getD, List.getElem?_eq_getElem h2]
    rfl
section
variable {w : World} {lo b cap : Nat} {l : List Sp}
theorem BlkI.holds (h : BlkI w lo b cap l) : Go.Sort.HoldsK spCells 2 w b 0 l.toArray := by
  obtain ⟨cur, h2, _, hc⟩ := h.cur
  intro j hj
  rw [flatK_list] at hj ⊢
  have hj' : j < (flatG spCells l).length := by simpa using hj
  refine ⟨?_, h.frozen _⟩
  rw [cell_of_row w b _ _ _ _ h2, Nat.zero_add, getElem!_pos _ j hj, List.getElem_toArray]
  exact hc j _ (List.getElem?_eq_getElem hj')
theorem sort_heap {w : World} {b : Nat} {cur : Array Value} {e : TypeId} (h : w.heap[b]? = some (.cells cur e (0, 0))) (m : Nat) (d : Array Sp) (os : Array Obj) :
    (sortWorldK spCells 2 w b 0 m d os).heap[b]? = some (.cells (Go.Sort.putCells id 0 (Go.Sort.flatK spCells 2 d) cur) e (0, 0)) := by
  have hlt := lt_of_heap h
  unfold sortWorldK Go.Sort.grow Go.Sort.putRowK Go.Sort.putRow Go.Sort.mapBlock
  simp only
  rw [Array.getElem?_append_left (by simpa [Go.Sort.ahead] using hlt), Array.getElem?_modify, if_pos rfl]
  rw [show (Go.Sort.ahead w m).heap = w.heap from rfl, h]
  rfl
theorem BlkI.sorted (h : BlkI w lo b cap l) (m : Nat) (d : Array Sp) (os : Array Obj) (hd : d.size = l.length) : BlkI (sortWorldK spCells 2 w b 0 m d os) lo b cap d.toList := by
  obtain ⟨cur, h1, h2, h3, h4, h5, h6⟩ := h
  have hl : d.toList.length = l.length := by rw [Array.length_toList, hd]
  refine ⟨_, h1, sort_heap h2 m d os, by rw [hl]; exact h3, h4, by simp [Go.Sort.putCells, h5], ?_⟩
  have e : Go.Sort.flatK spCells 2 d = (flatG spCells d.toList).toArray := by rw [← flatK_list]
  rw [e, hl]
  apply List.ext_getElem?
  intro i
  rw [List.getElem?_take]
  by_cases hi : i < l.length * 2
  · rw [if_pos hi, Array.getElem?_toList]
    have hi2 : i < cur.size := by omega
    have hi3 : i < (flatG spCells d.toList).length := by rw [spF.flat_len, hl]; exact hi
    unfold Go.Sort.putCells
    rw [Array.getElem?_mapIdx, Array.getElem?_eq_getElem hi2, Option.map_some, if_pos ⟨Nat.zero_le _, by simp only [List.size_toArray]; omega⟩, Nat.sub_zero, getElem!_pos _ i (by simpa using hi3), List.getElem_toArray, List.getElem?_eq_getElem hi3]
    rfl
  · rw [if_neg hi, List.getElem?_eq_none (by rw [spF.flat_len, hl]; omega)]
theorem sort_below {w : World} {lo b : Nat} (h1 : lo ≤ b) (h2 : lo ≤ w.heap.size) (m : Nat) (d : Array Sp) (os : Array Obj) : Below lo w (sortWorldK spCells 2 w b 0 m d os) := by
  refine ⟨rfl, rfl, rfl, ?_, fun k hk => ?_⟩
  · unfold sortWorldK Go.Sort.grow Go.Sort.putRowK Go.Sort.putRow Go.Sort.mapBlock Go.Sort.ahead
    simp
  · unfold sortWorldK Go.Sort.grow Go.Sort.putRowK Go.Sort.putRow Go.Sort.mapBlock Go.Sort.ahead
    simp only
    rw [Array.getElem?_append_left (by simp; omega), Array.getElem?_modify, if_neg (by omega)]
end
theorem sorted_rises {d : Array Sp} (h : Go.Sort.SortedIn (ltOf cfI) 0 d.size d) : risesS d.toList := by
  unfold risesS
  rw [List.pairwise_iff_getElem]
  intro i j hi hj hij
  have hi' : i < d.size := by simpa using hi
  have hj' : j < d.size := by simpa using hj
  have e := h i j (Nat.zero_le _) hij hj'
  rw [ltI, getElem!_pos d i hi', getElem!_pos d j hj'] at e
  rw [Array.getElem_toList, Array.getElem_toList]
  simp [blo, e]
theorem perm_mem {d d' : Array Sp} (h : Go.Sort.PermIn 0 d.size d d') (x : Sp) : x ∈ d'.toList ↔ x ∈ d.toList := by
  obtain ⟨h1, _, h3⟩ := h
  have e := h3.mem_iff (a := x)
  have a1 : d'.extract 0 d.size = d' := by rw [← h1]; exact Array.extract_size
  have a2 : d.extract 0 d.size = d := Array.extract_size
  rwa [a1, a2] at e
theorem laid1_any : PredAll 67 #[] fun x => !rightS x := by
  intro W x
  obtain ⟨xl, xh⟩ := x
  have HC := Lib.hid (dRight_anyI ⟨xl, xh⟩)
  have HB := Lib.hid ((Below.refl W.heap.size W).alloc (Nat.le_refl _) (.cells #[.string (bs xl), .string (bs xh)] 58))
  unfold spVal at HC ⊢
  simp only at HC ⊢
  generalize rightS ⟨xl, xh⟩ = q at *
  show Calls Try.prog 67 #[.agg #[.string (bs xl), .string (bs xh)]] W _
  go_enter Try.func67, Try.ntmps67
  go_wp2_with fail
  refine (HC.out _).mono ?_
  rintro r w2 ⟨rfl, hb2⟩
  have HB2 := Lib.hid (HB.out.trans (hb2.mono HB.out.size))
  clear hb2
  go_wp2_with fail
  go_ret
  exact ⟨rfl, HB2.out⟩
theorem laid2_any (x y : Sp) (W : World) : Calls Try.prog 69 #[.agg #[.string (bs x.lo), .string (bs x.hi)], .agg #[.string (bs y.lo), .string (bs y.hi)]] W fun e w' => e = .returned (.int .i64 (cfI x y)) ∧ ∃ q os', w' = Go.Sort.grow (W.drewN q) os' := by
  have hcon := fun W' => Any.strings_Compare Try.lays106 (bs x.lo) (bs y.lo) W'
  change ∀ W', Calls Try.prog 70 _ _ _ at hcon
  have e : Lib.compareBytes (bs x.lo).data.toList (bs y.lo).data.toList = cfI x y := rfl
  rw [e] at hcon
  generalize cfI x y = r at hcon ⊢
  clear e
  go_enter Try.func69, Try.ntmps69
  go_wp2_with (go_at_call 70; refine (hcon _).mono ?_; rintro e w' ⟨rfl, rfl⟩)
  go_ret
  exact ⟨rfl, 0, _, by rw [Go.Sort.alloc_eq_grow, Go.Sort.alloc_eq_grow, Go.Sort.grow_grow]; rfl⟩
set_option maxRecDepth 100000 in
set_option maxHeartbeats 2000000 in
theorem dLaid_any (l : List Sp) (lo b cap : Nat) (w : World) (hl : l.length ≤ 1000000) (hb : BlkI w lo b cap l) (hlo : lo ≤ w.heap.size) :
    Calls Try.prog 61 #[.slice (some ⟨b, 0, none⟩) l.length cap] w fun e w' => ∃ m : List Sp, (∀ s, s ∈ m ↔ s ∈ l ∧ rightS s = true) ∧ risesS m ∧ m.length ≤ l.length ∧ e = .returned (.slice (some ⟨b, 0, none⟩) m.length cap) ∧ BlkI w' lo b cap m ∧ Below lo w w' := by
  have eg1 : ∀ args w, (callFunc 67 args).run Try.prog w = .ok (.enter 67 args) w := enters_of Try.func67 (by kernel_rfl) rfl
  have eg2 : ∀ args w, (callFunc 69 args).run Try.prog w = .ok (.enter 69 args) w := enters_of Try.func69 (by kernel_rfl) rfl
  have HD := Lib.hid (dDeleteFunc_any (fun x => !rightS x) 67 #[] eg1 laid1_any l lo b cap w hl hb)
  have hF : ∀ s, s ∈ (l.filter fun x => !!rightS x) ↔ s ∈ l ∧ rightS s = true := fun s => by rw [List.mem_filter, Bool.not_not]
  have hFl : (l.filter fun x => !!rightS x).length ≤ l.length := List.length_filter_le _ _
  generalize (l.filter fun x => !!rightS x) = F at *
  have HF := Lib.hid hF
  have HFl := Lib.hid hFl
  have HLl := Lib.hid hl
  have HLO := Lib.hid hlo
  have HE := Lib.hid eg2
  clear hb hF hFl hl hlo eg1 eg2
  go_enter Try.func61, Try.ntmps61
  go_wp2_with fail
  refine HD.out.mono ?_
  rintro r w1 ⟨rfl, hb1, hw1⟩
  have hcmp : CmpLays Try.prog 69 #[] spCells 2 cfI b 0 F.toArray.size w1 := fun m os dk _ x y => laid2_any x y _
  have hcon := AnyQ.slices_SortFunc Try.sortI 2 Try.isAgg58 Try.sizeOf58 spCells (fun _ => rfl) spF.one cfI swoI 69 #[] b 0 cap F.toArray w1 HE.out hcmp hb1.holds hb1.lt.2 (by have := HFl.out; have := HLl.out; simp; omega)
  change Calls Try.prog 68 #[.slice (some ⟨b, 0, none⟩) F.length cap, _] _ _ at hcon
  have HCon := Lib.hid hcon
  have HB1 := Lib.hid hb1
  have HW1 := Lib.hid hw1
  clear hb1 hw1 hcmp hcon HD
  go_wp2_with fail
  refine HCon.out.mono ?_
  rintro e w2 ⟨rfl, d, n, os, hp, hs, rfl⟩
  have hd : d.size = F.length := by rw [hp.1]; simp
  have hm := perm_mem hp
  have hr := sorted_rises (d := d) (by rw [hp.1]; exact hs)
  have HM := Lib.hid (show ∀ s, s ∈ d.toList ↔ s ∈ l ∧ rightS s = true from fun s => by rw [hm s, ← HF.out s])
  have HR := Lib.hid hr
  have HS := Lib.hid (HB1.out.sorted n d os hd)
  have HW := Lib.hid (HW1.out.trans (sort_below HB1.out.lt.1 (Nat.le_trans HLO.out HW1.out.size) n d os))
  have HDl := Lib.hid (show d.toList.length = F.length by rw [Array.length_toList, hd])
  generalize sortWorldK spCells 2 w1 b 0 n d os = w3 at *
  clear hp hs hd hm hr HCon
  go_wp2_with fail
  go_ret
  exact ⟨d.toList, HM.out, HR.out, by rw [HDl.out]; exact HFl.out, by rw [HDl.out]; rfl, HS.out, HW.out⟩
end Go.Proofs.Ytjkmodfbbiojmaa
