/-
  How an error is made in the statements on package fault: few, make.
-/
import Derived.Test.YtdlmnhpmdidkeaaDoorFRefT
namespace Go.Proofs.YtdlmnhpmdidkeaaDoor
open Go.RowKit

/-- Is it made of little? -/
def fewB (ps : List ByteArray) : Bool := ps.all (fun p => decide (p.size ≤ 100)) && decide (ps.length ≤ 50)

theorem fewB_no {ps : List ByteArray} {j : Nat} (h : j < ps.length) (hb : ¬ ps[j].size ≤ 100) : fewB ps = false := by
  unfold fewB
  rw [Bool.and_eq_false_iff]
  left
  rw [List.all_eq_false]
  exact ⟨ps[j], List.getElem_mem h, by simpa using hb⟩
theorem fewB_end {ps : List ByteArray} (h : ∀ i (hi : i < ps.length), ps[i].size ≤ 100) : fewB ps = decide (ps.length ≤ 50) := by
  unfold fewB
  have : ps.all (fun p => decide (p.size ≤ 100)) = true := by
    rw [List.all_eq_true]
    intro p hp
    obtain ⟨i, hi, rfl⟩ := List.getElem_of_mem hp
    simpa using h i hi
  rw [this, Bool.true_and]
theorem fewB_yes {ps : List ByteArray} (h : fewB ps = true) : (∀ p ∈ ps, p.size ≤ 100) ∧ ps.length ≤ 50 := by
  unfold fewB at h
  rw [Bool.and_eq_true, List.all_eq_true] at h
  exact ⟨fun p hp => by simpa using h.1 p hp, by simpa using h.2⟩
theorem pre_few {ps : List ByteArray} (h : fewB ps = true) : (pre ps ps.length).length ≤ 1000000 := by
  obtain ⟨h1, h2⟩ := fewB_yes h
  have : ∀ l : List ByteArray, (∀ p ∈ l, p.size ≤ 100) → (l.map fun p => p.data.toList ++ [58, 32]).flatten.length ≤ 102 * l.length := by
    intro l
    induction l with
    | nil => simp
    | cons a l ih =>
      intro hl
      have e1 : a.data.toList.length = a.size := rfl
      have h3 := ih (fun p hp => hl p (List.mem_cons_of_mem _ hp))
      have h4 := hl a (List.mem_cons_self ..)
      simp only [List.map_cons, List.flatten_cons, List.length_append, List.length_cons, List.length_nil, e1]
      omega
  have := this ps h1
  unfold pre
  rw [List.take_length]
  omega

set_option maxRecDepth 100000 in
set_option maxHeartbeats 1000000 in
theorem few_any (ak : Bool) (x y : ByteArray) (k : Int) (A : Option Addr) (n c : Nat) (ps : List ByteArray) (lo hi : Nat) (w : World) (hn : n = ps.length) (hm : n ≤ maxLen) (hsz : ∀ p ∈ ps, p.size ≤ maxLen) (hr : RowS w lo hi A ps) (hhi : hi ≤ w.heap.size) :
    Calls Tryd.prog 9 #[.agg #[.bool ak, .string x, .string y, .int .i32 k, .slice A n c]] w fun r w' => r = .returned (.bool (fewB ps)) ∧ Below w.heap.size w w' := by
  subst hn
  unfold maxLen at hm
  have HR := Lib.hid (hr.below ((Below.refl _ w).alloc (Nat.le_refl _) (.cells #[.bool ak, .string x, .string y, .int .i32 k, .slice A ps.length c] 24)) hhi)
  have HZ := Lib.hid hsz
  clear hr hsz
  go_enter Tryd.func9, Tryd.ntmps9
  go_wp2
  go_loopg [8] ps.length (fun q i wr => ∃ j : Nat, j + q = ps.length ∧ i = .int .i64 j ∧ (∀ i (hi : i < ps.length), i < j → ps[i].size ≤ 100) ∧ wr = w.alloc (.cells #[.bool ak, .string x, .string y, .int .i32 k, .slice A ps.length c] 24))
  case atStart => exact ⟨0, by omega, rfl, fun i _ h => absurd h (by omega), rfl⟩
  case round =>
    obtain ⟨j, hk, rfl, hall, rfl⟩ := hrel
    have HK := Lib.hid hk
    have HA := Lib.hid hall
    clear hall
    by_cases hj : j < ps.length
    · have hlt : decide ((j : Int) < (ps.length : Int)) = true := by simpa using hj
      obtain ⟨b, o, rfl, d1⟩ := HR.out.at_ hj
      have hz := HZ.out _ (List.getElem_mem hj)
      unfold maxLen at hz
      clear hk
      by_cases hs : ps[j].size ≤ 100
      · have HS := Lib.hid hs
        generalize hpj : ps[j] = pj at d1 hs hz
        have HP := Lib.hid hpj
        clear hpj
        go_wp2
        go_roundg (gk - 1)
        case measure => have := HK.out; omega
        case rel =>
          refine ⟨j + 1, by have := HK.out; omega, by go_num, fun i hi h => ?_, rfl⟩
          by_cases e : i = j
          · subst e; exact HS.out
          · exact HA.out i hi (by omega)
      · have HF := Lib.hid (fewB_no hj hs)
        generalize ps[j] = pj at d1 hs hz
        have hs : 100 < pj.size := by omega
        go_wp2
        go_ret
        exact ⟨by rw [HF.out]; rfl, (Below.refl _ w).alloc (Nat.le_refl _) _⟩
    · have hj' : j = ps.length := by have := HK.out; omega
      have hlt : decide ((j : Int) < (ps.length : Int)) = false := by simpa using hj
      have HF := Lib.hid (fewB_end (fun i hi => HA.out i hi (by omega)))
      subst hj'
      clear hk HA
      go_wp2
      go_ret
      refine ⟨?_, (Below.refl _ w).alloc (Nat.le_refl _) _⟩
      rw [HF.out]
      simp
      omega

/-- What the error is that is made: its end, and its places. -/
def endM (ak : Bool) (x y : ByteArray) (k : Int) : End := if ak then .need x y else if k = 0 then .nil else .num k
def placesM (ak : Bool) (k : Int) (ps : List ByteArray) : List ByteArray := if ak then ps else if k = 0 then [] else ps

theorem wrap_loop {ps : List ByteArray} {j : Nat} (h : j < ps.length) : ps.drop (ps.length - (j + 1)) = ps[ps.length - 1 - j] :: ps.drop (ps.length - j) := by
  rw [List.drop_eq_getElem_cons (by omega)]
  congr 1
  · congr 1; omega
  · congr 1; omega

set_option maxRecDepth 100000 in
set_option maxHeartbeats 1000000 in
theorem make_zero (x y : ByteArray) (A : Option Addr) (n c : Nat) (ps : List ByteArray) (lo hi : Nat) (w : World) (hn : n = ps.length) (hm : n ≤ maxLen) (hr : RowS w lo hi A ps) (hhi : hi ≤ w.heap.size) :
    Calls Tryd.prog 10 #[.agg #[.bool false, .string x, .string y, .int .i32 0, .slice A n c]] w (RetE .nil [] w) := by
  subst hn
  unfold maxLen at hm
  have HR := Lib.hid (hr.below ((Below.refl _ w).alloc (Nat.le_refl _) (.cells #[.bool false, .string x, .string y, .int .i32 0, .slice A ps.length c] 24)) hhi)
  clear hr
  go_enter Tryd.func10, Tryd.ntmps10
  go_wp2_with (first | (go_at_call 21; refine (of_zero _).mono ?_; rintro r w' ⟨rfl, rfl⟩))
  go_loopg [3, 19] ps.length (fun q e i wr => ∃ j : Nat, j + q = ps.length ∧ i = .int .i64 j ∧ e = .nilIface ∧ wr = w.alloc (.cells #[.bool false, .string x, .string y, .int .i32 0, .slice A ps.length c] 24))
  case atStart => exact ⟨0, by omega, rfl, rfl, rfl⟩
  case round =>
    obtain ⟨j, hk, rfl, rfl, rfl⟩ := hrel
    have HK := Lib.hid hk
    by_cases hj : j < ps.length
    · have hlt : decide ((j : Int) < (ps.length : Int)) = true := by simpa using hj
      obtain ⟨b, o, rfl, d1⟩ := HR.out.at_ (k := ps.length - 1 - j) (by omega)
      generalize ps[ps.length - 1 - j] = pj at d1
      clear hk
      go_wp2_with fail
      refine (wrap_none _ _).mono ?_
      rintro r w' ⟨rfl, rfl⟩
      go_wp2_with fail
      go_roundg (gk - 1)
      case measure => have := HK.out; omega
      case rel => exact ⟨j + 1, by have := HK.out; omega, by go_num, rfl, rfl⟩
    · have hj' : j = ps.length := by have := HK.out; omega
      have hlt : decide ((j : Int) < (ps.length : Int)) = false := by simpa using hj
      subst hj'
      clear hk
      go_wp2_with fail
      go_ret
      exact ⟨_, rfl, rfl, (Below.refl _ w).alloc (Nat.le_refl _) _⟩

set_option maxRecDepth 100000 in
set_option maxHeartbeats 1000000 in
theorem make_num (x y : ByteArray) (k : Int) (A : Option Addr) (n c : Nat) (ps : List ByteArray) (lo hi : Nat) (w : World) (hk0 : k ≠ 0) (h0 : -2147483648 ≤ k) (h1 : k ≤ 2147483647) (hn : n = ps.length) (hm : n ≤ maxLen) (hr : RowS w lo hi A ps) (hhi : hi ≤ w.heap.size) :
    Calls Tryd.prog 10 #[.agg #[.bool false, .string x, .string y, .int .i32 k, .slice A n c]] w (RetE (End.num k) ps w) := by
  subst hn
  unfold maxLen at hm
  have HR := Lib.hid (hr.below ((Below.refl _ w).alloc (Nat.le_refl _) (.cells #[.bool false, .string x, .string y, .int .i32 k, .slice A ps.length c] 24)) hhi)
  clear hr
  go_enter Tryd.func10, Tryd.ntmps10
  go_wp2_with fail
  refine (of_num _ _ hk0).mono ?_
  rintro r w' ⟨rfl, rfl⟩
  clear hk0
  go_wp2_with fail
  go_loopg [3, 19] ps.length (fun q v i wr => ∃ j : Nat, j + q = ps.length ∧ i = .int .i64 j ∧ Err wr wr.heap.size (End.num k) (ps.drop (ps.length - j)) v ∧ Below (w.heap.size + 1) (w.alloc (.cells #[.bool false, .string x, .string y, .int .i32 k, .slice A ps.length c] 24)) wr)
  case atStart => exact ⟨0, by omega, rfl, by rw [Nat.sub_zero, List.drop_length]; rfl, Below.refl _ _⟩
  case round =>
    obtain ⟨j, hk, rfl, hv, hb⟩ := hrel
    have HK := Lib.hid hk
    have HV := Lib.hid hv
    have HB := Lib.hid hb
    have hsz := hb.size
    have c4 := bcell hb (by omega) (show (w.alloc (.cells #[.bool false, .string x, .string y, .int .i32 k, .slice A ps.length c] 24)).cell? ⟨w.heap.size, 4, none⟩ = some (.slice A ps.length c) by simp)
    rw [World.size_alloc] at hsz
    clear hb
    by_cases hj : j < ps.length
    · have hlt : decide ((j : Int) < (ps.length : Int)) = true := by simpa using hj
      obtain ⟨b, o, rfl, d1⟩ := (HR.out.below HB.out (by omega)).at_ (k := ps.length - 1 - j) (by omega)
      have HW := Lib.hid (wrap_loop hj)
      generalize ps[ps.length - 1 - j] = pj at d1 HW
      clear hk hv
      go_wp2_with fail
      refine (wrap_any pj _ _ (End.num k) _ _ HV.out (.inr (by intro h; cases h)) (Nat.le_refl _)).mono ?_
      rintro r w' ⟨v', rfl, he', hb'⟩
      have HX := Lib.hid (And.intro he' hb')
      clear he' hb' c4 d1
      go_wp2_with fail
      go_roundg (gk - 1)
      case measure => have := HK.out; omega
      case rel => exact ⟨j + 1, by have := HK.out; omega, by go_num, by rw [HW.out]; exact HX.out.1, HB.out.trans (HX.out.2.mono (by omega))⟩
    · have hj' : j = ps.length := by have := HK.out; omega
      have hlt : decide ((j : Int) < (ps.length : Int)) = false := by simpa using hj
      subst hj'
      clear hk hv c4
      go_wp2_with fail
      go_ret
      refine ⟨_, rfl, ?_, ((Below.refl _ w).alloc (Nat.le_refl _) _).trans (HB.out.mono (by omega))⟩
      have := HV.out
      rwa [Nat.sub_self, List.drop_zero] at this

set_option maxRecDepth 100000 in
set_option maxHeartbeats 1000000 in
theorem make_need (x y : ByteArray) (k : Int) (A : Option Addr) (n c : Nat) (ps : List ByteArray) (lo hi : Nat) (w : World) (hk0 : k ≠ 0) (h0 : -2147483648 ≤ k) (h1 : k ≤ 2147483647) (hn : n = ps.length) (hm : n ≤ maxLen) (hr : RowS w lo hi A ps) (hhi : hi ≤ w.heap.size) :
    Calls Tryd.prog 10 #[.agg #[.bool true, .string x, .string y, .int .i32 k, .slice A n c]] w (RetE (End.need x y) ps w) := by
  subst hn
  unfold maxLen at hm
  have HR := Lib.hid (hr.below ((Below.refl _ w).alloc (Nat.le_refl _) (.cells #[.bool true, .string x, .string y, .int .i32 k, .slice A ps.length c] 24)) hhi)
  clear hr
  go_enter Tryd.func10, Tryd.ntmps10
  go_wp2_with fail
  refine (of_num _ _ hk0).mono ?_
  rintro r w' ⟨rfl, rfl⟩
  clear hk0
  go_wp2_with fail
  refine (ask_any _ _ _).mono ?_
  rintro r w' ⟨rfl, rfl⟩
  go_wp2_with fail
  go_loopg [3, 19] ps.length (fun q v i wr => ∃ j : Nat, j + q = ps.length ∧ i = .int .i64 j ∧ Err wr wr.heap.size (End.need x y) (ps.drop (ps.length - j)) v ∧ Below (w.heap.size + 1) (w.alloc (.cells #[.bool true, .string x, .string y, .int .i32 k, .slice A ps.length c] 24)) wr)
  case atStart => exact ⟨0, by omega, rfl, by rw [Nat.sub_zero, List.drop_length]; rfl, Below.refl _ _⟩
  case round =>
    obtain ⟨j, hk, rfl, hv, hb⟩ := hrel
    have HK := Lib.hid hk
    have HV := Lib.hid hv
    have HB := Lib.hid hb
    have hsz := hb.size
    have c4 := bcell hb (by omega) (show (w.alloc (.cells #[.bool true, .string x, .string y, .int .i32 k, .slice A ps.length c] 24)).cell? ⟨w.heap.size, 4, none⟩ = some (.slice A ps.length c) by simp)
    rw [World.size_alloc] at hsz
    clear hb
    by_cases hj : j < ps.length
    · have hlt : decide ((j : Int) < (ps.length : Int)) = true := by simpa using hj
      obtain ⟨b, o, rfl, d1⟩ := (HR.out.below HB.out (by omega)).at_ (k := ps.length - 1 - j) (by omega)
      have HW := Lib.hid (wrap_loop hj)
      generalize ps[ps.length - 1 - j] = pj at d1 HW
      clear hk hv
      go_wp2_with fail
      refine (wrap_any pj _ _ (End.need x y) _ _ HV.out (.inr (by intro h; cases h)) (Nat.le_refl _)).mono ?_
      rintro r w' ⟨v', rfl, he', hb'⟩
      have HX := Lib.hid (And.intro he' hb')
      clear he' hb' c4 d1
      go_wp2_with fail
      go_roundg (gk - 1)
      case measure => have := HK.out; omega
      case rel => exact ⟨j + 1, by have := HK.out; omega, by go_num, by rw [HW.out]; exact HX.out.1, HB.out.trans (HX.out.2.mono (by omega))⟩
    · have hj' : j = ps.length := by have := HK.out; omega
      have hlt : decide ((j : Int) < (ps.length : Int)) = false := by simpa using hj
      subst hj'
      clear hk hv c4
      go_wp2_with fail
      go_ret
      refine ⟨_, rfl, ?_, ((Below.refl _ w).alloc (Nat.le_refl _) _).trans (HB.out.mono (by omega))⟩
      have := HV.out
      rwa [Nat.sub_self, List.drop_zero] at this

set_option maxRecDepth 100000 in
set_option maxHeartbeats 1000000 in
theorem make_need0 (x y : ByteArray) (A : Option Addr) (n c : Nat) (ps : List ByteArray) (lo hi : Nat) (w : World) (hn : n = ps.length) (hm : n ≤ maxLen) (hr : RowS w lo hi A ps) (hhi : hi ≤ w.heap.size) :
    Calls Tryd.prog 10 #[.agg #[.bool true, .string x, .string y, .int .i32 0, .slice A n c]] w (RetE (End.need x y) ps w) := by
  subst hn
  unfold maxLen at hm
  have HR := Lib.hid (hr.below ((Below.refl _ w).alloc (Nat.le_refl _) (.cells #[.bool true, .string x, .string y, .int .i32 0, .slice A ps.length c] 24)) hhi)
  clear hr
  go_enter Tryd.func10, Tryd.ntmps10
  go_wp2_with fail
  refine (of_zero _).mono ?_
  rintro r w' ⟨rfl, rfl⟩
  go_wp2_with fail
  refine (ask_any _ _ _).mono ?_
  rintro r w' ⟨rfl, rfl⟩
  go_wp2_with fail
  go_loopg [3, 19] ps.length (fun q v i wr => ∃ j : Nat, j + q = ps.length ∧ i = .int .i64 j ∧ Err wr wr.heap.size (End.need x y) (ps.drop (ps.length - j)) v ∧ Below (w.heap.size + 1) (w.alloc (.cells #[.bool true, .string x, .string y, .int .i32 0, .slice A ps.length c] 24)) wr)
  case atStart => exact ⟨0, by omega, rfl, by rw [Nat.sub_zero, List.drop_length]; rfl, Below.refl _ _⟩
  case round =>
    obtain ⟨j, hk, rfl, hv, hb⟩ := hrel
    have HK := Lib.hid hk
    have HV := Lib.hid hv
    have HB := Lib.hid hb
    have hsz := hb.size
    have c4 := bcell hb (by omega) (show (w.alloc (.cells #[.bool true, .string x, .string y, .int .i32 0, .slice A ps.length c] 24)).cell? ⟨w.heap.size, 4, none⟩ = some (.slice A ps.length c) by simp)
    rw [World.size_alloc] at hsz
    clear hb
    by_cases hj : j < ps.length
    · have hlt : decide ((j : Int) < (ps.length : Int)) = true := by simpa using hj
      obtain ⟨b, o, rfl, d1⟩ := (HR.out.below HB.out (by omega)).at_ (k := ps.length - 1 - j) (by omega)
      have HW := Lib.hid (wrap_loop hj)
      generalize ps[ps.length - 1 - j] = pj at d1 HW
      clear hk hv
      go_wp2_with fail
      refine (wrap_any pj _ _ (End.need x y) _ _ HV.out (.inr (by intro h; cases h)) (Nat.le_refl _)).mono ?_
      rintro r w' ⟨v', rfl, he', hb'⟩
      have HX := Lib.hid (And.intro he' hb')
      clear he' hb' c4 d1
      go_wp2_with fail
      go_roundg (gk - 1)
      case measure => have := HK.out; omega
      case rel => exact ⟨j + 1, by have := HK.out; omega, by go_num, by rw [HW.out]; exact HX.out.1, HB.out.trans (HX.out.2.mono (by omega))⟩
    · have hj' : j = ps.length := by have := HK.out; omega
      have hlt : decide ((j : Int) < (ps.length : Int)) = false := by simpa using hj
      subst hj'
      clear hk hv c4
      go_wp2_with fail
      go_ret
      refine ⟨_, rfl, ?_, ((Below.refl _ w).alloc (Nat.le_refl _) _).trans (HB.out.mono (by omega))⟩
      have := HV.out
      rwa [Nat.sub_self, List.drop_zero] at this

theorem make_any (ak : Bool) (x y : ByteArray) (k : Int) (A : Option Addr) (n c : Nat) (ps : List ByteArray) (lo hi : Nat) (w : World) (h0 : -2147483648 ≤ k) (h1 : k ≤ 2147483647) (hn : n = ps.length) (hm : n ≤ maxLen) (hr : RowS w lo hi A ps) (hhi : hi ≤ w.heap.size) :
    Calls Tryd.prog 10 #[.agg #[.bool ak, .string x, .string y, .int .i32 k, .slice A n c]] w (RetE (endM ak x y k) (placesM ak k ps) w) := by
  by_cases hk : k = 0
  · subst hk
    cases ak
    · exact make_zero x y A n c ps lo hi w hn hm hr hhi
    · exact make_need0 x y A n c ps lo hi w hn hm hr hhi
  · cases ak
    · have e1 : endM false x y k = .num k := by simp [endM, hk]
      have e2 : placesM false k ps = ps := by simp [placesM, hk]
      rw [e1, e2]
      exact make_num x y k A n c ps lo hi w hk h0 h1 hn hm hr hhi
    · exact make_need x y k A n c ps lo hi w hk h0 h1 hn hm hr hhi
end Go.Proofs.YtdlmnhpmdidkeaaDoor
