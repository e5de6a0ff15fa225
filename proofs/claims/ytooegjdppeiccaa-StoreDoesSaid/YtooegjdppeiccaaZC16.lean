import Derived.Test.YtooegjdppeiccaaZC15
import Derived.Deep.DeepCutAuto
import Derived.Deep.RegionHeld3
/-
  Chains, the document's own answers: Put, Trim.
-/
namespace Go.Proofs.Ytooegjdppeiccaa
open Go.RowKit

/-- A slice of versions that reads as l. -/
def ChH (w : World) (hi : Nat) (A : Option Addr) (c : Nat) (l : List Ver) : Prop := l.length ≤ c ∧ c ≤ maxLen ∧ (A = none → c = 0) ∧ RowH w hi A l
theorem ChH.below {w w' : World} {hi hi' B : Nat} {A : Option Addr} {c : Nat} {l : List Ver} (h : ChH w hi A c l) (hb : Below B w w') (hB : hi ≤ B) (hh : hi ≤ hi') : ChH w' hi' A c l := ⟨h.1, h.2.1, h.2.2.1, h.2.2.2.below hb hB hh⟩
theorem ChH.none_ (w : World) (hi : Nat) : ChH w hi none 0 [] := ⟨Nat.le_refl _, Nat.zero_le _, fun _ => rfl, RowH.nil_ _ _ _⟩
/-- What Put tells: the chain, or the error. -/
def putH (l : List Ver) (v : Ver) : List Ver × Int := if (rightC l && rightC [v]) = true then if v.tm ≤ lastH l then ([], 70) else (l ++ [v], 0) else ([], 1)
def RetPut (m : List Ver × Int) (w : World) (r : Ending) (w' : World) : Prop :=
  ∃ A c, r = .returned (.tuple #[.slice A m.1.length c, .int .i64 m.2]) ∧ ChH w' w'.heap.size A c m.1 ∧ Below w.heap.size w w'
def RetCh (m : List Ver) (w : World) (r : Ending) (w' : World) : Prop :=
  ∃ A c, r = .returned (.slice A m.length c) ∧ ChH w' w'.heap.size A c m ∧ Below w.heap.size w w'
/-- One version in a block of its own. -/
theorem rowH_one {w : World} {g hi : Nat} {v : Ver} {A : Option Addr} {c : Nat} (h : w.heap[g]? = some (.cells #[.int .u64 v.tm, .bool v.gone, .slice A v.dat.length c] 103 (0, 0))) (hv : v.tm < 18446744073709551616) (hs : Sl w hi A c v.dat) (hg : g < hi) : RowH w hi (some ⟨g, 0, none⟩) [v] :=
  ⟨[⟨v, A, c⟩], rfl, (RowG.one (cs := mvCells) (x := ⟨v, A, c⟩) h).wide (Nat.zero_le _) hg, fun x hx => by
    rw [List.mem_singleton] at hx
    subst hx
    exact ⟨hv, hs⟩⟩

set_option maxRecDepth 100000 in
set_option maxHeartbeats 4000000 in
theorem refPut_any (l : List Ver) (A : Option Addr) (c : Nat) (v : Ver) (B : Option Addr) (d : Nat) (w : World) (hl : l.length ≤ 4294967296) (hr : ChH w w.heap.size A c l) (hv : v.tm < 18446744073709551616) (hs : Sl w w.heap.size B d v.dat) :
    Calls Try.prog 110 #[.slice A l.length c, verVal v B d] w (RetPut (putH l v) w) := by
  obtain ⟨w0, hw0⟩ : ∃ y, w.alloc (.cells #[.int .u64 v.tm, .bool v.gone, .slice B v.dat.length d] 103) = y := ⟨_, rfl⟩
  obtain ⟨w1, hw1⟩ : ∃ y, w0.alloc (.cells #[.int .u64 v.tm, .bool v.gone, .slice B v.dat.length d] 103) = y := ⟨_, rfl⟩
  have s0 : w0.heap.size = w.heap.size + 1 := by rw [← hw0]; simp
  have s1 : w1.heap.size = w.heap.size + 2 := by rw [← hw1]; simp [s0]
  have b0 : Below w.heap.size w w0 := by rw [← hw0]; exact (Below.refl _ w).alloc (Nat.le_refl _) _
  have b1 : Below w.heap.size w w1 := b0.trans (by rw [← hw1]; exact (Below.refl _ w0).alloc (by omega) _)
  have h0 : w1.heap[w.heap.size]? = some (.cells #[.int .u64 v.tm, .bool v.gone, .slice B v.dat.length d] 103 (0, 0)) := by
    rw [← hw1]; exact heap_allocs (by rw [← hw0]; exact heap_alloc_new w _) _
  have h1 : w1.heap[w.heap.size + 1]? = some (.cells #[.int .u64 v.tm, .bool v.gone, .slice B v.dat.length d] 103 (0, 0)) := by
    rw [← hw1, ← s0]; exact heap_alloc_new w0 _
  have hch1 := hr.below b1 (Nat.le_refl _) (hi' := w1.heap.size) (by omega)
  have hs1 := hs.below b1 (Nat.le_refl _) (hi' := w1.heap.size) (by omega)
  have hone := rowH_one h1 hv hs1 (by omega)
  have HCR := Lib.hid (refRight_any l A c w1.heap.size w1 (by omega) hch1.2.2.2 (Nat.le_refl _))
  have HCO : Hid (∀ w', Below w1.heap.size w1 w' → Calls Try.prog 125 #[.slice (some ⟨w.heap.size + 1, 0, none⟩) 1 1] w' fun r w'' => r = .returned (.bool (rightC [v])) ∧ Below w1.heap.size w1 w'') := Lib.hid fun w' h =>
    (refRight_any [v] (some ⟨w.heap.size + 1, 0, none⟩) 1 w1.heap.size w' (by simp) (hone.below h (Nat.le_refl _) (Nat.le_refl _)) h.size).mono fun _ _ q => ⟨q.1, h.trans (q.2.mono h.size)⟩
  have HCL : Hid (∀ w', Below w1.heap.size w1 w' → Calls Try.prog 97 #[.slice A l.length c] w' fun r w'' => r = .returned (.int .u64 (lastH l : Nat)) ∧ Below w1.heap.size w1 w'') := Lib.hid fun w' h =>
    (refLast_any l A c w' (by omega) ((hch1.2.2.2).below h (Nat.le_refl _) h.size)).mono fun _ _ q => ⟨q.1, h.trans (q.2.mono h.size)⟩
  have HCH := Lib.hid hch1
  have HS := Lib.hid hs1
  have H0 := Lib.hid h0
  have HB1 := Lib.hid b1
  have HS1 := Lib.hid s1
  have HW0 := Lib.hid hw0
  have HW1 := Lib.hid hw1
  have HV := Lib.hid hv
  clear hr hs hw0 hw1 b0 b1 s0 s1 h0 h1 hch1 hs1 hone hv
  obtain ⟨tm, gone, dat⟩ := v
  simp only at HCO H0 HS HV HW0 HW1
  unfold verVal
  simp only
  have hput : putH l ⟨tm, gone, dat⟩ = if (rightC l && rightC [⟨tm, gone, dat⟩]) = true then if tm ≤ lastH l then ([], 70) else (l ++ [⟨tm, gone, dat⟩], 0) else ([], 1) := rfl
  have HOne := Lib.hid (rfl : ([⟨tm, gone, dat⟩] : List Ver) = [⟨tm, gone, dat⟩])
  generalize hr1 : rightC l = r1 at *
  generalize hr2 : rightC [⟨tm, gone, dat⟩] = r2 at *
  clear hr1 hr2
  rw [hput]
  clear hput
  cases r1
  · go_enter Try.func110, Try.ntmps110
    go_upto_region 2 with fail
    rw [HW0.out, HW1.out]
    clear HW0 HW1
    go_wp2_with fail
    refine HCR.out.mono ?_
    rintro r w2 ⟨rfl, hb2⟩
    have HB2 := Lib.hid hb2
    clear hb2
    go_wp2_with fail
    refine bodyPost_ret (v := .tuple #[.slice none 0 0, .int .i64 1]) (by simp [results, Try.results110, go_sem]) rfl ?_
    exact ⟨none, 0, rfl, ChH.none_ _ _, HB1.out.trans (HB2.out.mono HB1.out.size)⟩
  · cases r2
    · go_enter Try.func110, Try.ntmps110
      go_upto_region 2 with fail
      rw [HW0.out, HW1.out]
      clear HW0 HW1
      go_wp2_with fail
      refine HCR.out.mono ?_
      rintro r w2 ⟨rfl, hb2⟩
      have HB2 := Lib.hid hb2
      clear hb2
      go_wp2_with fail
      refine (HCO.out _ HB2.out).mono ?_
      rintro r w3 ⟨rfl, hb3⟩
      have HB3 := Lib.hid hb3
      clear hb3
      go_wp2_with fail
      refine bodyPost_ret (v := .tuple #[.slice none 0 0, .int .i64 1]) (by simp [results, Try.results110, go_sem]) rfl ?_
      exact ⟨none, 0, rfl, ChH.none_ _ _, HB1.out.trans (HB3.out.mono HB1.out.size)⟩
    · have KEEP : Hid (∀ w', Below w1.heap.size w1 w' → w'.cell? ⟨w.heap.size, 0, none⟩ = some (.int .u64 tm) ∧ Below w1.heap.size w1 w') := Lib.hid (fun w' h => ⟨cell_of_row w' _ 0 _ _ _ (heap_below H0.out h (by have := HS1.out; omega)), h⟩)
      by_cases hlast : tm ≤ lastH l
      · have d1 : decide ((tm : Int) ≤ (lastH l : Int)) = true := by rw [decide_eq_true_iff]; omega
        have d2 : decide (tm ≤ lastH l) = true := by rw [decide_eq_true_iff]; omega
        rw [if_pos hlast]
        clear hlast
        go_enter Try.func110, Try.ntmps110
        go_upto_region 2 with fail
        rw [HW0.out, HW1.out]
        clear HW0 HW1
        go_wp2_with fail
        refine HCR.out.mono ?_
        rintro r w2 ⟨rfl, hb2⟩
        have HB2 := Lib.hid hb2
        clear hb2
        go_wp2_with fail
        refine (HCO.out _ HB2.out).mono ?_
        rintro r w3 ⟨rfl, hb3⟩
        have HB3 := Lib.hid hb3
        have q0 := (KEEP.out _ hb3).1
        clear hb3
        go_wp2_with fail
        go_region_held3 (fun w' => w'.cell? ⟨w.heap.size, 0, none⟩ = some (.int .u64 tm) ∧ Below w1.heap.size w1 w')
          (first | with_reducible exact KEEP.out _ hb6 | with_reducible exact KEEP.out _ HB3.out.drew)
          ((go_at_call 97; refine (HCL.out _ (by go_split_ands; assumption)).mono ?_; rintro r w' ⟨rfl, hb6⟩))
        go_wp2_with fail
        refine bodyPost_ret (v := .tuple #[.slice none 0 0, .int .i64 70]) (by simp [results, Try.results110, go_sem]) rfl ?_
        exact ⟨none, 0, rfl, ChH.none_ _ _, HB1.out.trans (hb6.mono HB1.out.size)⟩
      · have d1 : decide ((tm : Int) ≤ (lastH l : Int)) = false := by rw [decide_eq_false_iff_not]; omega
        have d2 : decide (tm ≤ lastH l) = false := by rw [decide_eq_false_iff_not]; omega
        rw [if_neg hlast]
        clear hlast
        go_enter Try.func110, Try.ntmps110
        go_upto_region 2 with fail
        rw [HW0.out, HW1.out]
        clear HW0 HW1
        go_wp2_with fail
        refine HCR.out.mono ?_
        rintro r w2 ⟨rfl, hb2⟩
        have HB2 := Lib.hid hb2
        clear hb2
        go_wp2_with fail
        refine (HCO.out _ HB2.out).mono ?_
        rintro r w3 ⟨rfl, hb3⟩
        have HB3 := Lib.hid hb3
        have q0 := (KEEP.out _ hb3).1
        clear hb3
        go_wp2_with fail
        go_region_held3 (fun w' => w'.cell? ⟨w.heap.size, 0, none⟩ = some (.int .u64 tm) ∧ Below w1.heap.size w1 w')
          (first | with_reducible exact KEEP.out _ hb6 | with_reducible exact KEEP.out _ HB3.out.drew)
          ((go_at_call 97; refine (HCL.out _ (by go_split_ands; assumption)).mono ?_; rintro r w' ⟨rfl, hb6⟩))
        have HB6 := Lib.hid hb6
        obtain ⟨hlc, hcm, hnil, ms, hms, hg, hok⟩ := HCH.out.below hb6 (Nat.le_refl _) hb6.size
        have hml : ms.length = l.length := by rw [← hms, List.length_map]
        have hsz1 : w.heap.size + 2 ≤ w'.heap.size := by have := HS1.out; have := hb6.size; omega
        have HMS := Lib.hid hms
        have HOK := Lib.hid hok
        have HSB := Lib.hid (HS.out.below hb6 (Nat.le_refl _) hb6.size)
        have HG := Lib.hid (hg.below ((Below.refl _ w').alloc (Nat.le_refl _) (.cells #[] 103)) (Nat.le_refl _))
        have HNIL := Lib.hid hnil
        have HX := Lib.hid (heap_allocs (heap_below H0.out hb6 (by have := HS1.out; omega)) (.cells #[] 103))
        clear hok hg hnil hms hb6 q0
        go_wp2_with (first
          | (at_builtin; refine append_row _ rfl _ _ 56 103 40 mvF mvInfo Try.underlying56 rfl w'.heap.size _ [] rfl (OwnG.made w' 103 3 mvCells) 0 _ A l.length c ms rfl hml.symm HNIL.out HG.out (by simp [maxLen]; omega) (by simp; omega) (by simp) ?_; intro v1 w5 ho5 hg5; have HO5 := Lib.hid ho5; have HX5 := Lib.hid ((hg5.block _ (by simp; omega) (fun e => by have := (OwnG.made w' 103 3 mvCells).lt _ e.symm; omega)).trans HX.out); have HB5 := Lib.hid (((Below.refl _ w').alloc (Nat.le_refl _) (.cells #[] 103)).grown hg5 (by simp) (fun k hk => ((OwnG.made w' 103 3 mvCells).lt k hk).1)); clear ho5 hg5; have x0 := cell_of_row w5 _ 0 _ _ _ HX5.out; have x1 := cell_of_row w5 _ 1 _ _ _ HX5.out; have x2 := cell_of_row w5 _ 2 _ _ _ HX5.out)
          | (at_builtin; refine append_row _ rfl _ _ 56 103 40 mvF mvInfo Try.underlying56 rfl w'.heap.size _ ([] ++ ms) rfl (HO5.out.allocs _) w5.heap.size (w5.heap.size + 1) (some ⟨w5.heap.size, 0, none⟩) 1 1 [⟨⟨tm, gone, dat⟩, B, d⟩] rfl rfl (fun e => by cases e) (RowG.one (heap_alloc_new w5 _)) (by simp [maxLen]; omega) (by simp; omega) (by have := HB5.out.size; simp; omega) ?_; intro v2 w6 ho6 hg6; have HO6 := Lib.hid ho6; have HB7 := Lib.hid ((HB5.out.alloc HB5.out.size (.cells #[.int .u64 tm, .bool gone, .slice B dat.length d] 103)).grown hg6 (by have := HB5.out.size; simp; omega) (fun k hk => (HO5.out.lt k hk).1)); clear ho6 hg6))
        obtain ⟨A9, c9, rfl, k1, k2, k3, k4⟩ := HO6.out.form
        rw [List.nil_append] at k1 k4
        have hlen : (([] : List MV) ++ ms ++ [(⟨⟨tm, gone, dat⟩, B, d⟩ : MV)]).length = (l ++ [(⟨tm, gone, dat⟩ : Ver)]).length := by simp [hml]
        have hlen2 : (ms ++ [(⟨⟨tm, gone, dat⟩, B, d⟩ : MV)]).length = (l ++ [(⟨tm, gone, dat⟩ : Ver)]).length := by simp [hml]
        rw [hlen]
        rw [hlen2] at k1
        refine bodyPost_ret (v := .tuple #[.slice A9 (l ++ [(⟨tm, gone, dat⟩ : Ver)]).length c9, .int .i64 0]) (by simp [results, Try.results110, go_sem]) rfl ?_
        refine ⟨A9, c9, rfl, ⟨k1, k2, k3, ms ++ [(⟨⟨tm, gone, dat⟩, B, d⟩ : MV)], by rw [List.map_append, HMS.out]; rfl, k4.wide (Nat.zero_le _) (Nat.le_refl _), fun x hx => ?_⟩, HB1.out.trans ((HB6.out.trans (HB7.out.mono HB6.out.size)).mono HB1.out.size)⟩
        rcases List.mem_append.1 hx with hx | hx
        · exact (HOK.out x hx).below HB7.out (Nat.le_refl _) HB7.out.size
        · rw [List.mem_singleton] at hx
          subst hx
          exact ⟨HV.out, HSB.out.below HB7.out (Nat.le_refl _) HB7.out.size⟩

theorem trim_take_yes {l : List Ver} {j low : Nat} (hj : j < l.length) (h : low < (l[j]'hj).tm) : ((l.take (j + 1)).filter fun v => decide (low < v.tm)) = ((l.take j).filter fun v => decide (low < v.tm)) ++ [l[j]'hj] := by
  rw [List.take_succ_eq_append_getElem hj, List.filter_append]
  congr 1
  simp [List.filter, h]
theorem trim_take_no {l : List Ver} {j low : Nat} (hj : j < l.length) (h : ¬ low < (l[j]'hj).tm) : ((l.take (j + 1)).filter fun v => decide (low < v.tm)) = ((l.take j).filter fun v => decide (low < v.tm)) := by
  rw [List.take_succ_eq_append_getElem hj, List.filter_append]
  simp [List.filter, h]
/-- What the loop of Trim goes on from. -/
def TrimAt (w wx : World) (lo : Nat) (v : Value) (m : List Ver) : Prop :=
  ∃ ms : List MV, OwnG 103 3 mvCells wx lo v ms ∧ ms.map MV.v = m ∧ (∀ x ∈ ms, OkMV wx w.heap.size x) ∧ Below w.heap.size w wx
/-- The same, cut at its parts, for a step of the loop. -/
theorem keep_len (o : Option Ver) (l : List Ver) (low j : Nat) : (keepH o ++ ((l.take j).filter fun v => decide (low < v.tm))).length ≤ l.length + 1 := by
  have h1 := keep_few o
  have h2 := List.length_filter_le (fun v : Ver => decide (low < v.tm)) (l.take j)
  rw [List.length_take] at h2
  rw [List.length_append]
  omega

set_option maxRecDepth 100000 in
set_option maxHeartbeats 4000000 in
theorem refTrim_any (l : List Ver) (A : Option Addr) (c : Nat) (low : Nat) (w : World) (hl : l.length ≤ 4294967296) (hr : RowH w w.heap.size A l) :
    Calls Try.prog 95 #[.slice A l.length c, .int .u64 low] w (RetCh (trimH l low) w) := by
  obtain ⟨w0, hw0⟩ : ∃ y, w.alloc (.cells #[] 103) = y := ⟨_, rfl⟩
  have s0 : w0.heap.size = w.heap.size + 1 := by rw [← hw0]; simp
  have b0 : Below w.heap.size w w0 := by rw [← hw0]; exact (Below.refl _ w).alloc (Nat.le_refl _) _
  have ho0 : OwnG 103 3 mvCells w0 w.heap.size (.slice (some ⟨w.heap.size, 0, none⟩) 0 0) ([] : List MV) := by rw [← hw0]; exact OwnG.made w _ _ _
  have HCF := Lib.hid (refFind_hi l A c low w.heap.size w0 (by omega) (hr.below b0 (Nat.le_refl _) (Nat.le_refl _)) (by omega))
  have HR := Lib.hid hr
  have HTM := Lib.hid (optH_tm hr.tm low)
  have HB0 := Lib.hid b0
  have HO0 := Lib.hid ho0
  have HS0 := Lib.hid s0
  have HW0 := Lib.hid hw0
  have HFI : Hid (∀ v, findH l low = some v → v ∈ l) := Lib.hid fun v hv => by
    have hm := List.mem_of_getLast? hv
    rw [List.mem_filter] at hm
    exact hm.1
  have htr : trimH l low = keepH (findH l low) ++ ((l.take l.length).filter fun v => decide (low < v.tm)) := by rw [List.take_length]; rfl
  rw [htr]
  generalize findH l low = F at *
  have hkl := fun j => keep_len F l low j
  obtain ⟨kp, hkp⟩ : ∃ y, keepH F = y := ⟨_, rfl⟩
  rw [hkp]
  simp only [hkp] at hkl
  have HKL := Lib.hid hkl
  have HKP := Lib.hid hkp
  clear hkl hkp
  clear hr s0 b0 ho0 hw0 htr
  go_enter Try.func95, Try.ntmps95
  go_upto_region 2 with fail
  rw [HW0.out]
  clear HW0
  go_wp2_with fail
  refine HCF.out.mono ?_
  rintro r w1 ⟨A', c', rfl, hsl, hb1⟩
  have hb01 : Below w.heap.size w w1 := HB0.out.trans (hb1.mono HB0.out.size)
  have ho1 := HO0.out.keep (w' := w1) (fun g _ hg => hb1.block g hg) (Nat.le_refl _)
  have hs1 : w.heap.size + 1 ≤ w1.heap.size := by have := HS0.out; have := hb1.size; omega
  clear hb1 HO0 HB0 HCF
  have HB2 := Lib.hid (hb01.alloc hb01.size (.cells #[.int .u64 (optH F).tm, .bool (optH F).gone, .slice A' (optH F).dat.length c'] 103))
  have HO2 := Lib.hid (ho1.allocs (.cells #[.int .u64 (optH F).tm, .bool (optH F).gone, .slice A' (optH F).dat.length c'] 103))
  have HS1 := Lib.hid hs1
  have HSL := Lib.hid hsl
  have hT : (kp = []) → TrimAt w (w1.alloc (.cells #[.int .u64 (optH F).tm, .bool (optH F).gone, .slice A' (optH F).dat.length c'] 103)) w.heap.size (.slice (some ⟨w.heap.size, 0, none⟩) 0 0) (kp ++ ((l.take 0).filter fun v => decide (low < v.tm))) := fun h => ⟨[], HO2.out, by rw [h]; rfl, by simp, HB2.out⟩
  have HT := Lib.hid hT
  clear hT hb01 ho1 hsl
  rcases F with _ | ⟨tm, gone, dat⟩
  · have e0 : verVal (optH none) A' c' = .agg #[.int .u64 0, .bool false, .slice A' 0 c'] := rfl
    have e1 : (none : Option Ver).isSome = false := rfl
    rw [e0, e1]
    clear e0 e1
    have HT0 := Lib.hid (HT.out HKP.out.symm)
    go_wp2_with fail
    go_loopg [5, 29] l.length (fun q v i wr => ∃ j : Nat, j + q = l.length ∧ i = .int .i64 j ∧ TrimAt w wr w.heap.size v (kp ++ ((l.take j).filter fun v => decide (low < v.tm))))
    case atStart => exact ⟨0, by omega, rfl, HT0.out⟩
    case round =>
      obtain ⟨j, hk, rfl, ms, ho, hms, hok, hb⟩ := hrel
      have HK := Lib.hid hk
      have HB := Lib.hid hb
      have HO := Lib.hid ho
      have HOK := Lib.hid hok
      have hkl := HKL.out j
      rw [← hms, List.length_map] at hkl
      have HML := Lib.hid hkl
      have HMS := Lib.hid hms
      clear hk hb ho hok hms hkl
      by_cases hj : j < l.length
      · have hlt : decide ((j : Int) < (l.length : Int)) = true := by simpa using hj
        have hlt2 : decide (j < l.length) = true := by simpa using hj
        obtain ⟨b, o, A2, c2', rfl, _, c0, c1, c2, hs, htm⟩ := (HR.out.below HB.out (Nat.le_refl _) (Nat.le_refl _)).at_ hj
        have HY := Lib.hid (fun h => trim_take_yes hj (low := low) h)
        have HN := Lib.hid (fun h => trim_take_no hj (low := low) h)
        have HS := Lib.hid hs
        have HTX := Lib.hid htm
        have hsz : w.heap.size ≤ wr.heap.size := HB.out.size
        have HSZ := Lib.hid hsz
        clear hs htm hsz
        generalize l[j] = x at *
        obtain ⟨tn, gn, dt⟩ := x
        simp only at c0 c1 c2 HY HN HS HTX
        by_cases h1 : low < tn
        · have d1 : decide ((low : Int) < (tn : Int)) = true := by rw [decide_eq_true_iff]; omega
          have d2 : decide (low < tn) = true := by rw [decide_eq_true_iff]; omega
          have HF := Lib.hid (HY.out h1)
          clear h1 HY HN
          go_wp2_with (at_builtin; refine append_row _ rfl _ _ 56 103 40 mvF mvInfo Try.underlying56 rfl w.heap.size _ ms rfl ((HO.out.allocs _).allocs _) (wr.heap.size + 1) (wr.heap.size + 1 + 1) (some ⟨wr.heap.size + 1, 0, none⟩) 1 1 [⟨⟨tn, gn, dt⟩, A2, c2'⟩] rfl rfl (fun e => by cases e) (RowG.one (heap_new2 wr _ _)) (by have := HML.out; simp [maxLen]; omega) (by have := HML.out; simp; omega) (by have := HSZ.out; simp; omega) ?_; intro v1 w5 ho5 hg5; have HO5 := Lib.hid ho5; have HB51 := Lib.hid ((((Below.refl w.heap.size wr).alloc HSZ.out (.cells #[.int .u64 tn, .bool gn, .slice A2 dt.length c2'] 103)).alloc (by have := HSZ.out; simp; omega) (.cells #[.int .u64 tn, .bool gn, .slice A2 dt.length c2'] 103)).grown hg5 (by have := HSZ.out; simp; omega) (fun k hk => (HO.out.lt k hk).1)); clear ho5 hg5)
          go_roundg (gk - 1)
          case measure => have := HK.out; omega
          case rel =>
            refine ⟨j + 1, by have := HK.out; omega, by go_num, _, HO5.out, by rw [List.map_append, HMS.out, HF.out, List.append_assoc]; rfl, fun x hx => ?_, HB.out.trans (HB51.out.mono (Nat.le_refl _))⟩
            rcases List.mem_append.1 hx with hx | hx
            · exact (HOK.out x hx).below HB51.out (Nat.le_refl _) (Nat.le_refl _)
            · rw [List.mem_singleton] at hx
              subst hx
              exact ⟨HTX.out, HS.out.below HB51.out (Nat.le_refl _) (Nat.le_refl _)⟩
        · have d1 : decide ((low : Int) < (tn : Int)) = false := by rw [decide_eq_false_iff_not]; omega
          have d2 : decide (low < tn) = false := by rw [decide_eq_false_iff_not]; omega
          have HF := Lib.hid (HN.out h1)
          have HBN := Lib.hid ((Below.refl w.heap.size wr).alloc HSZ.out (.cells #[.int .u64 tn, .bool gn, .slice A2 dt.length c2'] 103))
          clear h1 HY HN
          go_wp2
          go_roundg (gk - 1)
          case measure => have := HK.out; omega
          case rel => exact ⟨j + 1, by have := HK.out; omega, by go_num, ms, HO.out.allocs _, by rw [HF.out]; exact HMS.out, fun x hx => (HOK.out x hx).below HBN.out (Nat.le_refl _) (Nat.le_refl _), HB.out.trans HBN.out⟩
      · have hj' : j = l.length := by have := HK.out; omega
        have hlt : decide ((j : Int) < (l.length : Int)) = false := by simpa using hj
        have HJ := Lib.hid hj'
        clear hj'
        obtain ⟨A9, c9, rfl, k1, k2, k3, k4⟩ := HO.out.form
        have hml : ms.length = (kp ++ ((l.take l.length).filter fun v => decide (low < v.tm))).length := by rw [← HJ.out, ← HMS.out, List.length_map]
        have HQ := Lib.hid (show RetCh (kp ++ ((l.take l.length).filter fun v => decide (low < v.tm))) w (.returned (.slice A9 ms.length c9)) wr from ⟨A9, c9, by rw [hml], ⟨by rw [← hml]; exact k1, k2, k3, ms, by rw [HMS.out, HJ.out], k4.wide (Nat.zero_le _) (Nat.le_refl _), fun x hx => (HOK.out x hx).below (Below.refl _ _) (Nat.le_refl _) HB.out.size⟩, HB.out⟩)
        clear k1 k2 k3 k4 hml
        go_wp2
        go_ret
        exact HQ.out
  · have e0 : verVal (optH (some ⟨tm, gone, dat⟩)) A' c' = .agg #[.int .u64 tm, .bool gone, .slice A' dat.length c'] := rfl
    have e1 : (some (⟨tm, gone, dat⟩ : Ver)).isSome = true := rfl
    rw [e0, e1]
    clear e0 e1
    cases gone
    · have HKT := Lib.hid (show kp = [⟨tm, false, dat⟩] from HKP.out.symm.trans rfl)
      have hy := heap_new2 w1 (.cells #[.int .u64 tm, .bool false, .slice A' dat.length c'] 103) (.cells #[.int .u64 tm, .bool false, .slice A' dat.length c'] 103)
      have HY := Lib.hid hy
      have HO3 : Hid (OwnG 103 3 mvCells (w1.alloc (.cells #[.int .u64 tm, .bool false, .slice A' dat.length c'] 103)) w.heap.size (.slice (some ⟨w.heap.size, 0, none⟩) 0 0) ([] : List MV)) := Lib.hid HO2.out
      have HB3 : Hid (Below w.heap.size w (w1.alloc (.cells #[.int .u64 tm, .bool false, .slice A' dat.length c'] 103))) := Lib.hid HB2.out
      clear hy
      go_wp2_with (at_builtin; refine append_row _ rfl _ _ 56 103 40 mvF mvInfo Try.underlying56 rfl w.heap.size _ [] rfl (HO3.out.allocs _) (w1.heap.size + 1) (w1.heap.size + 2) (some ⟨w1.heap.size + 1, 0, none⟩) 1 1 [⟨⟨tm, false, dat⟩, A', c'⟩] rfl rfl (fun e => by cases e) (RowG.one HY.out) (by simp [maxLen]) (by simp) (by have := HS1.out; simp; omega) ?_; intro v1 w5 ho5 hg5; have HO5 := Lib.hid ho5; have HB5 := Lib.hid ((HB3.out.alloc HB3.out.size (.cells #[.int .u64 tm, .bool false, .slice A' dat.length c'] 103)).grown hg5 (by have := HS1.out; simp; omega) (fun k hk => (HO3.out.lt k hk).1)); have HB51 := Lib.hid ((((Below.refl w.heap.size w1).alloc (by have := HS1.out; omega) (.cells #[.int .u64 tm, .bool false, .slice A' dat.length c'] 103)).alloc (by have := HS1.out; simp; omega) (.cells #[.int .u64 tm, .bool false, .slice A' dat.length c'] 103)).grown hg5 (by have := HS1.out; simp; omega) (fun k hk => (HO3.out.lt k hk).1)); clear ho5 hg5)
      have HT0 : Hid (TrimAt w w5 w.heap.size v1 (kp ++ ((l.take 0).filter fun v => decide (low < v.tm)))) := Lib.hid ⟨_, HO5.out, by rw [HKT.out]; rfl, fun x hx => by
        simp only [List.nil_append, List.mem_singleton] at hx
        subst hx
        exact ⟨HTM.out, HSL.out.below HB51.out (Nat.le_refl _) (Nat.le_refl _)⟩, HB5.out⟩
      go_loopg [5, 29] l.length (fun q v i wr => ∃ j : Nat, j + q = l.length ∧ i = .int .i64 j ∧ TrimAt w wr w.heap.size v (kp ++ ((l.take j).filter fun v => decide (low < v.tm))))
      case atStart => exact ⟨0, by omega, rfl, HT0.out⟩
      case round =>
        obtain ⟨j, hk, rfl, ms, ho, hms, hok, hb⟩ := hrel
        have HK := Lib.hid hk
        have HB := Lib.hid hb
        have HO := Lib.hid ho
        have HOK := Lib.hid hok
        have hkl := HKL.out j
        rw [← hms, List.length_map] at hkl
        have HML := Lib.hid hkl
        have HMS := Lib.hid hms
        clear hk hb ho hok hms hkl
        by_cases hj : j < l.length
        · have hlt : decide ((j : Int) < (l.length : Int)) = true := by simpa using hj
          have hlt2 : decide (j < l.length) = true := by simpa using hj
          obtain ⟨b, o, A2, c2', rfl, _, c0, c1, c2, hs, htm⟩ := (HR.out.below HB.out (Nat.le_refl _) (Nat.le_refl _)).at_ hj
          have HY := Lib.hid (fun h => trim_take_yes hj (low := low) h)
          have HN := Lib.hid (fun h => trim_take_no hj (low := low) h)
          have HS := Lib.hid hs
          have HTX := Lib.hid htm
          have hsz : w.heap.size ≤ wr.heap.size := HB.out.size
          have HSZ := Lib.hid hsz
          clear hs htm hsz
          generalize l[j] = x at *
          obtain ⟨tn, gn, dt⟩ := x
          simp only at c0 c1 c2 HY HN HS HTX
          by_cases h1 : low < tn
          · have d1 : decide ((low : Int) < (tn : Int)) = true := by rw [decide_eq_true_iff]; omega
            have d2 : decide (low < tn) = true := by rw [decide_eq_true_iff]; omega
            have HF := Lib.hid (HY.out h1)
            clear h1 HY HN
            go_wp2_with (at_builtin; refine append_row _ rfl _ _ 56 103 40 mvF mvInfo Try.underlying56 rfl w.heap.size _ ms rfl ((HO.out.allocs _).allocs _) (wr.heap.size + 1) (wr.heap.size + 1 + 1) (some ⟨wr.heap.size + 1, 0, none⟩) 1 1 [⟨⟨tn, gn, dt⟩, A2, c2'⟩] rfl rfl (fun e => by cases e) (RowG.one (heap_new2 wr _ _)) (by have := HML.out; simp [maxLen]; omega) (by have := HML.out; simp; omega) (by have := HSZ.out; simp; omega) ?_; intro v1 w5 ho5 hg5; have HO5 := Lib.hid ho5; have HB51 := Lib.hid ((((Below.refl w.heap.size wr).alloc HSZ.out (.cells #[.int .u64 tn, .bool gn, .slice A2 dt.length c2'] 103)).alloc (by have := HSZ.out; simp; omega) (.cells #[.int .u64 tn, .bool gn, .slice A2 dt.length c2'] 103)).grown hg5 (by have := HSZ.out; simp; omega) (fun k hk => (HO.out.lt k hk).1)); clear ho5 hg5)
            go_roundg (gk - 1)
            case measure => have := HK.out; omega
            case rel =>
              refine ⟨j + 1, by have := HK.out; omega, by go_num, _, HO5.out, by rw [List.map_append, HMS.out, HF.out, List.append_assoc]; rfl, fun x hx => ?_, HB.out.trans (HB51.out.mono (Nat.le_refl _))⟩
              rcases List.mem_append.1 hx with hx | hx
              · exact (HOK.out x hx).below HB51.out (Nat.le_refl _) (Nat.le_refl _)
              · rw [List.mem_singleton] at hx
                subst hx
                exact ⟨HTX.out, HS.out.below HB51.out (Nat.le_refl _) (Nat.le_refl _)⟩
          · have d1 : decide ((low : Int) < (tn : Int)) = false := by rw [decide_eq_false_iff_not]; omega
            have d2 : decide (low < tn) = false := by rw [decide_eq_false_iff_not]; omega
            have HF := Lib.hid (HN.out h1)
            have HBN := Lib.hid ((Below.refl w.heap.size wr).alloc HSZ.out (.cells #[.int .u64 tn, .bool gn, .slice A2 dt.length c2'] 103))
            clear h1 HY HN
            go_wp2
            go_roundg (gk - 1)
            case measure => have := HK.out; omega
            case rel => exact ⟨j + 1, by have := HK.out; omega, by go_num, ms, HO.out.allocs _, by rw [HF.out]; exact HMS.out, fun x hx => (HOK.out x hx).below HBN.out (Nat.le_refl _) (Nat.le_refl _), HB.out.trans HBN.out⟩
        · have hj' : j = l.length := by have := HK.out; omega
          have hlt : decide ((j : Int) < (l.length : Int)) = false := by simpa using hj
          have HJ := Lib.hid hj'
          clear hj'
          obtain ⟨A9, c9, rfl, k1, k2, k3, k4⟩ := HO.out.form
          have hml : ms.length = (kp ++ ((l.take l.length).filter fun v => decide (low < v.tm))).length := by rw [← HJ.out, ← HMS.out, List.length_map]
          have HQ := Lib.hid (show RetCh (kp ++ ((l.take l.length).filter fun v => decide (low < v.tm))) w (.returned (.slice A9 ms.length c9)) wr from ⟨A9, c9, by rw [hml], ⟨by rw [← hml]; exact k1, k2, k3, ms, by rw [HMS.out, HJ.out], k4.wide (Nat.zero_le _) (Nat.le_refl _), fun x hx => (HOK.out x hx).below (Below.refl _ _) (Nat.le_refl _) HB.out.size⟩, HB.out⟩)
          clear k1 k2 k3 k4 hml
          go_wp2
          go_ret
          exact HQ.out
    · have HT0 := Lib.hid (HT.out (HKP.out.symm.trans (keep_gone rfl)))
      go_wp2_with fail
      go_loopg [5, 29] l.length (fun q v i wr => ∃ j : Nat, j + q = l.length ∧ i = .int .i64 j ∧ TrimAt w wr w.heap.size v (kp ++ ((l.take j).filter fun v => decide (low < v.tm))))
      case atStart => exact ⟨0, by omega, rfl, HT0.out⟩
      case round =>
        obtain ⟨j, hk, rfl, ms, ho, hms, hok, hb⟩ := hrel
        have HK := Lib.hid hk
        have HB := Lib.hid hb
        have HO := Lib.hid ho
        have HOK := Lib.hid hok
        have hkl := HKL.out j
        rw [← hms, List.length_map] at hkl
        have HML := Lib.hid hkl
        have HMS := Lib.hid hms
        clear hk hb ho hok hms hkl
        by_cases hj : j < l.length
        · have hlt : decide ((j : Int) < (l.length : Int)) = true := by simpa using hj
          have hlt2 : decide (j < l.length) = true := by simpa using hj
          obtain ⟨b, o, A2, c2', rfl, _, c0, c1, c2, hs, htm⟩ := (HR.out.below HB.out (Nat.le_refl _) (Nat.le_refl _)).at_ hj
          have HY := Lib.hid (fun h => trim_take_yes hj (low := low) h)
          have HN := Lib.hid (fun h => trim_take_no hj (low := low) h)
          have HS := Lib.hid hs
          have HTX := Lib.hid htm
          have hsz : w.heap.size ≤ wr.heap.size := HB.out.size
          have HSZ := Lib.hid hsz
          clear hs htm hsz
          generalize l[j] = x at *
          obtain ⟨tn, gn, dt⟩ := x
          simp only at c0 c1 c2 HY HN HS HTX
          by_cases h1 : low < tn
          · have d1 : decide ((low : Int) < (tn : Int)) = true := by rw [decide_eq_true_iff]; omega
            have d2 : decide (low < tn) = true := by rw [decide_eq_true_iff]; omega
            have HF := Lib.hid (HY.out h1)
            clear h1 HY HN
            go_wp2_with (at_builtin; refine append_row _ rfl _ _ 56 103 40 mvF mvInfo Try.underlying56 rfl w.heap.size _ ms rfl ((HO.out.allocs _).allocs _) (wr.heap.size + 1) (wr.heap.size + 1 + 1) (some ⟨wr.heap.size + 1, 0, none⟩) 1 1 [⟨⟨tn, gn, dt⟩, A2, c2'⟩] rfl rfl (fun e => by cases e) (RowG.one (heap_new2 wr _ _)) (by have := HML.out; simp [maxLen]; omega) (by have := HML.out; simp; omega) (by have := HSZ.out; simp; omega) ?_; intro v1 w5 ho5 hg5; have HO5 := Lib.hid ho5; have HB51 := Lib.hid ((((Below.refl w.heap.size wr).alloc HSZ.out (.cells #[.int .u64 tn, .bool gn, .slice A2 dt.length c2'] 103)).alloc (by have := HSZ.out; simp; omega) (.cells #[.int .u64 tn, .bool gn, .slice A2 dt.length c2'] 103)).grown hg5 (by have := HSZ.out; simp; omega) (fun k hk => (HO.out.lt k hk).1)); clear ho5 hg5)
            go_roundg (gk - 1)
            case measure => have := HK.out; omega
            case rel =>
              refine ⟨j + 1, by have := HK.out; omega, by go_num, _, HO5.out, by rw [List.map_append, HMS.out, HF.out, List.append_assoc]; rfl, fun x hx => ?_, HB.out.trans (HB51.out.mono (Nat.le_refl _))⟩
              rcases List.mem_append.1 hx with hx | hx
              · exact (HOK.out x hx).below HB51.out (Nat.le_refl _) (Nat.le_refl _)
              · rw [List.mem_singleton] at hx
                subst hx
                exact ⟨HTX.out, HS.out.below HB51.out (Nat.le_refl _) (Nat.le_refl _)⟩
          · have d1 : decide ((low : Int) < (tn : Int)) = false := by rw [decide_eq_false_iff_not]; omega
            have d2 : decide (low < tn) = false := by rw [decide_eq_false_iff_not]; omega
            have HF := Lib.hid (HN.out h1)
            have HBN := Lib.hid ((Below.refl w.heap.size wr).alloc HSZ.out (.cells #[.int .u64 tn, .bool gn, .slice A2 dt.length c2'] 103))
            clear h1 HY HN
            go_wp2
            go_roundg (gk - 1)
            case measure => have := HK.out; omega
            case rel => exact ⟨j + 1, by have := HK.out; omega, by go_num, ms, HO.out.allocs _, by rw [HF.out]; exact HMS.out, fun x hx => (HOK.out x hx).below HBN.out (Nat.le_refl _) (Nat.le_refl _), HB.out.trans HBN.out⟩
        · have hj' : j = l.length := by have := HK.out; omega
          have hlt : decide ((j : Int) < (l.length : Int)) = false := by simpa using hj
          have HJ := Lib.hid hj'
          clear hj'
          obtain ⟨A9, c9, rfl, k1, k2, k3, k4⟩ := HO.out.form
          have hml : ms.length = (kp ++ ((l.take l.length).filter fun v => decide (low < v.tm))).length := by rw [← HJ.out, ← HMS.out, List.length_map]
          have HQ := Lib.hid (show RetCh (kp ++ ((l.take l.length).filter fun v => decide (low < v.tm))) w (.returned (.slice A9 ms.length c9)) wr from ⟨A9, c9, by rw [hml], ⟨by rw [← hml]; exact k1, k2, k3, ms, by rw [HMS.out, HJ.out], k4.wide (Nat.zero_le _) (Nat.le_refl _), fun x hx => (HOK.out x hx).below (Below.refl _ _) (Nat.le_refl _) HB.out.size⟩, HB.out⟩)
          clear k1 k2 k3 k4 hml
          go_wp2
          go_ret
          exact HQ.out
end Go.Proofs.Ytooegjdppeiccaa
