import Derived.Test.YtooegjdppeiccaaZC42
import Derived.Test.YtooegjdppeiccaaZC21
/-
  What is told, behind stores into the box of what is told.
-/
namespace Go.Proofs.Ytooegjdppeiccaa
open Go.RowKit

def box0 : Array Value := #[.int .u64 0, .int .i64 0, .slice none 0 0, .bool false, .slice none 0 0]
theorem box0_no {o : Nat} {u : Value} (h : box0[o]? = some u) : (∀ x, u ≠ .int .u8 x) ∧ ∀ s, u ≠ .string s := by
  unfold box0 at h
  rcases o with _ | _ | _ | _ | _ | o
  · simp at h; subst h; exact ⟨by simp, by simp⟩
  · simp at h; subst h; exact ⟨by simp, by simp⟩
  · simp at h; subst h; exact ⟨by simp, by simp⟩
  · simp at h; subst h; exact ⟨by simp, by simp⟩
  · simp at h; subst h; exact ⟨by simp, by simp⟩
  · simp at h
section
variable {w w' : World} {b0 lo hi : Nat} {E : TypeId} {A : Option Addr} {c : Nat}
theorem Rd.far {l : List UInt8} (h : Rd w lo hi A l) (hx : w.heap[b0]? = some (.cells box0 E (0, 0))) (hk : ∀ g, g ≠ b0 → w'.heap[g]? = w.heap[g]?) : Rd w' lo hi A l := fun hn => by
  obtain ⟨b, o, e, h1, h2, hc⟩ := h hn
  have hb : b ≠ b0 := by
    rintro rfl
    have h3 := hc 0 hn
    rw [Nat.add_zero, cell_of_row w b o _ _ _ hx] at h3
    exact (box0_no h3).1 _ rfl
  exact ⟨b, o, e, h1, h2, fun j hj => (World.cell?_of_block (a := ⟨b, o + j, none⟩) (hk b hb)).trans (hc j hj)⟩
theorem SlI.far {l : List UInt8} (h : SlI w lo hi A c l) (hx : w.heap[b0]? = some (.cells box0 E (0, 0))) (hk : ∀ g, g ≠ b0 → w'.heap[g]? = w.heap[g]?) : SlI w' lo hi A c l := ⟨h.1, h.2.1, h.2.2.1, h.2.2.2.far hx hk⟩
theorem ChP.far {l : List (KeyS × List UInt8)} (h : ChP w lo hi A c l) (hx : w.heap[b0]? = some (.cells box0 E (0, 0))) (hk : ∀ g, g ≠ b0 → w'.heap[g]? = w.heap[g]?) : ChP w' lo hi A c l := by
  obtain ⟨h1, h2, h3, ms, e, h4, h5⟩ := h
  refine ⟨h1, h2, h3, ms, e, fun hn => ?_, fun x hx2 => SlI.far (h5 x hx2) hx hk⟩
  obtain ⟨b, o, e2, k1, k2, hc⟩ := h4 hn
  have hb : b ≠ b0 := by
    rintro rfl
    have h3 := hc 0 (.string (bs (ms[0]'hn).k)) (by
      cases ms with
      | nil => cases hn
      | cons x ms => rfl)
    rw [Nat.add_zero, cell_of_row w b o _ _ _ hx] at h3
    exact (box0_no h3).2 _ rfl
  exact ⟨b, o, e2, k1, k2, fun j u hj => (World.cell?_of_block (a := ⟨b, o + j, none⟩) (hk b hb)).trans (hc j u hj)⟩
theorem ToldIn.far {t : ToldS} {B : Option Addr} {d : Nat} (h : ToldIn w lo hi t A c B d) (hx : w.heap[b0]? = some (.cells box0 E (0, 0))) (hk : ∀ g, g ≠ b0 → w'.heap[g]? = w.heap[g]?) : ToldIn w' lo hi t A c B d := ⟨h.1.far hx hk, h.2.far hx hk⟩
end
/-- The document's store in memory, with the limits' other three numbers. -/
def RefC (w : World) (p : Nat) (S : Nat → Prop) (L : LimS) (m r v : Int) (st : PS) : Prop := ∃ A' c' os', RefM w p S L m r v st.time A' c' os' ∧ os'.map MOne.k = st.K
/-- What an operation tells by the document, and the store behind it. -/
def ShouldQ (w : World) (p : Nat) (S : Nat → Prop) (L : LimS) (m r v : Int) (st : PS) (o : OpS) (e : Ending) (w' : World) : Prop :=
  ∃ (A B : Option Addr) (c d : Nat), e = .returned (toldVal (doesS L st o).2 A c B d) ∧ ToldIn w' 0 w'.heap.size (doesS L st o).2 A c B d ∧ RefC w' p S L m r v (doesS L st o).1 ∧ Mut (fun k => k = p) w w'
theorem should_end {w w1 w2 w3 : World} {p : Nat} {S : Nat → Prop} {L : LimS} {m r v : Int} {st : PS} {o : OpS} {A B : Option Addr} {c d : Nat} {e : Ending} {E : TypeId}
    (hb : Below w.heap.size w w1) (hs : w1.heap.size = w.heap.size + 2) (hst : RefC w2 p (fun b => S b ∧ b ≠ w.heap.size + 1) L m r v (doesS L st o).1) (hm : Mut (fun k => k = p) w1 w2) (hp : p < w.heap.size)
    (hx : w2.heap[w.heap.size + 1]? = some (.cells box0 E (0, 0))) (ht : ToldIn w2 0 w2.heap.size (doesS L st o).2 A c B d) (h3 : Mut (fun k => k = w.heap.size + 1) w2 w3) (hk3 : ∀ g, g ≠ w.heap.size + 1 → w3.heap[g]? = w2.heap[g]?)
    (he : e = .returned (toldVal (doesS L st o).2 A c B d)) :
    ShouldQ w p S L m r v st o e w3 := by
  obtain ⟨A', c', os', h1, h2⟩ := hst
  have ht2 := ht.far hx hk3
  have hz := h3.size
  refine ⟨A, B, c, d, he, ⟨ht2.1.wide (Nat.le_refl _) hz, ht2.2.wide (Nat.le_refl _) hz⟩, ⟨A', c', os', h1.keep (hk3 p (by omega)) (fun g hg _ => ⟨hk3 g hg.2, hg.1⟩), h2⟩, ((Below.mut hb _).trans hm (fun k hk => .inl hk)).trans h3 (fun k hk => .inr (by have e2 : k = w.heap.size + 1 := hk; omega))⟩
end Go.Proofs.Ytooegjdppeiccaa

/-
  Stores, the document's own answers: Scan.
-/
namespace Go.Proofs.Ytooegjdppeiccaa
open Go.RowKit

theorem pairInfo : InfoG Try.prog 118 2 40 := InfoG.of (by kernel_rfl)
def RetGetM (hi : Nat) (o : Option (List UInt8)) (w : World) (r : Ending) (w' : World) : Prop :=
  ∃ A c, r = .returned (.tuple #[.slice A (o.getD []).length c, .bool o.isSome]) ∧ Sl w' hi A c (o.getD []) ∧ Below w.heap.size w w'
set_option maxRecDepth 100000 in
set_option maxHeartbeats 4000000 in
theorem refGetM (ms : List MV) (A : Option Addr) (c : Nat) (t hi : Nat) (w : World) (hl : ms.length ≤ 9223372036854775807) (hr : RowM w hi A ms) (hhi : hi ≤ w.heap.size) :
    Calls Try.prog 96 #[.slice A ms.length c, .int .u64 t] w (RetGetM hi (getH (ms.map MV.v) t) w) := by
  have hf := refFindM ms (ms.map MV.v) rfl A c t hi w (by rw [List.length_map]; exact hl) hr hhi
  rw [List.length_map] at hf
  have HC := Lib.hid hf
  have HHi := Lib.hid hhi
  unfold getH
  clear hr hf hhi
  generalize findH (ms.map MV.v) t = F at *
  go_enter Try.func96, Try.ntmps96
  go_wp2_with fail
  refine HC.out.mono ?_
  rintro r w1 ⟨A', c', rfl, hsl, hb, _⟩
  have HB := Lib.hid hb
  have HS := Lib.hid (hsl.below ((Below.refl w1.heap.size w1).alloc (Nat.le_refl _) (.cells #[.int .u64 (optH F).tm, .bool (optH F).gone, .slice A' (optH F).dat.length c'] 103)) (Nat.le_trans HHi.out hb.size) (Nat.le_refl _))
  have HB2 := Lib.hid (hb.alloc hb.size (.cells #[.int .u64 (optH F).tm, .bool (optH F).gone, .slice A' (optH F).dat.length c'] 103))
  clear hb hsl HC
  cases F with
  | none =>
    have e0 : verVal (optH none) A' c' = .agg #[.int .u64 0, .bool false, .slice A' 0 c'] := rfl
    have e1 : (none : Option Ver).isSome = false := rfl
    rw [e0, e1]
    go_wp2
    refine bodyPost_ret (v := .tuple #[.slice none 0 0, .bool false]) (by simp [results, Try.results96, go_sem]) rfl ?_
    exact ⟨none, 0, rfl, Sl.none_ _ _, HB2.out⟩
  | some v =>
    obtain ⟨tm, gone, dat⟩ := v
    have e0 : verVal (optH (some ⟨tm, gone, dat⟩)) A' c' = .agg #[.int .u64 tm, .bool gone, .slice A' dat.length c'] := rfl
    have e1 : (some (⟨tm, gone, dat⟩ : Ver)).isSome = true := rfl
    rw [e0, e1]
    clear e0 e1
    cases gone
    · go_wp2
      refine bodyPost_ret (v := .tuple #[.slice A' dat.length c', .bool true]) (by simp [results, Try.results96, go_sem]) rfl ?_
      exact ⟨A', c', rfl, HS.out, HB2.out⟩
    · go_wp2
      refine bodyPost_ret (v := .tuple #[.slice none 0 0, .bool false]) (by simp [results, Try.results96, go_sem]) rfl ?_
      exact ⟨none, 0, rfl, Sl.none_ _ _, HB2.out⟩

theorem scan_take {K : KsS} (lo hi : KeyS) (t : Nat) {j : Nat} (hj : j < K.length) : scanS (K.take (j + 1)) lo hi t = scanS (K.take j) lo hi t ++ (scanOne lo hi t (K[j]'hj)).toList := by
  unfold scanS
  rw [List.take_succ_eq_append_getElem hj, List.filterMap_append]
  congr 1
theorem scan_len (K : KsS) (lo hi : KeyS) (t : Nat) (j : Nat) : (scanS (K.take j) lo hi t).length ≤ K.length := by
  unfold scanS
  exact Nat.le_trans (List.length_filterMap_le _ _) (by rw [List.length_take]; omega)
set_option maxRecDepth 100000 in
set_option maxHeartbeats 8000000 in
theorem refScan_any (p : Nat) (S : Nat → Prop) (L : LimS) (m r v : Int) (time : Nat) (A : Option Addr) (c : Nat) (os : List MOne) (lo hi : KeyS) (t : Nat) (w : World) (hn : os.length ≤ 2097152) (h : RefM w p S L m r v time A c os) :
    Calls Try.prog 69 #[.pointer (some ⟨p, 0, none⟩), .string (bs lo), .string (bs hi), .int .u64 t] w fun e w' => ∃ A' c', e = .returned (.slice A' (scanS (os.map MOne.k) lo hi t).length c') ∧
      ChP w' 0 w'.heap.size A' c' (scanS (os.map MOne.k) lo hi t) ∧ Below w.heap.size w w' := by
  obtain ⟨R, hR⟩ : ∃ l, scanS (os.map MOne.k) lo hi t = l := ⟨_, rfl⟩
  rw [hR]
  have HRe := Lib.hid hR
  clear hR
  have HR := Lib.hid (h.row.rowG oneF)
  have HE := Lib.hid h.each
  have c8 := cell_of_row w p 8 _ _ _ h.box
  clear h
  go_enter Try.func69, Try.ntmps69
  go_wp2_with fail
  go_loopg [9, 19] os.length (fun q vo i wr => ∃ (j : Nat) (ms : List MP), j + q = os.length ∧ i = .int .i64 j ∧ OwnG 118 2 mpCells wr w.heap.size vo ms ∧ ms.map MP.p = scanS ((os.map MOne.k).take j) lo hi t ∧ (∀ x ∈ ms, SlI w 0 w.heap.size x.A x.c x.b) ∧ Below w.heap.size w wr)
  case atStart => exact ⟨0, [], by omega, rfl, OwnG.none_ _ _ _ _ _, rfl, fun x h => (by cases h), Below.refl _ _⟩
  case round =>
    obtain ⟨j, ms, hk, rfl, ho, hms, hin, hb⟩ := hrel
    have HK := Lib.hid hk
    have HO := Lib.hid ho
    have HMs := Lib.hid hms
    have HIn := Lib.hid hin
    have HB := Lib.hid hb
    clear hk ho hms hin hb c8
    by_cases hj : j < os.length
    · have hlt : decide ((j : Int) < (os.length : Int)) = true := by simpa using hj
      have hlt2 : decide (j < os.length) = true := by simpa using hj
      obtain ⟨b, o, rfl, _, hbh, hcell⟩ := (HR.out.below HB.out (Nat.le_refl _)).at_ oneF hj
      have d0 := hcell 0 _ rfl
      have d1 := hcell 1 _ rfl
      simp only [Nat.add_zero] at d0
      have hjk : j < (os.map MOne.k).length := by simpa using hj
      have htk := scan_take lo hi t hjk
      rw [List.getElem_map] at htk
      have HLn := Lib.hid (show ms.length ≤ 2097152 by
        have h1 := scan_len (os.map MOne.k) lo hi t j
        rw [← HMs.out, List.length_map, List.length_map] at h1
        omega)
      have HOne := Lib.hid (HE.out _ (List.getElem_mem hj))
      have HTk := Lib.hid (show scanS ((os.map MOne.k).take (j + 1)) lo hi t = scanS ((os.map MOne.k).take j) lo hi t ++ (scanOne lo hi t (os[j]'hj).k).toList from htk)
      have HSZ := Lib.hid HB.out.size
      clear hcell hbh htk hjk
      generalize os[j] = x at *
      obtain ⟨xk, xA, xc, xm⟩ := x
      simp only [MOne.k] at d0 d1 HTk HOne
      have hxl : xm.length ≤ 9223372036854775807 := by have h1 : xm.length ≤ xc := HOne.out.1; have h2 : xc ≤ maxLen := HOne.out.2.1; unfold maxLen at h2; omega
      obtain ⟨w2, hw2⟩ : ∃ y, wr.alloc (.cells #[.string (bs xk), .slice xA xm.length xc] 98) = y := ⟨_, rfl⟩
      have hb2 : Below w.heap.size w w2 := by rw [← hw2]; exact HB.out.alloc HSZ.out _
      have ho2 := HO.out.allocs (.cells #[.string (bs xk), .slice xA xm.length xc] 98)
      rw [hw2] at ho2
      have hx2 : w2.heap[wr.heap.size]? = some (.cells #[.string (bs xk), .slice xA xm.length xc] 98 (0, 0)) := by rw [← hw2]; exact heap_alloc_new wr _
      have x0 := cell_of_row _ _ 0 _ _ _ hx2
      have x1 := cell_of_row _ _ 1 _ _ _ hx2
      have HGet := Lib.hid (refGetM xm xA xc t w.heap.size w2 hxl (HOne.out.rowM.below hb2 (Nat.le_refl _) (Nat.le_refl _)) hb2.size)
      have HW2 := Lib.hid hw2
      have HX2 := Lib.hid hx2
      have HO2 := Lib.hid ho2
      have HB2 := Lib.hid hb2
      clear hb2 ho2 hx2 HO HB HE HR
      go_upto_region 5 with fail
      (try rw [HW2.out])
      clear hw2 HW2
      go_wp2_with fail
      refine HGet.out.mono ?_
      rintro r w3 ⟨A3, c3, rfl, hs3, hb3⟩
      have hx3 := heap_below HX2.out hb3 (lt_of_heap HX2.out)
      have y0 := cell_of_row _ _ 0 _ _ _ hx3
      have HO3 := Lib.hid (HO2.out.below hb3)
      have HB3 := Lib.hid (HB2.out.trans (hb3.mono HB2.out.size))
      have HS3 := Lib.hid (SlI.keep (w' := w) (lo := 0) (hi := w.heap.size) hs3 fun g _ hg => (HB3.out.block g hg).symm)
      clear hx3 hs3 hb3 x0 x1 HGet HX2 HO2 HB2
      have hgeq := string_geqJ
      have HTk2 := Lib.hid (show scanOne lo hi t (xk, xm.map MV.v) = if (!blt xk lo && (hi.isEmpty || blt xk hi)) = true then (getH (xm.map MV.v) t).map fun b => (xk, b) else none from rfl)
      generalize scanOne lo hi t (xk, xm.map MV.v) = so at *
      generalize getH (xm.map MV.v) t = G at *
      have p1 := bs_less xk lo
      have p2 := bs_less xk hi
      generalize hu1 : blt xk lo = u1 at *
      generalize hu2 : blt xk hi = u2 at *
      clear hu1 hu2
      cases G with
      | none =>
        simp only [Option.getD_none, Option.isSome_none]
        have HT := Lib.hid (show scanS ((os.map MOne.k).take (j + 1)) lo hi t = scanS ((os.map MOne.k).take j) lo hi t by rw [HTk.out, HTk2.out]; simp)
        clear HTk HTk2
        go_wp2_with fail
        go_roundg (gk - 1)
        case measure => have := HK.out; omega
        case rel => exact ⟨j + 1, ms, by have := HK.out; omega, by go_num, HO3.out, by rw [HT.out]; exact HMs.out, HIn.out, HB3.out⟩
      | some d =>
        cases u1 with
        | true =>
          simp only [Option.isSome_some]
          have HT := Lib.hid (show scanS ((os.map MOne.k).take (j + 1)) lo hi t = scanS ((os.map MOne.k).take j) lo hi t by rw [HTk.out, HTk2.out]; simp)
          clear HTk HTk2
          go_wp2_with fail
          go_roundg (gk - 1)
          case measure => have := HK.out; omega
          case rel => exact ⟨j + 1, ms, by have := HK.out; omega, by go_num, HO3.out, by rw [HT.out]; exact HMs.out, HIn.out, HB3.out⟩
        | false =>
          by_cases hh : hi = []
          · have p4 : (bs hi).toList = [] := by rw [bs_list]; exact hh
            have p7 : hi.isEmpty = true := by rw [hh]; rfl
            clear hh
            have HT := Lib.hid (show scanS ((os.map MOne.k).take (j + 1)) lo hi t = scanS ((os.map MOne.k).take j) lo hi t ++ [(xk, d)] by rw [HTk.out, HTk2.out]; simp [p7])
            clear HTk HTk2
            simp only [Option.getD_some, Option.isSome_some] at HS3 ⊢
            go_wp2_with (at_builtin; refine append_row _ rfl _ _ 42 118 40 mpF pairInfo Try.underlying42 rfl w.heap.size _ ms rfl (HO3.out.allocs _) w3.heap.size (w3.heap.size + 1) (some ⟨w3.heap.size, 0, none⟩) 1 1 [⟨xk, d, A3, c3⟩] rfl rfl (fun e => by cases e) (RowG.one (cs := mpCells) (heap_alloc_new w3 _)) (by have e8 := HLn.out; simp only [List.length_singleton]; unfold maxLen; omega) (by have e8 := HLn.out; simp only [List.length_singleton]; omega) (by have := HB3.out.size; simp; omega) ?_; intro v1 w5 ho5 hg5; have HO5 := Lib.hid ho5; have HB5 := Lib.hid ((HB3.out.alloc HB3.out.size (.cells #[.string (bs xk), .slice A3 d.length c3] 118)).grown hg5 (by have := HB3.out.size; simp; omega) (fun k hk => (HO3.out.lt k hk).1)); clear ho5 hg5)
            go_roundg (gk - 1)
            case measure => have := HK.out; omega
            case rel => exact ⟨j + 1, ms ++ [⟨xk, d, A3, c3⟩], by have := HK.out; omega, by go_num, HO5.out, by rw [HT.out, List.map_append, HMs.out]; rfl, fun y hy => by
              rcases List.mem_append.1 hy with hy | hy
              · exact HIn.out y hy
              · rw [List.mem_singleton] at hy
                subst hy
                exact HS3.out, HB5.out⟩
          · have p4 : ¬ (bs hi).toList = [] := by rw [bs_list]; exact hh
            have p5 : hi.isEmpty = false := by simpa using hh
            have p8 : (bs hi).toList.isEmpty = false := by rw [bs_list]; exact p5
            cases u2 with
            | true =>
              have HT := Lib.hid (show scanS ((os.map MOne.k).take (j + 1)) lo hi t = scanS ((os.map MOne.k).take j) lo hi t ++ [(xk, d)] by rw [HTk.out, HTk2.out]; simp [p5])
              clear HTk HTk2
              simp only [Option.getD_some, Option.isSome_some] at HS3 ⊢
              go_wp2_with (at_builtin; refine append_row _ rfl _ _ 42 118 40 mpF pairInfo Try.underlying42 rfl w.heap.size _ ms rfl (HO3.out.allocs _) w3.heap.size (w3.heap.size + 1) (some ⟨w3.heap.size, 0, none⟩) 1 1 [⟨xk, d, A3, c3⟩] rfl rfl (fun e => by cases e) (RowG.one (cs := mpCells) (heap_alloc_new w3 _)) (by have e8 := HLn.out; simp only [List.length_singleton]; unfold maxLen; omega) (by have e8 := HLn.out; simp only [List.length_singleton]; omega) (by have := HB3.out.size; simp; omega) ?_; intro v1 w5 ho5 hg5; have HO5 := Lib.hid ho5; have HB5 := Lib.hid ((HB3.out.alloc HB3.out.size (.cells #[.string (bs xk), .slice A3 d.length c3] 118)).grown hg5 (by have := HB3.out.size; simp; omega) (fun k hk => (HO3.out.lt k hk).1)); clear ho5 hg5)
              go_roundg (gk - 1)
              case measure => have := HK.out; omega
              case rel => exact ⟨j + 1, ms ++ [⟨xk, d, A3, c3⟩], by have := HK.out; omega, by go_num, HO5.out, by rw [HT.out, List.map_append, HMs.out]; rfl, fun y hy => by
                rcases List.mem_append.1 hy with hy | hy
                · exact HIn.out y hy
                · rw [List.mem_singleton] at hy
                  subst hy
                  exact HS3.out, HB5.out⟩
            | false =>
              simp only [Option.isSome_some]
              have HT := Lib.hid (show scanS ((os.map MOne.k).take (j + 1)) lo hi t = scanS ((os.map MOne.k).take j) lo hi t by rw [HTk.out, HTk2.out]; simp [p5, hh])
              clear HTk HTk2
              go_wp2_with fail
              go_roundg (gk - 1)
              case measure => have := HK.out; omega
              case rel => exact ⟨j + 1, ms, by have := HK.out; omega, by go_num, HO3.out, by rw [HT.out]; exact HMs.out, HIn.out, HB3.out⟩
    · have hj' : j = os.length := by have := HK.out; omega
      subst hj'
      have hlt : decide ((os.length : Int) < (os.length : Int)) = false := by simp
      have hlt2 : decide (os.length < os.length) = false := by simp
      have hms := HMs.out
      rw [List.take_of_length_le (by simp), HRe.out] at hms
      subst hms
      obtain ⟨A9, c9, rfl, k1, k2, k3, k4⟩ := HO.out.form
      have HQ := Lib.hid (And.intro k1 (And.intro k2 (And.intro k3 (k4.wide (Nat.zero_le _) (Nat.le_refl _)))))
      clear k1 k2 k3 k4
      go_wp2
      go_ret
      refine ⟨A9, c9, by simp only [List.length_map]; rfl, ⟨by rw [List.length_map]; exact HQ.out.1, HQ.out.2.1, HQ.out.2.2.1, ms, rfl, HQ.out.2.2.2, fun x hx => ?_⟩, HB.out⟩
      exact (HIn.out x hx).below HB.out (Nat.le_refl _) HB.out.size
end Go.Proofs.Ytooegjdppeiccaa
