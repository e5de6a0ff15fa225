import Derived.Test.YtooegjdppeiccaaZC41
import Derived.Test.YtooegjdppeiccaaZC36
import Derived.Test.YtooegjdppeiccaaZC31
/-
  The developers' store: Clone.
-/
namespace Go.Proofs.Ytooegjdppeiccaa
open Go.RowKit

theorem run_makeMap_hint {P : Program} {t k e : TypeId} (ht : P.underlying t = some (.map k e)) (w : World) (n : Int) : (Instr.makeMap t (some (.int .i64 n))).run P w = .ok (.map (some w.heap.size)) (w.alloc (.map #[] 0)) := by
  have h := @run_makeMap P t w
  unfold Instr.makeMap at h ⊢
  simp [run_underlying ht, asInt, asIntOf, Result.andThen] at h ⊢
theorem run_makeMapN (w : World) (n : Nat) : (Instr.makeMap 90 (some (.int .i64 (n : Int)))).run Try.prog w = .ok (.map (some w.heap.size)) (w.alloc (.map #[] 0)) := run_makeMap_hint Try.underlying90 w n
theorem chain_take {K : KsS} (h : SortS K) (hf : FullS K) {j : Nat} (hj : j < K.length) : chainS (K.take (j + 1)) = updG (chainS (K.take j)) (K[j]'hj).1 (K[j]'hj).2 := funext fun k => by
  rw [List.take_succ_eq_append_getElem hj, chainS_app (fun x hx => hf x (List.mem_of_mem_take hx))]
  by_cases e : k = (K[j]'hj).1
  · have h0 : chainS (K.take j) (K[j]'hj).1 = [] := chainS_no fun x hx => blt_ne (take_lt h hx (by rw [List.drop_eq_getElem_cons hj]; exact List.mem_cons_self ..))
    rw [e, updG_self, h0, if_pos (show ([] : List Ver).isEmpty = true from rfl), chainS_cons, if_pos rfl]
  · rw [updG_ne _ e]
    have h1 : chainS [K[j]'hj] k = [] := by rw [chainS_cons, if_neg (fun e2 => e e2.symm), chainS_nil]
    rw [h1]
    cases h2 : chainS (K.take j) k <;> rfl
theorem take_none {K : KsS} (h : SortS K) {j : Nat} (hj : j < K.length) : chainS (K.take j) (K[j]'hj).1 = [] := chainS_no fun x hx => blt_ne (take_lt h hx (by rw [List.drop_eq_getElem_cons hj]; exact List.mem_cons_self ..))
theorem clone_start {w3 : World} {q B' n0 : Nat} {kv' : Value} {L : LimS} {m r v : Int} {now : Nat} {ks : List KeyS} {z : Sz} (hb : w3.heap[q]? = some (.cells (boxS L m r v now B' kv' z) 92 (0, 0))) (hm : MapS w3 B' fun _ => none) (ho : OwnG 9 1 kCells w3 0 kv' ks)
    (hn : n0 ≤ q) (hq : q < w3.heap.size) (hB : n0 ≤ B') (hqB : q ≠ B') (hk : ∀ b, kv'.ownBlock = some b → n0 ≤ b ∧ b ≠ q ∧ b ≠ B') :
    RawS w3 q (fun b => n0 ≤ b ∧ b < w3.heap.size) (fun _ => False) B' kv' (fun _ => .slice none 0 0) L m r v now (chainS []) ks z where
  box := hb
  map := hm
  keys := ho
  chain := fun _ h => absurd rfl h
  Fp := ⟨hn, hq⟩
  FB := ⟨hB, hm.lt⟩
  Fk := fun b hb2 => ⟨(hk b hb2).1, (OwnG.lt ho b hb2).2⟩
  Fc := fun _ h => absurd rfl h
  FD := fun _ h => h.elim
  lt := fun _ h => h.2
  pB := hqB
  kvp := fun b hb2 => ⟨(hk b hb2).2.1, (hk b hb2).2.2, fun h => h⟩
  cvp := fun _ h => absurd rfl h
  apart := fun _ _ h => absurd rfl h
  Dp := fun h => h
  DB := fun h => h
end Go.Proofs.Ytooegjdppeiccaa

/-
  The developers' store: the keys of a stretch; Scan.
-/
namespace Go.Proofs.Ytooegjdppeiccaa
open Go.RowKit

theorem SplitK.drop {ks : List KeyS} {t : KeyS} {n : Nat} (h : SplitK ks t n) : ks.filter (fun k => !blt k t) = ks.drop n := by
  conv => lhs; rw [← List.take_append_drop n ks]
  rw [List.filter_append]
  have e1 : (ks.take n).filter (fun k => !blt k t) = [] := by
    rw [List.filter_eq_nil_iff]
    intro x hx
    obtain ⟨i, hi, rfl⟩ := List.mem_take_iff_getElem.1 hx
    rw [h.2.1 i (by omega) (by omega)]
    simp
  have e2 : (ks.drop n).filter (fun k => !blt k t) = ks.drop n := by
    rw [List.filter_eq_self]
    intro x hx
    obtain ⟨i, hi, rfl⟩ := List.mem_drop_iff_getElem.1 hx
    rw [h.2.2 (n + i) (by omega) (by omega)]
    rfl
  rw [e1, e2, List.nil_append]
theorem SplitK.take {ks : List KeyS} {t : KeyS} {n : Nat} (h : SplitK ks t n) : ks.filter (fun k => blt k t) = ks.take n := by
  conv => lhs; rw [← List.take_append_drop n ks]
  rw [List.filter_append]
  have e1 : (ks.take n).filter (fun k => blt k t) = ks.take n := by
    rw [List.filter_eq_self]
    intro x hx
    obtain ⟨i, hi, rfl⟩ := List.mem_take_iff_getElem.1 hx
    exact h.2.1 i (by omega) (by omega)
  have e2 : (ks.drop n).filter (fun k => blt k t) = [] := by
    rw [List.filter_eq_nil_iff]
    intro x hx
    obtain ⟨i, hi, rfl⟩ := List.mem_drop_iff_getElem.1 hx
    rw [h.2.2 (n + i) (by omega) (by omega)]
    simp
  rw [e1, e2, List.append_nil]
def betw (ks : List KeyS) (lo hi : KeyS) : List KeyS := ks.filter (inS lo hi)
theorem betw_open {ks : List KeyS} {lo : KeyS} {n : Nat} (h : SplitK ks lo n) : betw ks lo [] = ks.drop n := by
  rw [← h.drop]
  exact List.filter_congr fun x _ => by unfold inS; simp
theorem betw_shut {ks : List KeyS} {lo hi : KeyS} {n m : Nat} (hh : hi ≠ []) (h : SplitK ks lo n) (h2 : SplitK (ks.drop n) hi m) : betw ks lo hi = (ks.drop n).take m := by
  rw [← h2.take, ← h.drop, List.filter_filter]
  exact List.filter_congr fun x _ => by
    unfold inS
    cases hi with
    | nil => exact absurd rfl hh
    | cons a b => simp [Bool.and_comm]
def RetB (ks : List KeyS) (w0 : World) (w : World) (lo hi : Nat) (e : Ending) (w' : World) : Prop := (∃ A' c', e = .returned (.slice A' ks.length c') ∧ RowG kCells w0 lo hi A' ks) ∧ w' = w
set_option maxRecDepth 100000 in
set_option maxHeartbeats 1000000 in
theorem dBetween_any (ks : List KeyS) (A : Option Addr) (c lb hb : Nat) (lo hi : KeyS) (w : World) (hl : ks.length ≤ 2097152) (hc : ks.length ≤ c) (hr : RowG kCells w lb hb A ks) (hri : RiseK ks) :
    Calls Try.prog 91 #[.slice A ks.length c, .string (bs lo), .string (bs hi)] w (RetB (betw ks lo hi) w w lb hb) := by
  have HS := Lib.hid (dSearch_any ks A c lb hb lo w hl hr hri)
  have HR := Lib.hid (fun j (hj : j ≤ ks.length) => RowG.drop kF hr j c hj hc)
  have HS2 : Hid (∀ (n : Nat), n ≤ ks.length → ∀ (c' : Nat) A', RowG kCells w lb hb A' (ks.drop n) → Calls Try.prog 109 #[.slice A' (ks.drop n).length c', .string (bs hi)] w fun e w' => (∃ (m : Nat) (is : Bool), e = .returned (.tuple #[.int .i64 m, .bool is]) ∧ SplitK (ks.drop n) hi m) ∧ w' = w) :=
    Lib.hid fun n hn c' A' hr' => dSearch_any (ks.drop n) A' c' lb hb hi w (by rw [List.length_drop]; omega) hr' (List.Pairwise.sublist (List.drop_sublist _ _) hri)
  have HOpen : Hid (∀ n, SplitK ks lo n → hi = [] → betw ks lo hi = ks.drop n) := Lib.hid fun n h e => by rw [e]; exact betw_open h
  have HShut : Hid (∀ n m, hi ≠ [] → SplitK ks lo n → SplitK (ks.drop n) hi m → betw ks lo hi = (ks.drop n).take m) := Lib.hid fun n m => betw_shut
  have hbs := bs_same hi []
  have HK : Hid (∀ (A' : Option Addr) (l : List KeyS) (j : Nat), RowG kCells w lb hb A' l → RowG kCells w lb hb A' (l.take j)) := Lib.hid fun A' l j h => RowG.take kF h j
  generalize betw ks lo hi = O at *
  have HL := Lib.hid hl
  have HC := Lib.hid hc
  clear hr hri hl hc
  go_enter Try.func91, Try.ntmps91
  go_wp2_with fail
  refine HS.out.mono ?_
  rintro e w' ⟨⟨n, is, rfl, hsp⟩, rfl⟩
  have HSP := Lib.hid hsp
  have hn := hsp.1
  have hcn := HC.out
  have h1 : (0 : Int) ≤ (n : Int) := by omega
  have h2 : (n : Int) ≤ (ks.length : Int) := by omega
  have h3 : (ks.length : Int) ≤ (c : Int) := by omega
  have hdl : (ks.drop n).length = ks.length - n := List.length_drop
  have HRn := Lib.hid (HR.out n hn)
  clear hsp HS HR
  by_cases hh : hi = []
  · have HO := Lib.hid (HOpen.out n HSP.out hh)
    have e0 : (bs hi).toList.isEmpty = true := by rw [bs_list, hh]; rfl
    have e3 : (bs hi).toList = [] := by rw [bs_list, hh]
    clear HShut HS2 hbs hh
    by_cases hcc : c = n
    · have HRf := Lib.hid (show RowG kCells _ lb hb A (ks.drop n) from by have h := HRn.out; rw [if_pos hcc] at h; exact h)
      have hz : ks.length - n = 0 := by omega
      subst hcc
      go_wp2
      go_ret
      rw [HO.out]
      exact ⟨⟨_, _, by rw [hdl, hz]; rfl, HRf.out⟩, rfl⟩
    · have HRf := Lib.hid (show RowG kCells _ lb hb (A.map (·.add n)) (ks.drop n) from by have h := HRn.out; rw [if_neg hcc, Nat.mul_one] at h; exact h)
      go_wp2
      go_ret
      rw [HO.out]
      exact ⟨⟨_, _, by rw [hdl]; rfl, HRf.out⟩, rfl⟩
  · have e0 : (bs hi).toList.isEmpty = false := by rw [bs_list]; simpa using hh
    have e3 : ¬ (bs hi).toList = [] := by rw [bs_list]; exact hh
    have HSh := Lib.hid (fun m h => HShut.out n m hh HSP.out h)
    clear HShut hbs hh
    by_cases hcc : c = n
    · have hrf := HRn.out
      rw [if_pos hcc] at hrf
      have HRf := Lib.hid hrf
      have hz : ks.length - n = 0 := by omega
      have hC := HS2.out n hn 0 _ hrf
      rw [hdl, hz] at hC
      have HCall := Lib.hid hC
      subst hcc
      clear hrf hC HS2
      go_wp2_with fail
      refine HCall.out.mono ?_
      rintro e w' ⟨⟨m, is, rfl, hsp⟩, rfl⟩
      have HO := Lib.hid (HSh.out m hsp)
      have hm := hsp.1
      rw [hdl, hz] at hm
      obtain rfl : m = 0 := by omega
      have HF := Lib.hid (HK.out _ _ 0 HRf.out)
      have hml : ((ks.drop c).take 0).length = 0 := rfl
      clear hsp
      go_wp2
      go_ret
      rw [HO.out]
      exact ⟨⟨_, _, by rw [hml]; rfl, HF.out⟩, rfl⟩
    · have hrf := HRn.out
      rw [if_neg hcc, Nat.mul_one] at hrf
      have HRf := Lib.hid hrf
      have hC := HS2.out n hn (c - n) _ hrf
      rw [hdl] at hC
      have HCall := Lib.hid hC
      clear hrf hC HS2
      go_wp2_with fail
      refine HCall.out.mono ?_
      rintro e w' ⟨⟨m, is, rfl, hsp⟩, rfl⟩
      have HO := Lib.hid (HSh.out m hsp)
      have hm := hsp.1
      rw [hdl] at hm
      have k1 : (0 : Int) ≤ (m : Int) := by omega
      have k2 : (m : Int) ≤ ((c - n : Nat) : Int) := by omega
      have HF := Lib.hid (HK.out _ _ m HRf.out)
      have hml : ((ks.drop n).take m).length = m := by rw [List.length_take, hdl]; omega
      clear hsp
      go_wp2
      go_ret
      rw [HO.out]
      exact ⟨⟨_, _, by rw [hml]; rfl, HF.out⟩, rfl⟩
end Go.Proofs.Ytooegjdppeiccaa

/-
  The developers' store: Scan.
-/
namespace Go.Proofs.Ytooegjdppeiccaa
open Go.RowKit

theorem pairInfoD : InfoG Try.prog 118 2 40 := InfoG.of (by kernel_rfl)
def pairOf (g : KeyS → List Ver) (t : Nat) (k : KeyS) : Option (KeyS × List UInt8) := (getH (g k) t).map fun b => (k, b)
def scanR (g : KeyS → List Ver) (ks : List KeyS) (lo hi : KeyS) (t : Nat) : List (KeyS × List UInt8) := (betw ks lo hi).filterMap (pairOf g t)
theorem filterMap_take {α β : Type} (f : α → Option β) {l : List α} {j : Nat} (hj : j < l.length) : (l.take (j + 1)).filterMap f = (l.take j).filterMap f ++ (f (l[j]'hj)).toList := by
  rw [List.take_succ_eq_append_getElem hj, List.filterMap_append]
  congr 1
/-- Where the bytes of a scan's pairs lie. -/
def DScan (lo hi : Nat) (v : Value) (b : Nat) : Prop := lo ≤ b ∧ b < hi ∧ v.ownBlock ≠ some b
section
variable {w : World} {p : Nat} {F D : Nat → Prop} {B : Nat} {kv : Value} {cv : KeyS → Value} {L : LimS} {m r v : Int} {now : Nat} {g : KeyS → List Ver} {ks : List KeyS} {z : Sz}
set_option maxRecDepth 100000 in
set_option maxHeartbeats 2000000 in
theorem dScan_any (h : RawS w p F D B kv cv L m r v now g ks z) (lo hi : KeyS) (t : Nat) (hl : ks.length ≤ 1048576) (hri : RiseK ks) (hok : ∀ k, okLen (g k) ∧ rightC (g k) = true) :
    Calls Try.prog 64 #[ptrS p, .string (bs lo), .string (bs hi), .int .u64 t] w fun e w' => ∃ A c, e = .returned (.slice A (scanR g ks lo hi t).length c) ∧ ChP w' w.heap.size w'.heap.size A c (scanR g ks lo hi t) ∧ Below w.heap.size w w' := by
  have c9 := h.keys_
  have HM := Lib.hid (dMade_any h)
  obtain ⟨A0, c0, hkv, f1, f2, f3, f4⟩ := OwnG.form h.keys
  have HBt := Lib.hid (dBetween_any ks A0 c0 0 w.heap.size lo hi w (by omega) f1 f4 hri)
  have hbl : (betw ks lo hi).length ≤ 1048576 := Nat.le_trans (List.length_filter_le _ _) hl
  have HBL := Lib.hid hbl
  unfold scanR
  generalize betw ks lo hi = bl at *
  have HH := Lib.hid h
  have HOK := Lib.hid hok
  subst hkv
  clear h hok hl hri f1 f2 f3 f4 hbl
  have HRd : Hid (∀ (k : KeyS) (wr : World), Below w.heap.size w wr → Calls Try.prog 56 #[ptrS p, .string (bs k), .int .u64 t] wr (RetGetF (getH (g k) t) wr)) := Lib.hid fun k wr hb => dRead_any (HH.out.below hb) k t (HOK.out k).1 (HOK.out k).2
  clear HH HOK
  unfold ptrS at HM HRd ⊢
  go_enter Try.func64, Try.ntmps64
  go_wp2_with fail
  refine HM.out.mono ?_
  rintro e w' ⟨rfl, rfl⟩
  go_wp2_with fail
  refine HBt.out.mono ?_
  rintro e w0 ⟨⟨A1, c1, rfl, hr1⟩, rfl⟩
  have HR := Lib.hid hr1
  clear hr1 HM HBt
  go_wp2_with fail
  go_loopg [9, 25] bl.length (fun q u i wr => ∃ (j : Nat) (ms : List MP), j + q = bl.length ∧ i = .int .i64 j ∧ OwnG 118 2 mpCells wr w0.heap.size u ms ∧ ms.map MP.p = (bl.take j).filterMap (pairOf g t) ∧ (∀ x ∈ ms, SlD wr (DScan w0.heap.size wr.heap.size u) x.A x.c x.b) ∧ Below w0.heap.size w0 wr)
  case atStart => exact ⟨0, [], by omega, rfl, OwnG.none_ _ _ _ _ _, rfl, by simp, Below.refl _ _⟩
  case round =>
    obtain ⟨j, ms, hk, rfl, ho, hms, hin, hb⟩ := hrel
    have HK := Lib.hid hk
    have HO := Lib.hid ho
    have HMs := Lib.hid hms
    have HIn := Lib.hid hin
    have HB := Lib.hid hb
    have hble := HBL.out
    clear hk ho hms hin hb
    by_cases hj : j < bl.length
    · have hlt : decide ((j : Int) < (bl.length : Int)) = true := by simpa using hj
      have hlt2 : decide (j < bl.length) = true := by simpa using hj
      obtain ⟨b, o, rfl, _, hbh, hcell⟩ := (HR.out.below HB.out (Nat.le_refl _)).at_ kF hj
      have d0 := hcell 0 _ rfl
      simp only [Nat.add_zero, Nat.mul_one] at d0
      have HTk := Lib.hid (filterMap_take (pairOf g t) hj)
      have HLn := Lib.hid (show ms.length ≤ 1048576 by
        have h1 := List.length_filterMap_le (pairOf g t) (bl.take j)
        rw [← HMs.out, List.length_map] at h1
        have h2 := List.length_take_le j bl
        have := HBL.out
        have h3 : (bl.take j).length ≤ bl.length := by rw [List.length_take]; omega
        omega)
      have HCall := Lib.hid (HRd.out (bl[j]'hj) wr HB.out)
      have HPO : Hid (pairOf g t (bl[j]'hj) = (getH (g (bl[j]'hj)) t).map fun b => (bl[j]'hj, b)) := Lib.hid rfl
      clear hcell hbh
      generalize bl[j] = x at *
      generalize pairOf g t x = so at *
      generalize getH (g x) t = G at *
      go_wp2_with fail
      refine HCall.out.mono ?_
      rintro e w3 ⟨A3, c3, rfl, hs3, hb3⟩
      have HB3 := Lib.hid (HB.out.trans (hb3.mono HB.out.size))
      have HO3 := Lib.hid (HO.out.below hb3)
      have HS3 := Lib.hid hs3
      have hlt3 := HO.out.lt
      have HLt := Lib.hid hlt3
      have HB3' := Lib.hid hb3
      clear hs3 hb3 HCall hlt3
      cases G with
      | none =>
        simp only [Option.getD_none, Option.isSome_none] at HS3 ⊢
        have HT := Lib.hid (show (bl.take (j + 1)).filterMap (pairOf g t) = (bl.take j).filterMap (pairOf g t) by rw [HTk.out, HPO.out]; simp)
        clear HTk HPO
        go_wp2_with fail
        go_roundg (gk - 1)
        case measure => have := HK.out; omega
        case rel => exact ⟨j + 1, ms, by have := HK.out; omega, by go_num, HO3.out, by rw [HT.out]; exact HMs.out, fun y hy => (HIn.out y hy).step fun b hb => ⟨HB3'.out.block b hb.2.1, hb.1, Nat.lt_of_lt_of_le hb.2.1 HB3'.out.size, hb.2.2⟩, HB3.out⟩
      | some d =>
        simp only [Option.getD_some, Option.isSome_some] at HS3 ⊢
        have HT := Lib.hid (show (bl.take (j + 1)).filterMap (pairOf g t) = (bl.take j).filterMap (pairOf g t) ++ [(x, d)] by rw [HTk.out, HPO.out]; simp)
        clear HTk HPO
        go_wp2_with (at_builtin; refine append_row_at _ rfl _ _ 42 118 40 mpF pairInfoD Try.underlying42 rfl w0.heap.size _ ms rfl (HO3.out.allocs _) w3.heap.size (w3.heap.size + 1) ⟨w3.heap.size, 0, none⟩ 1 1 [⟨x, d, A3, c3⟩] rfl rfl (RowG.one (cs := mpCells) (heap_alloc_new w3 _)) (by have e8 := HLn.out; simp only [List.length_singleton]; unfold maxLen; omega) (by have e8 := HLn.out; simp only [List.length_singleton]; omega) (by have := HB3.out.size; simp; omega) ?_; intro v1 w5 ho5 hg5 hat5; have HO5 := Lib.hid ho5; have HG5 := Lib.hid hg5; have HA5 := Lib.hid hat5; have HB5 := Lib.hid ((HB3.out.alloc HB3.out.size (.cells #[.string (bs x), .slice A3 d.length c3] 118)).grown hg5 (by have := HB3.out.size; simp; omega) (fun k hk => (HO3.out.lt k hk).1)); clear ho5 hg5 hat5)
        go_roundg (gk - 1)
        case measure => have := HK.out; omega
        case rel =>
          have hs3 := HB3'.out.size
          have hs5 : w3.heap.size + 1 ≤ w5.heap.size := by have := HG5.out.size; simpa using this
          have hfar : ∀ b, w0.heap.size ≤ b → b < w3.heap.size → u9.ownBlock ≠ some b → w5.heap[b]? = w3.heap[b]? ∧ DScan w0.heap.size w5.heap.size v1 b := fun b h1 h2 h3 => by
            refine ⟨?_, h1, by omega, fun e => ?_⟩
            · rw [HG5.out.block b (by simp; omega) (fun e => h3 e.symm)]
              exact ((Below.refl w3.heap.size w3).alloc (Nat.le_refl _) _).block b h2
            · rcases HA5.out with h4 | h4
              · exact h3 (h4.symm.trans e)
              · rw [h4] at e
                injection e with e
                simp at e
                omega
          refine ⟨j + 1, ms ++ [⟨x, d, A3, c3⟩], by have := HK.out; omega, by go_num, HO5.out, by rw [HT.out, List.map_append, HMs.out]; rfl, fun y hy => ?_, HB5.out⟩
          rcases List.mem_append.1 hy with hy | hy
          · refine (HIn.out y hy).step fun b hb => ?_
            obtain ⟨k1, k2⟩ := hfar b hb.1 (Nat.lt_of_lt_of_le hb.2.1 hs3) hb.2.2
            exact ⟨k1.trans (HB3'.out.block b hb.2.1), k2⟩
          · rw [List.mem_singleton] at hy
            subst hy
            refine (HS3.out.slD (D := fun b => wr.heap.size ≤ b ∧ b < w3.heap.size) fun b h1 h2 => ⟨h1, h2⟩).step fun b hb => ?_
            exact hfar b (Nat.le_trans HB.out.size hb.1) hb.2 fun e => by have := (HLt.out b e).2; omega
    · have hj' : j = bl.length := by have := HK.out; omega
      subst hj'
      have hlt : decide ((bl.length : Int) < (bl.length : Int)) = false := by simp
      have hlt2 : decide (bl.length < bl.length) = false := by simp
      have hms := HMs.out
      rw [List.take_length] at hms
      obtain ⟨A9, c9, rfl, k1, k2, k3, k4⟩ := HO.out.form
      have HQ := Lib.hid (And.intro k1 (And.intro k2 (And.intro k3 k4)))
      have HMs2 := Lib.hid hms
      clear k1 k2 k3 k4 hms
      go_wp2
      go_ret
      rw [← HMs2.out]
      refine ⟨A9, c9, by simp only [List.length_map]; rfl, ⟨by rw [List.length_map]; exact HQ.out.1, HQ.out.2.1, HQ.out.2.2.1, ms, rfl, HQ.out.2.2.2, fun y hy => ?_⟩, HB.out⟩
      exact (HIn.out y hy).slI fun b hb => ⟨hb.1, hb.2.1⟩
end
end Go.Proofs.Ytooegjdppeiccaa
