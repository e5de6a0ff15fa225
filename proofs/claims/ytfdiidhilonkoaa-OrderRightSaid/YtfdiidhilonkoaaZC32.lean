import Derived.Test.YtfdiidhilonkoaaZC31
import Derived.Deep.AppendLies
set_option linter.unusedVariables false
/-
  Package order: Order.
-/
namespace Go.Proofs.Ytfdiidhilonkoaa
open Go.RowKit

/-- All that restOf made lies below B. -/
structure LtO (L : LayO) (B : Nat) : Prop where
  a : L.r < B ∧ L.d0 < B ∧ L.D < B ∧ L.q1 < B ∧ L.g1 < B ∧ L.h1 < B ∧ L.q2 < B ∧ L.g2 < B ∧ L.h2 < B ∧ L.a < B
section
variable {w w' : World} {L : LayO} {lo B : Nat} {A : Option Addr} {c : Nat} {ms : List MZ} {dn : Nat → Bool} {p1 p2 : Nat → Nat}
theorem RestE.lt (h : RestE w L lo A c ms dn p1 p2) : LtO L w.heap.size := by
  obtain ⟨_, n1, n2, ah, hM⟩ := h
  exact ⟨lt_of_heap hM.box, lt_of_heap hM.d0, hM.bools.lt, lt_of_heap hM.r1.box, hM.r1.pl.lt, hM.r1.nx.lt, lt_of_heap hM.r2.box, hM.r2.pl.lt, hM.r2.nx.lt, hM.ahd.lt⟩
theorem RestE.far (h : RestE w L lo A c ms dn p1 p2) (hB : LtO L B) (hlo : lo ≤ B) (hk : ∀ k, k < B → w'.heap[k]? = w.heap[k]?) (hs : w.heap.size ≤ w'.heap.size) : RestE w' L lo A c ms dn p1 p2 := by
  obtain ⟨hl, n1, n2, ah, hM⟩ := h
  obtain ⟨a1, a2, a3, a4, a5, a6, a7, a8, a9, a10⟩ := hB.a
  exact ⟨Nat.le_trans hl hs, n1, n2, ah, hM.ok, (hk _ a1).trans hM.box, (hk _ a2).trans hM.d0, hM.bools.keep (hk _ a3), ⟨(hk _ a4).trans hM.r1.box, hM.r1.pl.keep (hk _ a5), hM.r1.nx.keep (hk _ a6)⟩, ⟨(hk _ a7).trans hM.r2.box, hM.r2.pl.keep (hk _ a8), hM.r2.nx.keep (hk _ a9)⟩, hM.ahd.keep (hk _ a10),
    hM.row.kept (fun g hg => hk _ (by omega)) (Nat.le_refl _), hM.few, hM.len, hM.by1, hM.by2, hM.nx1, hM.nx2, hM.ahp⟩
theorem mvO.lt {k : Nat} (hB : LtO L B) (h : mvO L k) : k < B := by
  obtain ⟨a1, a2, a3, a4, a5, a6, a7, a8, a9, a10⟩ := hB.a
  rcases h with rfl | rfl | rfl | rfl <;> assumption
theorem OwnG.mut {k : Nat} {α : Type} {cs : α → List Value} {v : Value} {l : List α} {e : TypeId} (h : OwnG e k cs w B v l) (hB : LtO L B) (hm : Mut (mvO L) w w') : OwnG e k cs w' B v l :=
  h.keep (fun g hg hlt => hm.block g hlt fun q => by have := mvO.lt hB q; have := (h.lt g hg).1; omega) (Nat.le_refl _)
end
theorem cont_add (out : List Nat) (k : Nat) : updB (fun x => out.contains x) k = fun x => (out ++ [k]).contains x := funext fun x => by
  unfold updB
  rw [Bool.eq_iff_iff]
  simp [or_comm]
theorem cand_free {l : List DoneZ} {out : List Nat} {k : Nat} (h : out.contains k = false) : candO l out k = freeD l (fun x => out.contains x) k := by
  unfold candO
  rw [h, free_is]
  rfl
theorem cand_laid {l : List DoneZ} {out : List Nat} {k : Nat} (h : out.contains k = true) : candO l out k = false := by
  unfold candO
  rw [h]
  rfl
set_option maxRecDepth 100000 in
set_option maxHeartbeats 16000000 in
theorem dOrder_any (K : SpanC) (ms : List MZ) (A : Option Addr) (c : Nat) (w : World) (hr : ChZ w w.heap.size A c ms) (hf : ∀ x ∈ ms, fewMZ x) (hl : ms.length ≤ 1000) :
    Calls Try.prog 13 #[.slice A ms.length c] w (OrdV (orderL (dz ms)) w) := by
  have q9 : (ms.length : Int) ≤ 1000 := by omega
  have HK := Lib.hid K
  have HR := Lib.hid (dRestOf_any ms A c w hr hf hl)
  have HF1 := Lib.hid (fun (V : World) (L : LayO) (lo : Nat) (dn : Nat → Bool) (p1 p2 : Nat → Nat) (hV : RestE V L lo A c ms dn p1 p2) => from1_any hV)
  have HIn := Lib.hid inZInfo
  clear hr hf K
  go_enter Try.func13, Try.ntmps13
  go_wp2_with fail
  go_step3
  go_wp2_with fail
  (with_reducible refine HR.out.mono ?_)
  rintro r w1 ⟨L, p1, p2, rfl, hE, hO, hb⟩
  have HLt := Lib.hid hE.lt
  have HE1 := Lib.hid hE
  have HO := Lib.hid hO
  have HB1 := Lib.hid hb
  have HBy := Lib.hid (show ByEnd (dz ms) p1 from by obtain ⟨_, n1, n2, ah, hM⟩ := hE; exact hM.by1)
  clear hE hO hb HR
  go_wp2_with fail
  go_step3
  go_wp2_with fail
  go_loopg [5, 6, 7] ms.length (fun q v _ _ wr => ∃ out : List Nat, out.length + q = ms.length ∧ OwnG 3 1 inZ wr w1.heap.size v (out.map fun n : Nat => (n : Int)) ∧ RestE wr L w.heap.size A c ms (fun x => out.contains x) p1 p2 ∧ orderL (dz ms) = orderO (dz ms) q out ∧ w1.heap.size ≤ wr.heap.size ∧ Below w.heap.size w wr)
  case atStart => exact ⟨[], by simp, OwnG.none_ _ _ _ _ _, by simpa using HE1.out, by unfold orderL; rw [dz_len], Nat.le_refl _, HB1.out⟩
  case round =>
    obtain ⟨out, hq, hOwn, hE, hOr, hs1, hb⟩ := hrel
    obtain ⟨g0, hg0⟩ : ∃ y, y = gk := ⟨_, rfl⟩
    subst hg0
    obtain ⟨wo, hwo⟩ : ∃ y, y = wr := ⟨_, rfl⟩
    subst hwo
    obtain ⟨A5, c5, rfl, ha1, ha2, ha3, ha4⟩ := hOwn.form
    rw [List.length_map] at hOwn ha1
    rw [List.length_map]
    obtain ⟨m, hm⟩ : ∃ m, m = out.length := ⟨_, rfl⟩
    rw [← hm] at hOwn ha1 hq
    rw [← hm]
    have HMm := Lib.hid hm
    have HQ := Lib.hid hq
    have HOw := Lib.hid hOwn
    have HAd := Lib.hid (And.intro ha1 (And.intro ha2 (And.intro ha3 ha4)))
    have HE := Lib.hid hE
    have HOr := Lib.hid hOr
    have HS1 := Lib.hid hs1
    have HB := Lib.hid hb
    have hmn : m ≤ ms.length := by omega
    clear hm hq hOwn ha1 ha2 ha3 ha4 hOr hs1 hb
    by_cases hlt0 : m < ms.length
    · have hlt : decide ((m : Int) < (ms.length : Int)) = true := by simpa using hlt0
      have hlt2 : decide (m < ms.length) = true := by simpa using hlt0
      obtain ⟨_, n1, n2, ah, hM⟩ := hE
      obtain ⟨rc0, rc1, rc2, rc3, rc4, rc5, rc6, rc7⟩ := hM.rcells
      have HC := Lib.hid (HF1.out wo L w.heap.size _ p1 p2 HE.out 0 0 rfl (Nat.zero_le _))
      have HM0 := Lib.hid hlt0
      clear hM hlt0
      go_wp2_with fail
      (with_reducible refine HC.out.mono ?_)
      rintro r w4 ⟨e, rfl, hf, hE4, hm4⟩
      have HE4 := Lib.hid hE4
      have HMu4 := Lib.hid hm4
      have HCn := Lib.hid (show ∀ j, j < e → candO (dz ms) out (p1 j) = false from fun j hj => cand_laid (hf.2.2.1 j (Nat.zero_le _) hj))
      have HUn := Lib.hid (show e < ms.length → out.contains (p1 e) = false from fun q => hf.2.2.2.resolve_left (by omega))
      have g4 := hf.2.1
      clear hf hE4 hm4 HC rc0 rc1 rc2 rc3 rc4 rc5 rc6 rc7
      go_wp2_with fail
      go_loopg [5, 6, 7] ms.length (fun z v iv _ wq => ∃ k : Nat, v = .slice A5 m c5 ∧ iv = .int .i64 (k : Nat) ∧ k ≤ ms.length ∧ ms.length ≤ k + z ∧ (∀ j, j < k → candO (dz ms) out (p1 j) = false) ∧ (k < ms.length → out.contains (p1 k) = false) ∧ RestE wq L w.heap.size A c ms (fun x => out.contains x) p1 p2 ∧ Mut (mvO L) wo wq)
      case atStart => exact ⟨e, rfl, rfl, g4, by omega, HCn.out, HUn.out, HE4.out, HMu4.out⟩
      case round =>
        obtain ⟨k, rfl, rfl, k1, k2, kc, ku, kE, kM⟩ := hrel
        have HKz := Lib.hid k2
        have HKc := Lib.hid kc
        have HKu := Lib.hid ku
        have HKE := Lib.hid kE
        have HKM := Lib.hid kM
        have HKl := Lib.hid k1
        clear kc ku kM k2 HCn HUn HE4 HMu4 k1
        by_cases hkn : k < ms.length
        · have hlt3 : decide ((k : Int) < (ms.length : Int)) = true := by simpa using hkn
          have hlt4 : decide (k < ms.length) = true := by simpa using hkn
          have q7 : (k : Int) < (ms.length : Int) := by omega
          have hp1 := RestE.in1 HKE.out hkn
          obtain ⟨_, n1, n2, ah, hM⟩ := kE
          obtain ⟨rc0, rc1, rc2, rc3, rc4, rc5, rc6, rc7⟩ := hM.rcells
          have pc := hM.r1.pl.cell hkn
          have HFr := Lib.hid (dFree_any HK.out wr L w.heap.size A c ms (fun x => out.contains x) p1 p2 HKE.out (p1 k) hp1 (HKu.out hkn))
          have HLay := Lib.hid (fun (V : World) (hV : RestE V L w.heap.size A c ms (fun x => out.contains x) p1 p2) => layE_any hV hp1)
          have HCk := Lib.hid (cand_free (l := dz ms) (HKu.out hkn))
          have HBest := Lib.hid (fun (q : candO (dz ms) out (p1 k) = true) => best_row HBy.out (laid := out) (by rw [dz_len]; exact hkn) q HKc.out)
          have HNot := Lib.hid (fun (q : candO (dz ms) out (p1 k) = false) => (show ∀ j, j < k + 1 → candO (dz ms) out (p1 j) = false from fun j hj => by
            by_cases z : j < k
            · exact HKc.out j z
            · have : j = k := by omega
              subst this
              exact q))
          have HP1 := Lib.hid hp1
          have HKn := Lib.hid hkn
          clear hM hp1 hkn HBy HKc HKu
          generalize p1 k = pk at *
          have HPI := Lib.hid (show (pk : Int) < (ms.length : Int) by have := HP1.out; omega)
          go_wp2_with fail
          (with_reducible refine HFr.out.mono ?_)
          rintro r w6 ⟨rfl, hE6, hm6⟩
          have HM6 := Lib.hid (Mut.two HKM.out hm6)
          have HE6 := Lib.hid hE6
          obtain ⟨_, n1, n2, ah, hM⟩ := hE6
          clear rc0 rc1 rc2 rc3 rc4 rc5 rc6 rc7 pc hm6 HFr HKE HKM
          obtain ⟨rc0, rc1, rc2, rc3, rc4, rc5, rc6, rc7⟩ := hM.rcells
          clear hM
          cases hfr : freeD (dz ms) (fun x => out.contains x) pk with
          | false =>
            have HN := Lib.hid (HNot.out (by rw [HCk.out, hfr]))
            have HC9 := Lib.hid (HF1.out w6 L w.heap.size _ p1 p2 HE6.out ((k : Int) + 1) (k + 1) (by omega) HKn.out)
            clear hfr HNot HBest HLay
            go_wp2_with fail
            (with_reducible refine HC9.out.mono ?_)
            rintro r w7 ⟨e2, rfl, hf, hE7, hm7⟩
            have HE7 := Lib.hid hE7
            have HM7 := Lib.hid (Mut.two HM6.out hm7)
            have HCa := Lib.hid (show ∀ j, j < e2 → candO (dz ms) out (p1 j) = false from fun j hj => by
              by_cases z : j < k + 1
              · exact HN.out j z
              · exact cand_laid (hf.2.2.1 j (by omega) hj))
            have HUa := Lib.hid (show e2 < ms.length → out.contains (p1 e2) = false from fun q => hf.2.2.2.resolve_left (by omega))
            have g1 := hf.1
            have g2 := hf.2.1
            clear hf hE7 hm7 HC9 rc0 rc1 rc2 rc3 rc4 rc5 rc6 rc7
            go_wp2_with fail
            go_roundg (gk - 1)
            case measure => have := HKz.out; omega
            case rel => exact ⟨e2, rfl, rfl, g2, by have := HKz.out; omega, HCa.out, HUa.out, HE7.out, HM7.out⟩
          | true =>
            have HB1' := Lib.hid (HBest.out (by rw [HCk.out, hfr]))
            have HLy := Lib.hid (HLay.out w6 HE6.out)
            clear hfr HNot HBest HLay
            go_wp2_with fail
            (with_reducible refine HLy.out.mono ?_)
            rintro r w7 ⟨rfl, hE7, hm7⟩
            have HM7 := Lib.hid (Mut.two HM6.out hm7)
            have HE7 := Lib.hid hE7
            have HO7 := Lib.hid (OwnG.mut HOw.out HLt.out HM7.out)
            have HS7 := Lib.hid (Nat.le_trans HS1.out HM7.out.size)
            have HB7 := Lib.hid (HB.out.trans ((mvO.below HO.out HM7.out HB.out.size).mono (Nat.le_refl _)))
            have HSw := Lib.hid HB1.out.size
            clear hE7 hm7 HLy rc0 rc1 rc2 rc3 rc4 rc5 rc6 rc7
            go_wp2_with (at_builtin; refine append_row _ rfl _ _ 23 3 8 inZF HIn.out Try.underlying23 rfl w1.heap.size _ (out.map fun n : Nat => (n : Int)) rfl (HO7.out.allocs _) w7.heap.size (w7.heap.size + 1) (some ⟨w7.heap.size, 0, none⟩) 1 1 [(pk : Int)] rfl rfl (fun e => by cases e) (RowG.one (cs := inZ) (heap_alloc_new w7 _)) (by have := HMm.out; simp only [List.length_singleton, List.length_map]; unfold maxLen; omega) (by have := HMm.out; simp only [List.length_singleton, List.length_map]; omega) (by have := HS7.out; simp; omega) ?_; intro v8 w8 ho8 hg8; have HO8 := Lib.hid ho8; have HG8 := Lib.hid hg8; clear ho8 hg8)
            have HE8 := Lib.hid (RestE.far HE7.out HLt.out HSw.out (fun k hk => (HG8.out.block k (by have := HS7.out; simp; omega) (fun e => by have := (HO7.out.lt k e.symm).1; omega)).trans (((Below.refl w7.heap.size w7).alloc (Nat.le_refl _) _).block k (by have := HS7.out; omega))) (Nat.le_trans (by simp) HG8.out.size))
            have HB8 := Lib.hid ((HB7.out.alloc HB7.out.size (.cells #[.int .i64 (pk : Int)] 3)).grown HG8.out (by have := HB7.out.size; simp; omega) (fun k hk => Nat.le_trans HSw.out (HO7.out.lt k hk).1))
            have HS8 := Lib.hid (Nat.le_trans HS7.out (Nat.le_trans (by simp) HG8.out.size))
            go_wp2_with fail
            go_roundg (g0 - 1)
            case measure => have := HQ.out; have := HM0.out; omega
            case rel => exact ⟨out ++ [pk], by have := HQ.out; have := HM0.out; have := HMm.out; simp; omega, by rw [List.map_append]; exact HO8.out, by rw [← cont_add]; exact HE8.out, by
              rw [HOr.out]
              obtain ⟨g9, hg9⟩ : ∃ g9, g0 = g9 + 1 := ⟨g0 - 1, by have := HQ.out; have := HM0.out; omega⟩
              rw [hg9]
              show orderO (dz ms) (g9 + 1) out = orderO (dz ms) g9 (out ++ [pk])
              conv => lhs; unfold orderO
              rw [HB1'.out], HS8.out, HB8.out⟩
        · have hlt3 : decide ((k : Int) < (ms.length : Int)) = false := by simpa using hkn
          have hlt4 : decide (k < ms.length) = false := by simpa using hkn
          have HRes := Lib.hid (show orderL (dz ms) = none by
            rw [HOr.out]
            obtain ⟨g9, hg9⟩ : ∃ g9, g0 = g9 + 1 := ⟨g0 - 1, by have := HQ.out; have := HM0.out; omega⟩
            rw [hg9]
            unfold orderO
            rw [best_no HBy.out (fun j hj => HKc.out j (by rw [dz_len] at hj; omega))])
          have HB9 := Lib.hid (HB.out.trans ((mvO.below HO.out HKM.out HB.out.size).mono (Nat.le_refl _)))
          clear kE hkn
          go_wp2_with fail
          rw [Exit.noGoto_ret]
          refine bodyPost_ret (v := .tuple #[.slice none 0 0, .bool false]) (by simp [results, Try.results13, go_sem]) rfl ?_
          rw [HRes.out]
          exact ⟨fun _ => rfl, (fun l e => by cases e), HB9.out⟩
    · have hlt : decide ((m : Int) < (ms.length : Int)) = false := by simpa using hlt0
      have hlt2 : decide (m < ms.length) = false := by simpa using hlt0
      have HRes := Lib.hid (show orderL (dz ms) = some out by
        rw [HOr.out]
        have : g0 = 0 := by have := HQ.out; omega
        rw [this]
        rfl)
      clear hE hlt0
      go_wp2_with fail
      rw [Exit.noGoto_ret]
      refine bodyPost_ret (v := .tuple #[.slice A5 m c5, .bool true]) (by simp [results, Try.results13, go_sem]) rfl ?_
      rw [HRes.out]
      obtain ⟨k1, k2, k3, k4⟩ := HAd.out
      exact ⟨(fun e => by cases e), fun l e => by
        cases e
        exact ⟨A5, c5, by rw [HMm.out], by rw [← HMm.out]; exact k1, k2, k3, k4.wide HB1.out.size (Nat.le_refl _)⟩, HB.out⟩
end Go.Proofs.Ytfdiidhilonkoaa
