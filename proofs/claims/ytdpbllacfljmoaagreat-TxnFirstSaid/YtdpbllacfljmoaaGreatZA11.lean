import Derived.Test.YtdpbllacfljmoaaGreatZA10
import Derived.Deep.LoopGhost
import Derived.Deep.DeepCutAuto
set_option maxRecDepth 100000
set_option maxHeartbeats 16000000
set_option linter.unusedVariables false
namespace Go.Proofs.YtdpbllacfljmoaaGreat
open Go.RowKit
def BoxT (w wr : World) (F : Nat → Prop) (key : KeyS) (gone : Bool) (A : Option Addr) (n c : Nat) : Prop := (∀ g, F g → w.heap.size < g) ∧ wr.heap[w.heap.size]? = some (.cells #[.string (bs key), .bool gone, .slice A n c] 37 (0, 0))
section
variable {w wr wx : World} {F F' : Nat → Prop} {key : KeyS} {gone : Bool} {A : Option Addr} {n c : Nat}
theorem BoxT.lt (h : BoxT w wr F key gone A n c) : w.heap.size < wr.heap.size := q00 h.2
theorem BoxT.turn' (h : BoxT w wr F key gone A n c) (hm : Mut F wr wx) (hF : ∀ g, F' g → w.heap.size < g) : BoxT w wx F' key gone A n c := ⟨hF, (hm.block _ h.lt fun hf => by have := h.1 _ hf; omega).trans h.2⟩
theorem BoxT.turn (h : BoxT w wr F key gone A n c) (hm : Mut F wr wx) (hF : ∀ g, F' g → F g ∨ wr.heap.size ≤ g) : BoxT w wx F' key gone A n c := h.turn' hm fun g hg => by
 rcases hF g hg with h1 | h1
 ·exact h.1 g h1
 ·have := h.lt; omega
theorem BoxT.next (h : BoxT w wr F key gone A n c) (hb : Below wr.heap.size wr wx) : BoxT w wx F key gone A n c := h.turn (Below.mut hb F) fun _ hg => .inl hg
theorem BoxT.turnW {R : Nat → Prop} (h : BoxT w wr F key gone A n c) (hm : Mut F wr wx) (hup : ∀ g, F' g → w.heap.size ≤ g) (hF : ∀ g, F' g → F g ∨ wr.heap.size ≤ g ∨ R g) (hR : ∀ g, R g → g < w.heap.size) : BoxT w wx F' key gone A n c := h.turn' hm fun g hg => by
 have h0 := hup g hg
 have h9 := h.lt
 rcases hF g hg with h1 | h1 | h1
 ·exact h.1 g h1
 ·omega
 ·have := hR g h1; omega
theorem qgI {w : World} {lo hi c : Nat} {A : Option Addr} {d : List UInt8} (h : SlI w lo hi A c d) {k e : Nat} {s : Option Nat} (hA : A = some ⟨k, e, s⟩) (hn : 0 < d.length) : k < hi := by
 obtain ⟨b, o, e', h1, h2, _⟩ := h.2.2.2 hn
 rw [hA] at e'
 injection e' with e'
 injection e' with e1
 omega
theorem BoxT.cells (h : BoxT w wr F key gone A n c) : wr.cell? ⟨w.heap.size, 0, none⟩ = some (.string (bs key)) ∧ wr.cell? ⟨w.heap.size, 1, none⟩ = some (.bool gone) ∧ wr.cell? ⟨w.heap.size, 2, none⟩ = some (.slice A n c) ∧ wr.frozen? ⟨w.heap.size, 0, none⟩ = false ∧ wr.frozen? ⟨w.heap.size, 1, none⟩ = false ∧ wr.frozen? ⟨w.heap.size, 2, none⟩ = false :=
 ⟨cell_of_row wr _ 0 _ _ _ h.2, cell_of_row wr _ 1 _ _ _ h.2, cell_of_row wr _ 2 _ _ _ h.2, q02 h.2 0, q02 h.2 1, q02 h.2 2⟩
theorem qfg (W : World) (b o : Nat) (v : Value) : Mut (fun g => g = b) W (W.setCell ⟨b, o, none⟩ v) := ⟨rfl, rfl, rfl, by simp [World.setCell], fun _ _ hne => q1d hne o v⟩
theorem BoxT.setG (h : BoxT w wr F key gone A n c) (g : Bool) : BoxT w (wr.setCell ⟨w.heap.size, 1, none⟩ (.bool g)) F key g A n c := ⟨h.1, by rw [q16 h.2 1 (.bool g)]; rfl⟩
theorem BoxT.dat (h : BoxT w wr F key gone A n c) (B : Option Addr) (m d : Nat) : BoxT w (wr.setCell ⟨w.heap.size, 2, none⟩ (.slice B m d)) F key gone B m d := ⟨h.1, by rw [q16 h.2 2 (.slice B m d)]; rfl⟩
end
theorem q7f {b : q06} {id : Int} {x : Wr} (he : (q0m b id x).2.e = 0) : ∃ t, ofT b id = some t ∧ ofT (q0m b id x).1 id = some ⟨t.id, t.began, t.start, t.marks, putW t.ws x⟩ := by
 unfold q0m at *
 cases ht : ofT b id with
 | none =>
  rw [ht] at he
  cases he
 | some t =>
  rw [ht] at he
  simp only at he ⊢
  split at he
  ·rename_i hc
   exact absurd he hc
  ·rename_i hc
   rw [if_neg hc]
   exact ⟨t, rfl, qaL ht rfl⟩
theorem qaj {b : q06} {id y : Int} {x : Wr} {t : TxS} (h : ofT b y = some t) (hn : id ≠ y) : ofT (q0m b id x).1 y = some t := by
 unfold q0m
 cases hu : ofT b id with
 | none => exact h
 | some u =>
  simp only
  split
  ·exact h
  ·exact q6l h (by have := (q0J hu).2; show (u.id : Int) ≠ y; omega)
theorem qdF (l : List Wr) (x : Wr) : x ∈ putW l x := by unfold putW; simp
theorem qdA {L : LimT} {M : Nat} {b : q06} {wx wy : Wr} (h2 : OkTx L M (q0a L (q0a L b).1).1)
  (h3 : OkTx L M (q0m (q0a L (q0a L b).1).1 (((q0a L b).2.n : Nat) : Int) wx).1)
  (he : (q0m (q0a L (q0a L b).1).1 (((q0a L b).2.n : Nat) : Int) wx).2.e = 0)
  (hf : (q0m (q0m (q0a L (q0a L b).1).1 (((q0a L b).2.n : Nat) : Int) wx).1 (((q0a L (q0a L b).1).2.n : Nat) : Int) wy).2.e = 0) :
  (((q0a L b).2.n : Nat) : Int) ≠ (((q0a L (q0a L b).1).2.n : Nat) : Int) ∧ ∃ tx ty, ofT (q0m (q0m (q0a L (q0a L b).1).1 (((q0a L b).2.n : Nat) : Int) wx).1 (((q0a L (q0a L b).1).2.n : Nat) : Int) wy).1 (((q0a L b).2.n : Nat) : Int) = some tx ∧ wx ∈ tx.ws ∧
   ofT (q0m (q0m (q0a L (q0a L b).1).1 (((q0a L b).2.n : Nat) : Int) wx).1 (((q0a L (q0a L b).1).2.n : Nat) : Int) wy).1 (((q0a L (q0a L b).1).2.n : Nat) : Int) = some ty ∧ wy ∈ ty.ws := by
 obtain ⟨tx, hx1, hx2⟩ := q7f he
 obtain ⟨ty, hy1, hy2⟩ := q7f hf
 have hx0 := h2.last tx (q0J hx1).1
 have hxi := (q0J hx1).2
 have hy0 := h3.last ty (q0J hy1).1
 have hyi := (q0J hy1).2
 have hxy : (((q0a L b).2.n : Nat) : Int) ≠ (((q0a L (q0a L b).1).2.n : Nat) : Int) := by
  by_cases q1 : L.live ≤ (b.live.length : Int)
  ·have e : (q0a L b).2.n = 0 := by rw [q9O q1]; rfl
   rw [e] at hxi
   omega
  ·have e : (q0a L b).2.n = b.last + 1 := by unfold q0a; rw [if_neg q1]
   have e2 : (q0a L b).1.last = b.last + 1 := by unfold q0a; rw [if_neg q1]
   by_cases q2 : L.live ≤ ((q0a L b).1.live.length : Int)
   ·have e3 : (q0a L (q0a L b).1).2.n = 0 := by rw [q9O q2]; rfl
    rw [e3] at hyi
    omega
   ·have e3 : (q0a L (q0a L b).1).2.n = (q0a L b).1.last + 1 := by
     generalize (q0a L b).1 = b1 at *
     unfold q0a
     rw [if_neg q2]
    rw [e, e3, e2]
    omega
 exact ⟨hxy, _, _, qaj hx2 (fun q => hxy q.symm), qdF _ _, hy2, qdF _ _⟩
namespace txnFirst
theorem walk {St : q2B} (K : TxnC St) (a b : List OpT) (A B : Option Addr) (c d : Nat) (x : Wr) (XA : Option Addr) (xc : Nat) (data : List UInt8) (D : Option Addr) (dc : Nat) (w : World) (ha : ChOT w w.heap.size A c a) (hb : ChOT w w.heap.size B d b)
  (hkey : x.key.length ≤ maxLen) (hxd : SlI w 0 w.heap.size XA xc x.dat) (hdd : SlI w 0 w.heap.size D dc data) :
  Calls Tryz.prog 5 #[.slice A a.length c, .slice B b.length d, q39 x XA xc, .slice D data.length dc] w fun r w' => r = .returned (.bool true) ∧ Below w.heap.size w w' := by
 obtain ⟨key, gone, dat⟩ := x
 simp only at hkey hxd
 unfold q39
 simp only
 obtain ⟨w0, hw0⟩ : ∃ y, w.alloc (.cells #[.string (bs key), .bool gone, .slice XA dat.length xc] 37) = y := ⟨_, rfl⟩
 have b0 : Below w.heap.size w w0 := by rw [← hw0]; exact (Below.refl _ w).alloc (Nat.le_refl _) _
 have s0 : w0.heap.size = w.heap.size + 1 := by rw [← hw0]; simp
 have x0 : w0.heap[w.heap.size]? = some (.cells #[.string (bs key), .bool gone, .slice XA dat.length xc] 37 (0, 0)) := by rw [← hw0]; exact heap_alloc_new w _
 have HX := qh (fun (W : World) (h : Below w0.heap.size w0 W) => (show W.cell? ⟨w.heap.size, 0, none⟩ = some (.string (bs key)) ∧ W.cell? ⟨w.heap.size, 1, none⟩ = some (.bool gone) ∧ W.cell? ⟨w.heap.size, 2, none⟩ = some (.slice XA dat.length xc) from
  have hx := q01 x0 h (q00 x0)
  ⟨cell_of_row W _ 0 _ _ _ hx, cell_of_row W _ 1 _ _ _ hx, cell_of_row W _ 2 _ _ _ hx⟩))
 have HX0 := qh x0
 have HS0 := qh s0
 have HL := qh (qbD K w0)
 have HFA := qh (q8k ((ha.below b0 (Nat.le_refl _) b0.size)))
 have HFB := qh (q8k ((hb.below b0 (Nat.le_refl _) b0.size)))
 have hb6 := Below.refl w0.heap.size w0
 have HB0 := qh b0
 have HW0 := qh hw0
 have hks := hkey
 rw [← q1u] at hks
 unfold maxLen at hks
 have hdl : dat.length ≤ 9223372036854775807 := by have := hxd.1; have := hxd.2.1; unfold maxLen at *; omega
 have hel : data.length ≤ 9223372036854775807 := by have := hdd.1; have := hdd.2.1; unfold maxLen at *; omega
 clear s0 x0 hw0
 by_cases fa : fewT a = true
 ·rw [fa] at HFA
  by_cases fb : fewT b = true
  ·rw [fb] at HFB
   by_cases hk : 300 < (bs key).size
   ·have d1 : decide (300 < ((bs key).size : Int)) = true := by rw [decide_eq_true_iff]; omega
    have d2 : decide (300 < (bs key).size) = true := by rw [decide_eq_true_iff]; omega
    clear K ha hb fa fb hk hkey hxd hdd b0
    go_enter Tryz.func5, Tryz.ntmps5
    go_upto_region 1 with fail
    rw [HW0.out]
    clear HW0
    go_wp2_with (first
     | (go_at_call 12; (with_reducible refine (HL.out _ (by assumption)).mono ?_); rintro r w' ⟨rfl, hb6⟩)
     | (go_at_call 13; (with_reducible refine (HFA.out _ (by assumption)).mono ?_); rintro r w' ⟨rfl, hb6⟩; obtain ⟨z0, z1, z2⟩ := HX.out _ hb6)
     | (go_at_call 13; (with_reducible refine (HFB.out _ (by assumption)).mono ?_); rintro r w' ⟨rfl, hb6⟩; obtain ⟨z0, z1, z2⟩ := HX.out _ hb6))
    go_ret
    exact ⟨rfl, HB0.out.trans (hb6.mono HB0.out.size)⟩
   ·have d1 : decide (300 < ((bs key).size : Int)) = false := by rw [decide_eq_false_iff_not]; omega
    have d2 : decide (300 < (bs key).size) = false := by rw [decide_eq_false_iff_not]; omega
    by_cases hq : 5000 < dat.length
    ·have d3 : decide (5000 < (dat.length : Int)) = true := by rw [decide_eq_true_iff]; omega
     have d4 : decide (5000 < dat.length) = true := by rw [decide_eq_true_iff]; omega
     clear K ha hb fa fb hk hkey hxd hdd b0 hq
     go_enter Tryz.func5, Tryz.ntmps5
     go_upto_region 1 with fail
     rw [HW0.out]
     clear HW0
     go_wp2_with (first
      | (go_at_call 12; (with_reducible refine (HL.out _ (by assumption)).mono ?_); rintro r w' ⟨rfl, hb6⟩)
      | (go_at_call 13; (with_reducible refine (HFA.out _ (by assumption)).mono ?_); rintro r w' ⟨rfl, hb6⟩; obtain ⟨z0, z1, z2⟩ := HX.out _ hb6)
      | (go_at_call 13; (with_reducible refine (HFB.out _ (by assumption)).mono ?_); rintro r w' ⟨rfl, hb6⟩; obtain ⟨z0, z1, z2⟩ := HX.out _ hb6))
     go_ret
     exact ⟨rfl, HB0.out.trans (hb6.mono HB0.out.size)⟩
    ·have d3 : decide (5000 < (dat.length : Int)) = false := by rw [decide_eq_false_iff_not]; omega
     have d4 : decide (5000 < dat.length) = false := by rw [decide_eq_false_iff_not]; omega
     by_cases hr : 5000 < data.length
     ·have d5 : decide (5000 < (data.length : Int)) = true := by rw [decide_eq_true_iff]; omega
      have d6 : decide (5000 < data.length) = true := by rw [decide_eq_true_iff]; omega
      clear K ha hb fa fb hk hkey hxd hdd b0 hq hr
      go_enter Tryz.func5, Tryz.ntmps5
      go_upto_region 1 with fail
      rw [HW0.out]
      clear HW0
      go_wp2_with (first
       | (go_at_call 12; (with_reducible refine (HL.out _ (by assumption)).mono ?_); rintro r w' ⟨rfl, hb6⟩)
       | (go_at_call 13; (with_reducible refine (HFA.out _ (by assumption)).mono ?_); rintro r w' ⟨rfl, hb6⟩; obtain ⟨z0, z1, z2⟩ := HX.out _ hb6)
       | (go_at_call 13; (with_reducible refine (HFB.out _ (by assumption)).mono ?_); rintro r w' ⟨rfl, hb6⟩; obtain ⟨z0, z1, z2⟩ := HX.out _ hb6))
      go_ret
      exact ⟨rfl, HB0.out.trans (hb6.mono HB0.out.size)⟩
     ·have d5 : decide (5000 < (data.length : Int)) = false := by rw [decide_eq_false_iff_not]; omega
      have d6 : decide (5000 < data.length) = false := by rw [decide_eq_false_iff_not]; omega
      obtain ⟨fwa, fla⟩ := qax fa
      obtain ⟨fwb, flb⟩ := qax fb
      have hkl : key.length ≤ 300 := by rw [q1u] at hk; omega
      have HBg : Hid (∀ W, Below w0.heap.size w0 W → Calls Tryz.prog 36 #[] W fun r w' => r = .returned (limT BigT) ∧ Below w0.heap.size w0 w') := qh (qc7 w0)
      have HMd : Hid (∀ W, Below w0.heap.size w0 W → Calls Tryz.prog 35 #[limT BigT] W fun r W' => ∃ p F, r = .returned (ptrS p) ∧ RunT St w W' p F BigT q3t 0 ∧ BoxT w W' F key gone XA dat.length xc) := qh fun W h =>
       (q8H K BigT w.heap.size W (Nat.le_trans b0.size h.size) q1S.1 q1S.2.1 q1S.2.2.1 q1S.2.2.2.1 q1S.2.2.2.2.1 q1S.2.2.2.2.2.1 q1S.2.2.2.2.2.2).mono fun r W' ⟨h1, h2⟩ => by
        rw [if_pos qao] at h2
        obtain ⟨p, F, e, h3, h4⟩ := h2
        have hb : Below w0.heap.size w0 W' := h.trans (h1.mono h.size)
        exact ⟨p, F, e, RunT.of K h3 (b0.trans (hb.mono b0.size)), fun g hg => by have := h4 g hg; have := h.size; have := HS0.out; omega, q01 HX0.out hb (q00 HX0.out)⟩
      have HSmA : Hid (q1X ⟨key, false, dat⟩) := qh ⟨hkl, Nat.le_of_not_lt hq⟩
      have HSmB : Hid (q1X ⟨key, false, data⟩) := qh ⟨hkl, Nat.le_of_not_lt hr⟩
      have HDA : Hid (∀ (W : World) (F : Nat → Prop), Below w.heap.size w W → ByS W (fun k => k < w.heap.size ∨ (w.heap.size ≤ k ∧ ¬ F k)) XA xc dat) := qh fun W F hb => by
       have hd := hxd.keep (w' := W) fun g _ hg => hb.block g hg
       exact ⟨hd.1, hd.2.1, hd.2.2.1, RdS.of_rd hd.2.2.2 fun g _ h2 => .inl h2⟩
      have HDB : Hid (∀ (W : World) (F : Nat → Prop), Below w.heap.size w W → ByS W (fun k => k < w.heap.size ∨ (w.heap.size ≤ k ∧ ¬ F k)) D dc data) := qh fun W F hb => by
       have hd := hdd.keep (w' := W) fun g _ hg => hb.block g hg
       exact ⟨hd.1, hd.2.1, hd.2.2.1, RdS.of_rd hd.2.2.2 fun g _ h2 => .inl h2⟩
      have HNA : Hid (∀ g, (0 < dat.length ∧ ∃ d s, XA = some ⟨g, d, s⟩) → g < w.heap.size) := qh fun g ⟨hn, d, s, e⟩ => qgI hxd e hn
      have HRA := qh ha.2.2.2
      have HRB := qh hb.2.2.2
      have HWA := qh fwa
      have HWB := qh fwb
      have HK := qh K
      have HFlA := qh fla
      have HFlB := qh flb
      have hal : a.length ≤ 9223372036854775807 := by omega
      have hbl : b.length ≤ 9223372036854775807 := by omega
      clear fla flb ha hb fa fb hk hkey fwa fwb K hkl hxd hdd b0 hq hr HX0
      go_enter Tryz.func5, Tryz.ntmps5
      go_upto_region 1 with fail
      rw [HW0.out]
      clear HW0
      go_wp2_with (first
       | (go_at_call 12; (with_reducible refine (HL.out _ (by assumption)).mono ?_); rintro r w' ⟨rfl, hb6⟩)
       | (go_at_call 13; (with_reducible refine (HFA.out _ (by assumption)).mono ?_); rintro r w' ⟨rfl, hb6⟩; obtain ⟨z0, z1, z2⟩ := HX.out _ hb6)
       | (go_at_call 13; (with_reducible refine (HFB.out _ (by assumption)).mono ?_); rintro r w' ⟨rfl, hb6⟩; obtain ⟨z0, z1, z2⟩ := HX.out _ hb6)
       | (go_at_call 36; (with_reducible refine (HBg.out _ (by assumption)).mono ?_); rintro r w' ⟨rfl, hb6⟩)
       | (go_at_call 35; (with_reducible refine (HMd.out _ (by assumption)).mono ?_); rintro r w5 ⟨p, F, rfl, hn, hv⟩; unfold ptrS))
      have HN5 := qh hn
      have HV5 := qh hv
      clear hn hv hb6 HL HFA HFB HBg HMd HX
      go_loopg [60] a.length (fun q i wr => ∃ (j : Nat) (st : q06) (F : Nat → Prop), j + q = a.length ∧ i = .int .i64 j ∧ RunT St w wr p F BigT st j ∧ BoxT w wr F key gone XA dat.length xc)
      case atStart => exact ⟨0, q3t, F, by omega, rfl, HN5.out, HV5.out⟩
      case round =>
       obtain ⟨j, st, G, hk, rfl, hn, hv⟩ := hrel
       have HJ := qh hk
       have HN := qh hn
       have HV := qh hv
       clear hk hn hv
       by_cases hj : j < a.length
       ·have hlt : decide ((j : Int) < (a.length : Int)) = true := by simpa using hj
        have hlt2 : decide (j < a.length) = true := by simpa using hj
        obtain ⟨b0, o0, rfl, _, x, hx, hok, c0, c1, c2, c3, c4, c5⟩ := (HRA.out.below HN.out.bel (Nat.le_refl _) (Nat.le_refl _)).at_ hj
        have hw := HWA.out _ (List.getElem_mem hj)
        rw [← hx] at hw
        clear hx
        obtain ⟨o, A', c'⟩ := x
        simp only at c0 c1 c2 c3 c4 c5 hw
        have hba := (Below.refl _ wr).alloc (Nat.le_refl _) (.cells #[.int .i64 o.what, .int .i64 o.id, .string (bs o.w.key), .bool o.w.gone, .slice A' o.w.dat.length c', .string (bs o.hi)] 39)
        have HVb := qh (HV.out.next hba)
        have HC := qh (qaw HK.out (HN.out.next HK.out hba) (by have := HFlA.out; omega) o A' c' hw.1 hw.2 (hok.below hba HN.out.bel.size (Nat.le_refl _)))
        clear hba hok hw
        unfold qdt ptrS at HC
        go_wp2_with fail
        refine HC.out.mono ?_
        rintro r w9 ⟨A9, B9, c9, d9, F9, rfl, _, hr9, hm9, hf9⟩
        have HR9 := qh hr9
        have HV9 := qh (HVb.out.turn hm9 hf9)
        clear hr9 hm9 hf9 HC c0 c1 c2 c3 c4 c5
        unfold q2a
        go_wp2_with fail
        go_roundg (gk - 1)
        case measure => have := HJ.out; omega
        case rel => exact ⟨j + 1, _, F9, by have := HJ.out; omega, by go_num, HR9.out, HV9.out⟩
       ·have hlt : decide ((j : Int) < (a.length : Int)) = false := by simpa using hj
        have HJ8 : Hid (j ≤ 80) := qh (by have := HJ.out; have := HFlA.out; omega)
        have hB := HK.out.begin_ w.heap.size p G BigT st wr HN.out.st (HN.out.few (by have := HJ8.out; omega))
        have hxn := q7k (L := BigT) (HN.out.few (by have := HJ8.out; omega))
        obtain ⟨x, hx⟩ : ∃ n, (q0a BigT st).2.n = n := ⟨_, rfl⟩
        rw [hx] at hB hxn
        have HXn := qh hx
        have HXI : Hid (I64 (x : Int)) := qh (q14 (by omega) (by omega))
        have HB := qh hB
        clear hB hx hxn
        unfold ptrS at HB
        go_wp2_with fail
        refine HB.out.mono ?_
        rintro r w6 ⟨rfl, F6, hQ⟩
        have R6 := qh (HN.out.begin_ HK.out hQ)
        have HV6 := qh (HV.out.turn hQ.2.1 hQ.2.2)
        clear HB hQ
        have hB := HK.out.begin_ w.heap.size p F6 BigT (q0a BigT st).1 w6 R6.out.st (R6.out.few (by have := HJ8.out; omega))
        have hyn := q7k (L := BigT) (R6.out.few (by have := HJ8.out; omega))
        obtain ⟨y, hy⟩ : ∃ n, (q0a BigT (q0a BigT st).1).2.n = n := ⟨_, rfl⟩
        rw [hy] at hB hyn
        have HYn := qh hy
        have HYI : Hid (I64 (y : Int)) := qh (q14 (by omega) (by omega))
        have HB := qh hB
        clear hB hy hyn
        unfold ptrS at HB
        go_wp2_with fail
        refine HB.out.mono ?_
        rintro r w7 ⟨rfl, F7, hQ⟩
        have R7 := qh (R6.out.begin_ HK.out hQ)
        have HV7 := qh (HV6.out.turn hQ.2.1 hQ.2.2)
        clear HB hQ
        have HPr := qh (fun h3 => qdA (L := BigT) (M := fitN BigT.marks) (b := st) (wx := ⟨key, false, dat⟩) (wy := ⟨key, false, data⟩) R7.out.ok h3)
        rw [HXn.out, HYn.out] at HPr
        generalize (q0a BigT (q0a BigT st).1).1 = b2 at *
        obtain ⟨q0, q1, q2, q3, q4, q5⟩ := HV7.out.cells
        obtain ⟨w8, hw8⟩ : ∃ y, w7.setCell ⟨w.heap.size, 1, none⟩ (.bool false) = y := ⟨_, rfl⟩
        have HW8 := qh hw8
        have hv8 := HV7.out.setG false
        have hm8 := qfg w7 w.heap.size 1 (.bool false)
        rw [hw8] at hv8 hm8
        have HV8 := qh hv8
        have R8 := qh (R7.out.aside HK.out hm8 (fun g hg => ⟨Nat.le_of_eq hg.symm, fun hf => by have := HV7.out.1 g hf; omega⟩))
        clear hw8 hv8 hm8
        go_upto_region 14 with fail
        rw [HW8.out]
        clear HW8 q0 q1 q2 q3 q4 q5
        obtain ⟨q0, q1, q2, q3, q4, q5⟩ := HV8.out.cells
        have hWr := HK.out.write w.heap.size p F7 BigT b2 x ⟨key, false, dat⟩ XA xc w8 R8.out.st (R8.out.few (by have := HJ8.out; omega)) HXI.out HSmA.out (HDA.out w8 F7 R8.out.bel)
        obtain ⟨e, he⟩ : ∃ e, (q0m b2 (x : Int) ⟨key, false, dat⟩).2.e = e := ⟨_, rfl⟩
        rw [he] at hWr
        have HE := qh he
        have HWr := qh hWr
        clear hWr he
        unfold ptrS q39 at HWr
        simp only at HWr
        go_wp2_with fail
        refine HWr.out.mono ?_
        rintro r w9 ⟨rfl, F9, hst9, hm9, hf9⟩
        have R9 := qh (R8.out.write HK.out HSmA.out hst9 hm9)
        have HV9 := qh (HV8.out.turnW hm9 (fun g hg => (HK.out.upto hst9 g hg).1) hf9 HNA.out)
        clear HWr hst9 hm9 hf9 q0 q1 q2 q3 q4 q5
        obtain ⟨q0, q1, q2, q3, q4, q5⟩ := HV9.out.cells
        obtain ⟨w10, hw10⟩ : ∃ y, w9.setCell ⟨w.heap.size, 2, none⟩ (.slice D data.length dc) = y := ⟨_, rfl⟩
        have HW10 := qh hw10
        have hv10 := HV9.out.dat D data.length dc
        have hm10 := qfg w9 w.heap.size 2 (.slice D data.length dc)
        rw [hw10] at hv10 hm10
        have HV10 := qh hv10
        have R10 := qh (R9.out.aside HK.out hm10 (fun g hg => ⟨Nat.le_of_eq hg.symm, fun hf => by have := HV9.out.1 g hf; omega⟩))
        clear hw10 hv10 hm10
        go_upto_region 16 with fail
        rw [HW10.out]
        clear HW10 q0 q1 q2 q3 q4 q5
        obtain ⟨q0, q1, q2, q3, q4, q5⟩ := HV10.out.cells
        have HPr2 := qh (HPr.out R9.out.ok)
        have hWr := HK.out.write w.heap.size p F9 BigT (q0m b2 (x : Int) ⟨key, false, dat⟩).1 y ⟨key, false, data⟩ D dc w10 R10.out.st (R10.out.few (by have := HJ8.out; omega)) HYI.out HSmB.out (HDB.out w10 F9 R10.out.bel)
        obtain ⟨f, hf⟩ : ∃ f, (q0m (q0m b2 (x : Int) ⟨key, false, dat⟩).1 (y : Int) ⟨key, false, data⟩).2.e = f := ⟨_, rfl⟩
        rw [hf] at hWr
        have HE2 := qh hf
        have HWr := qh hWr
        clear hWr hf HPr
        unfold ptrS q39 at HWr
        simp only at HWr
        go_wp2_with fail
        refine HWr.out.mono ?_
        rintro r w11 ⟨rfl, F11, hst11, hm11, hf11⟩
        have R11 := qh (R10.out.write HK.out HSmB.out hst11 hm11)
        clear HWr hst11 hm11 hf11 q0 q1 q2 q3 q4 q5
        have HPr3 : Hid (e = 0 → f = 0 → _) := qh fun h1 h2 => HPr2.out (HE.out.trans h1) (HE2.out.trans h2)
        clear HE HE2 HPr2
        generalize (q0m (q0m b2 (x : Int) ⟨key, false, dat⟩).1 (y : Int) ⟨key, false, data⟩).1 = b4 at *
        by_cases he0 : e = 0
        ·subst he0
         by_cases hf0 : f = 0
         ·subst hf0
          obtain ⟨hxy, tx, ty, hx1, hx2, hy1, hy2⟩ := HPr3.out rfl rfl
          have HXY := qh hxy
          have HX1 := qh hx1
          have HX2 := qh hx2
          have HY1 := qh hy1
          have HY2 := qh hy2
          clear hxy hx1 hx2 hy1 hy2 HPr3
          go_wp2_with fail
          go_loopg [97] b.length (fun q i wr => ∃ (j2 kk : Nat) (s' : q06) (F : Nat → Prop) (tx' ty' : TxS), j2 + q = b.length ∧ i = .int .i64 j2 ∧ kk ≤ 84 + j2 ∧ RunT St w wr p F BigT s' kk ∧ q4g b4 s' x tx tx' ∧ q4g b4 s' y ty ty')
          case atStart => exact ⟨0, _, b4, F11, tx, ty, by omega, rfl, by have := HJ8.out; omega, R11.out, ⟨HX1.out, rfl, rfl, rfl, fun _ => rfl⟩, ⟨HY1.out, rfl, rfl, rfl, fun _ => rfl⟩⟩
          case round =>
           obtain ⟨j2, kk, s2, F2, tx', ty', hk2, rfl, hkk, hn2, hsx, hsy⟩ := hrel
           have HJ2 := qh hk2
           have HKK := qh hkk
           have HN2 := qh hn2
           have HSx := qh hsx
           have HSy := qh hsy
           clear hk2 hkk hn2 hsx hsy
           by_cases hj2 : j2 < b.length
           ·have hlt3 : decide ((j2 : Int) < (b.length : Int)) = true := by simpa using hj2
            have hlt4 : decide (j2 < b.length) = true := by simpa using hj2
            obtain ⟨b0, o0, rfl, _, x', hx, hok, c0, c1, c2, c3, c4, c5⟩ := (HRB.out.below HN2.out.bel (Nat.le_refl _) (Nat.le_refl _)).at_ hj2
            have hw := HWB.out _ (List.getElem_mem hj2)
            rw [← hx] at hw
            clear hx
            obtain ⟨⟨what, id, ⟨wk, wg, wd⟩, hi⟩, A', c'⟩ := x'
            simp only at c0 c1 c2 c3 c4 c5 hw
            have hba := (Below.refl _ wr).alloc (Nat.le_refl _) (.cells #[.int .i64 what, .int .i64 id, .string (bs wk), .bool wg, .slice A' wd.length c', .string (bs hi)] 39)
            have HBA := qh hba
            have HC := qh (qaw HK.out (HN2.out.next HK.out hba) (by have := HFlB.out; have := HKK.out; omega) ⟨what, id, ⟨wk, wg, wd⟩, hi⟩ A' c' hw.1 hw.2 (hok.below hba HN2.out.bel.size (Nat.le_refl _)))
            clear hba hok hw
            unfold qdt ptrS at HC
            by_cases hi1 : id = (x : Int)
            ·subst hi1
             have HBX := HBA
             clear HC HBA
             go_wp2_with fail
             go_roundg (gk - 1)
             case measure => have := HJ2.out; omega
             case rel => exact ⟨j2 + 1, kk, s2, F2, tx', ty', by have := HJ2.out; omega, by go_num, by have := HKK.out; omega, HN2.out.next HK.out HBX.out, HSx.out, HSy.out⟩
            ·by_cases hi2 : id = (y : Int)
             ·subst hi2
              have g1 : ((y : Int) == (x : Int)) = false := by rw [beq_eq_false_iff_ne]; exact hi1
              have HBX := HBA
              clear HC HBA
              go_wp2_with fail
              go_roundg (gk - 1)
              case measure => have := HJ2.out; omega
              case rel => exact ⟨j2 + 1, kk, s2, F2, tx', ty', by have := HJ2.out; omega, by go_num, by have := HKK.out; omega, HN2.out.next HK.out HBX.out, HSx.out, HSy.out⟩
             ·have g1 : (id == (x : Int)) = false := by rw [beq_eq_false_iff_ne]; exact hi1
              have g2 : (id == (y : Int)) = false := by rw [beq_eq_false_iff_ne]; exact hi2
              have g3 : (id != (x : Int)) = true := bne_iff_ne.2 hi1
              have g4 : (id != (y : Int)) = true := bne_iff_ne.2 hi2
              obtain ⟨tx2, hsx2⟩ := q7c (F := FT BigT) (L := BigT) HN2.out.ok HSx.out.of ⟨what, id, ⟨wk, wg, wd⟩, hi⟩ (fun he => absurd he hi1)
              obtain ⟨ty2, hsy2⟩ := q7c (F := FT BigT) (L := BigT) HN2.out.ok HSy.out.of ⟨what, id, ⟨wk, wg, wd⟩, hi⟩ (fun he => absurd he hi2)
              have HSx2 := qh (HSx.out.trans hsx2)
              have HSy2 := qh (HSy.out.trans hsy2)
              clear hsx2 hsy2
              go_wp2_with fail
              refine HC.out.mono ?_
              rintro r w12 ⟨A9, B9, c9, d9, F12, rfl, _, hr9, _, _⟩
              have HR9 := qh hr9
              clear hr9 HC c0 c1 c2 c3 c4 c5
              unfold q2a
              go_wp2_with fail
              go_roundg (gk - 1)
              case measure => have := HJ2.out; omega
              case rel => exact ⟨j2 + 1, kk + 1, _, F12, tx2, ty2, by have := HJ2.out; omega, by go_num, by have := HKK.out; omega, HR9.out, HSx2.out, HSy2.out⟩
           ·have hlt3 : decide ((j2 : Int) < (b.length : Int)) = false := by simpa using hj2
            have HJ9 : Hid (kk ≤ 164) := qh (by have := HJ2.out; have := HFlB.out; have := HKK.out; omega)
            have hC1 := HK.out.commit w.heap.size p F2 BigT s2 x wr HN2.out.st (HN2.out.few (by have := HJ9.out; omega)) HXI.out
            obtain ⟨g, hg⟩ : ∃ g, (q0h (FT BigT) BigT s2 (x : Int)).2.e = g := ⟨_, rfl⟩
            have HCl : Hid (g = 0 → (q0h (FT BigT) BigT (q0h (FT BigT) BigT s2 (x : Int)).1 (y : Int)).2.e = 100) := qh fun h0 => q9K HN2.out.ok HXY.out HSx.out.of HSy.out.of (wx := ⟨key, false, dat⟩) (wy := ⟨key, false, data⟩) (by rw [HSx.out.ws]; exact HX2.out) (by rw [HSy.out.ws]; exact HY2.out) rfl rfl (hg.trans h0)
            rw [hg] at hC1
            have HC1 := qh hC1
            clear hC1 hg
            unfold ptrS at HC1
            go_wp2_with fail
            refine HC1.out.mono ?_
            rintro r w12 ⟨rfl, F12, hQ⟩
            have R12 := qh (HN2.out.commit HK.out hQ)
            clear HC1 hQ
            have hC2 := HK.out.commit w.heap.size p F12 BigT (q0h (FT BigT) BigT s2 (x : Int)).1 y w12 R12.out.st (R12.out.few (by have := HJ9.out; omega)) HYI.out
            obtain ⟨h, hh⟩ : ∃ h, (q0h (FT BigT) BigT (q0h (FT BigT) BigT s2 (x : Int)).1 (y : Int)).2.e = h := ⟨_, rfl⟩
            rw [hh] at hC2
            have HH : Hid (g = 0 → h = 100) := qh fun h0 => hh.symm.trans (HCl.out h0)
            have HC2 := qh hC2
            clear hC2 hh HCl
            unfold ptrS at HC2
            go_wp2_with fail
            refine HC2.out.mono ?_
            rintro r w13 ⟨rfl, F13, hQ⟩
            have R13 := qh (R12.out.commit HK.out hQ)
            have HB13 := qh R13.out.bel
            clear HC2 hQ
            by_cases hg0 : g = 0
            ·obtain rfl := HH.out hg0
             subst hg0
             go_wp2_with fail
             go_ret
             exact ⟨rfl, HB13.out⟩
            ·have g1 : (g == 0) = false := by rw [beq_eq_false_iff_ne]; exact hg0
             have g2 : (g != 0) = true := bne_iff_ne.2 hg0
             clear HH hg0
             go_wp2_with fail
             go_ret
             exact ⟨rfl, HB13.out⟩
         ·have g1 : (f == 0) = false := by rw [beq_eq_false_iff_ne]; exact hf0
          have HB := qh R11.out.bel
          clear hf0 HPr3
          go_wp2_with fail
          go_ret
          exact ⟨rfl, HB.out⟩
        ·have g1 : (e == 0) = false := by rw [beq_eq_false_iff_ne]; exact he0
         have HB := qh R11.out.bel
         clear he0 HPr3
         go_wp2_with fail
         go_ret
         exact ⟨rfl, HB.out⟩
  ·rw [show fewT b = false by simpa using fb] at HFB
   clear K ha hb fa fb hkey hxd hdd b0
   go_enter Tryz.func5, Tryz.ntmps5
   go_upto_region 1 with fail
   rw [HW0.out]
   clear HW0
   go_wp2_with (first
    | (go_at_call 12; (with_reducible refine (HL.out _ (by assumption)).mono ?_); rintro r w' ⟨rfl, hb6⟩)
    | (go_at_call 13; (with_reducible refine (HFA.out _ (by assumption)).mono ?_); rintro r w' ⟨rfl, hb6⟩; obtain ⟨z0, z1, z2⟩ := HX.out _ hb6)
    | (go_at_call 13; (with_reducible refine (HFB.out _ (by assumption)).mono ?_); rintro r w' ⟨rfl, hb6⟩; obtain ⟨z0, z1, z2⟩ := HX.out _ hb6))
   go_ret
   exact ⟨rfl, HB0.out.trans (hb6.mono HB0.out.size)⟩
 ·rw [show fewT a = false by simpa using fa] at HFA
  clear K ha hb fa hkey hxd hdd b0
  go_enter Tryz.func5, Tryz.ntmps5
  go_upto_region 1 with fail
  rw [HW0.out]
  clear HW0
  go_wp2_with (first
   | (go_at_call 12; (with_reducible refine (HL.out _ (by assumption)).mono ?_); rintro r w' ⟨rfl, hb6⟩)
   | (go_at_call 13; (with_reducible refine (HFA.out _ (by assumption)).mono ?_); rintro r w' ⟨rfl, hb6⟩; obtain ⟨z0, z1, z2⟩ := HX.out _ hb6))
  go_ret
  exact ⟨rfl, HB0.out.trans (hb6.mono HB0.out.size)⟩
end txnFirst
end Go.Proofs.YtdpbllacfljmoaaGreat
