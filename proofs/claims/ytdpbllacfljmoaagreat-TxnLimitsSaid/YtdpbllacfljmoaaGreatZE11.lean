import Derived.Test.YtdpbllacfljmoaaGreatZE10
import Derived.Test.YtdpbllacfljmoaaGreatZE06
import Derived.Deep.RegionHeld3
import Derived.KernelRfl
import Derived.Test.YtdpbllacfljmoaaGreatZE09
import Derived.Lib.MinMax
set_option maxRecDepth 100000
set_option maxHeartbeats 16000000
set_option linter.unusedVariables false
namespace Go.Proofs.YtdpbllacfljmoaaGreat
open Go.RowKit
theorem fT_c (L : LimT) : FitC (FT L) (fitN L.marks) :=
 ⟨fun l => qcC (q1A l), fun l k hk => qfm (q1A l) (by rw [q3y]; exact hk), fun l => qeZ (q09 l), by
  show fitI L.marks (q09 []) = []
  exact q7n (Nat.zero_le _)⟩
theorem qcz (L : LimT) (l : List Sp) : (FT L l).length ≤ l.length := Nat.le_trans (q3f (q09 l)) (q1p l)
theorem qfk (L : LimT) : q8z (FT L) = fun a b => fitI L.marks (q09 (a ++ b)) := by
 funext a b
 show fitI L.marks (q09 (q09 (a ++ b))) = _
 rw [← q48 (q1A (a ++ b)) fun _ => rfl]
structure RunT (St : q2r) (w W : World) (p : Nat) (F : Nat → Prop) (L : LimT) (b : q07) (k : Nat) : Prop where
 st : St w.heap.size W p F L b
 bel : Below w.heap.size w W
 ok : OkTx L (fitN L.marks) b
 wgt : WgtT b ≤ 5 * k
 small : qah b
section
variable {St : q2r} {w W W' : World} {p : Nat} {F F' : Nat → Prop} {L : LimT} {b : q07} {k : Nat}
theorem RunT.few (h : RunT St w W p F L b k) (hk : k ≤ 198) : q0F b := ⟨by have := h.wgt; omega, h.small⟩
theorem RunT.next (K : TxnC St) (h : RunT St w W p F L b k) (hb : Below W.heap.size W W') : RunT St w W' p F L b k :=
 ⟨K.keep h.st (fun g _ hg => hb.block g hg) hb.size, h.bel.trans (hb.mono h.bel.size), h.ok, h.wgt, h.small⟩
theorem RunT.of (K : TxnC St) (hst : St w.heap.size W p F L q3t) (hb : Below w.heap.size w W) : RunT St w W p F L q3t 0 := by
 have h := (K.okay hst).1
 unfold MayT at h
 simp only [Bool.and_eq_true, decide_eq_true_eq] at h
 exact ⟨hst, hb, qaI h.1.1.1 (by omega), Nat.zero_le _, fun t ht => by cases ht⟩
theorem RunT.turn' (K : TxnC St) (h : RunT St w W p F L b k) (o : OpT) (hw : q2j o.w) (hst : St w.heap.size W' p F' L (q1X (FT L) L b o).1) (hm : Mut F W W') : RunT St w W' p F' L (q1X (FT L) L b o).1 (k + 1) := by
 refine ⟨hst, h.bel.trans (hm.below h.bel.size fun g hg => (K.upto h.st g hg).1), h.ok.does (fT_c L) o, ?_, qa0 h.small hw⟩
 have h1 := qeX (qcz L) h.ok o
 have h2 := h.wgt
 omega
theorem RunT.turn (K : TxnC St) (h : RunT St w W p F L b k) (o : OpT) (hw : q2j o.w) (ht : q24 St w.heap.size W p F L (q1X (FT L) L b o).1 W' F') : RunT St w W' p F' L (q1X (FT L) L b o).1 (k + 1) := h.turn' K o hw ht.1 ht.2.1
theorem qf3 : q2j ⟨[], false, []⟩ := ⟨Nat.zero_le _, Nat.zero_le _⟩
theorem RunT.begin_ (K : TxnC St) (h : RunT St w W p F L b k) (ht : q24 St w.heap.size W p F L (q0M L b).1 W' F') : RunT St w W' p F' L (q0M L b).1 (k + 1) := h.turn K ⟨0, 0, ⟨[], false, []⟩, []⟩ qf3 ht
theorem RunT.read (K : TxnC St) (h : RunT St w W p F L b k) {id : Int} {key : KeyS} (hk : key.length ≤ 300) (ht : q24 St w.heap.size W p F L (q12 (FT L) b id key).1 W' F') : RunT St w W' p F' L (q12 (FT L) b id key).1 (k + 1) := h.turn K ⟨1, id, ⟨key, false, []⟩, []⟩ ⟨hk, Nat.zero_le _⟩ ht
theorem RunT.scan (K : TxnC St) (h : RunT St w W p F L b k) {id : Int} {lo hi : KeyS} (hk : lo.length ≤ 300) (ht : q24 St w.heap.size W p F L (q1L (FT L) b id lo hi).1 W' F') : RunT St w W' p F' L (q1L (FT L) b id lo hi).1 (k + 1) := h.turn K ⟨2, id, ⟨lo, false, []⟩, hi⟩ ⟨hk, Nat.zero_le _⟩ ht
theorem RunT.write (K : TxnC St) (h : RunT St w W p F L b k) {id : Int} {x : Wr} (hx : q2j x) (hst : St w.heap.size W' p F' L (q0H b id x).1) (hm : Mut F W W') : RunT St w W' p F' L (q0H b id x).1 (k + 1) := h.turn' K ⟨3, id, x, []⟩ hx hst hm
theorem RunT.commit (K : TxnC St) (h : RunT St w W p F L b k) {id : Int} (ht : q24 St w.heap.size W p F L (q0q (FT L) L b id).1 W' F') : RunT St w W' p F' L (q0q (FT L) L b id).1 (k + 1) := h.turn K ⟨4, id, ⟨[], false, []⟩, []⟩ qf3 ht
theorem RunT.data (K : TxnC St) (h : RunT St w W p F L b k) {A : Option Addr} {c : Nat} {d : List UInt8} (hd : SlI W' W.heap.size W'.heap.size A c d) : ByS W' (fun k => k < w.heap.size ∨ (w.heap.size ≤ k ∧ ¬ F k)) A c d :=
 ⟨hd.1, hd.2.1, hd.2.2.1, RdS.of_rd hd.2.2.2 fun g h1 _ => .inr ⟨Nat.le_trans h.bel.size h1, fun hf => by have := (K.upto h.st g hf).2; omega⟩⟩
def DidT (St : q2r) (w W : World) (p : Nat) (F : Nat → Prop) (L : LimT) (b : q07) (k : Nat) (o : OpT) (r : Ending) (W' : World) : Prop :=
 ∃ (A B : Option Addr) (c d : Nat) (F' : Nat → Prop), r = .returned (q2q (q1X (FT L) L b o).2 A c B d) ∧ qb3 W' (ResT F' w.heap.size W) (q1X (FT L) L b o).2 A c B d ∧ RunT St w W' p F' L (q1X (FT L) L b o).1 (k + 1) ∧ Mut F W W' ∧ ∀ g, F' g → F g ∨ W.heap.size ≤ g
theorem qeo (K : TxnC St) (h : RunT St w W p F L b k) (hk : k ≤ 198) (o : OpT) (A : Option Addr) (c : Nat) (hw : q2j o.w) (hhi : o.hi.length ≤ 300) (harg : OkOT W w.heap.size ⟨o, A, c⟩) :
  Calls Tryz.prog 18 #[ptrS p, qeE o A c] W (DidT St w W p F L b k o) :=
 (qcw K w.heap.size o A c p F L b W h.st (h.few hk) hw hhi harg h.bel.size).mono fun r W' ⟨A9, B9, c9, d9, F', e, ht, hT⟩ => ⟨A9, B9, c9, d9, F', e, ht, h.turn K o hw hT, hT.2.1, hT.2.2⟩
end
open Go.RowKit
def lvA : q07 := (q0M BigT q3t).1
def lvB : q07 := (q0M BigT lvA).1
def lvC : q07 := (q0H lvB 1 ⟨[98], false, [49]⟩).1
def lvD : q07 := (q0H lvC 2 ⟨[98], false, [50]⟩).1
def lvE : q07 := (q0q (FT BigT) BigT lvD 1).1
def lvF : q07 := (q0q (FT BigT) BigT lvE 2).1
theorem qg6 : (q0M BigT q3t).2 = ⟨1, 0, [], false, []⟩ := by kernel_rfl
theorem qg7 : (q0M BigT lvA).2 = ⟨2, 0, [], false, []⟩ := by kernel_rfl
theorem qgo : (q0H lvB 1 ⟨[98], false, [49]⟩).2 = ⟨0, 0, [], false, []⟩ := by kernel_rfl
theorem qgp : (q0H lvC 2 ⟨[98], false, [50]⟩).2 = ⟨0, 0, [], false, []⟩ := by kernel_rfl
theorem qgq : (q0q (FT BigT) BigT lvD 1).2 = ⟨1, 0, [], false, []⟩ := by kernel_rfl
theorem qgs : (q0q (FT BigT) BigT lvE 2).2 = ⟨0, 100, [], false, []⟩ := by kernel_rfl
theorem qgr : q1E lvF.st.K [] [] lvF.st.time = [([98], [49])] := by kernel_rfl
def skC : q07 := (q12 (FT BigT) lvB 1 [97]).1
def skD : q07 := (q0H skC 1 ⟨[98], false, [49]⟩).1
def skE : q07 := (q12 (FT BigT) skD 2 [98]).1
def skF : q07 := (q0H skE 2 ⟨[97], false, [49]⟩).1
def skG : q07 := (q0q (FT BigT) BigT skF 1).1
def skH : q07 := (q0q (FT BigT) BigT skG 2).1
theorem qgt : (q12 (FT BigT) lvB 1 [97]).2 = ⟨0, 0, [], false, []⟩ := by kernel_rfl
theorem qgu : (q0H skC 1 ⟨[98], false, [49]⟩).2 = ⟨0, 0, [], false, []⟩ := by kernel_rfl
theorem qgv : (q12 (FT BigT) skD 2 [98]).2 = ⟨0, 0, [], false, []⟩ := by kernel_rfl
theorem qgw : (q0H skE 2 ⟨[97], false, [49]⟩).2 = ⟨0, 0, [], false, []⟩ := by kernel_rfl
theorem qgx : (q0q (FT BigT) BigT skF 1).2 = ⟨1, 0, [], false, []⟩ := by kernel_rfl
theorem qgy : (q0q (FT BigT) BigT skG 2).2 = ⟨0, 101, [], false, []⟩ := by kernel_rfl
theorem q1y {n : Int} (h1 : 0 ≤ n) (h2 : n ≤ 1000) : I64 n := ⟨by omega, by omega⟩
theorem q42 : I64 BigT.s.keys ∧ I64 BigT.s.vers ∧ I64 BigT.s.byts ∧ BigT.s.last < 18446744073709551616 ∧ I64 BigT.marks ∧ I64 BigT.recs ∧ I64 BigT.live := by unfold I64 BigT; simp
theorem qam {St : q2r} (K : TxnC St) {w : World} (W : World) (hb : Below w.heap.size w W) : Calls Tryz.prog 35 #[limT BigT] W fun r W' => ∃ p F, r = .returned (ptrS p) ∧ RunT St w W' p F BigT q3t 0 :=
 (q6a K BigT w.heap.size W hb.size q42.1 q42.2.1 q42.2.2.1 q42.2.2.2.1 q42.2.2.2.2.1 q42.2.2.2.2.2.1 q42.2.2.2.2.2.2).mono fun r W' ⟨h1, h2⟩ => by
  rw [if_pos qe9] at h2
  obtain ⟨p, F, e, h3, h4⟩ := h2
  exact ⟨p, F, e, RunT.of K h3 (hb.trans (h1.mono hb.size))⟩
theorem qeP {St : q2r} (K : TxnC St) (w : World) : Calls Tryz.prog 52 #[] w fun r w' => r = .returned (.int .i64 101) ∧ Below w.heap.size w w' := by
 go_enter Tryz.func52, Tryz.ntmps52
 go_wp2_with fail
 refine (qal w).mono ?_
 rintro r w1 ⟨rfl, hb1⟩
 have HM := qh (qam K w1 hb1)
 clear hb1
 go_wp2_with fail
 refine HM.out.mono ?_
 rintro r w2 ⟨p, F0, rfl, hr⟩
 have R0 := qh hr
 clear hr HM
 unfold ptrS
 have HK := qh K
 clear K
 have hT := HK.out.begin_ w.heap.size p F0 BigT q3t w2 R0.out.st (R0.out.few (by omega))
 rw [qg6] at hT
 have HT := qh hT
 clear hT
 unfold ptrS at HT
 go_wp2_with fail
 refine HT.out.mono ?_
 rintro r w3 ⟨rfl, F1, hQ⟩
 have R1 := qh (show RunT _ w w3 p F1 BigT lvA 1 from R0.out.begin_ HK.out hQ)
 clear HT hQ
 have hT := HK.out.begin_ w.heap.size p F1 BigT lvA w3 R1.out.st (R1.out.few (by omega))
 rw [qg7] at hT
 have HT := qh hT
 clear hT
 unfold ptrS at HT
 go_wp2_with fail
 refine HT.out.mono ?_
 rintro r w4 ⟨rfl, F2, hQ⟩
 have R2 := qh (show RunT _ w w4 p F2 BigT lvB 2 from R1.out.begin_ HK.out hQ)
 clear HT hQ
 have hT := HK.out.read w.heap.size p F2 BigT lvB 1 [97] w4 R2.out.st (R2.out.few (by omega)) (q1y (by omega) (by omega)) (by simp)
 rw [qgt] at hT
 have HT := qh hT
 clear hT
 unfold ptrS at HT
 go_wp2_with fail
 refine HT.out.mono ?_
 rintro r w5 ⟨AA, cc, F3, rfl, _, hQ⟩
 have R3 := qh (show RunT _ w w5 p F3 BigT skC 3 from R2.out.read HK.out (by simp) hQ)
 clear HT hQ
 have HT := qh (q5r [98] 49 w5)
 go_wp2_with fail
 refine HT.out.mono ?_
 rintro r w6 ⟨AA, cc, rfl, hs, hb⟩
 have HD := qh (R3.out.data HK.out hs)
 have R3 := qh (R3.out.next HK.out hb)
 clear HT hs hb
 have hT := HK.out.write w.heap.size p F3 BigT skC 1 ⟨[98], false, [49]⟩ AA cc w6 R3.out.st (R3.out.few (by omega)) (q1y (by omega) (by omega)) ⟨by simp, by simp⟩ HD.out
 rw [qgu] at hT
 have HT := qh hT
 clear hT
 unfold ptrS at HT
 go_wp2_with fail
 refine HT.out.mono ?_
 rintro r w7 ⟨rfl, F4, hQ, hm, _⟩
 have R4 := qh (show RunT _ w w7 p F4 BigT skD 4 from R3.out.write HK.out ⟨by simp, by simp⟩ hQ hm)
 clear HT HD hQ hm
 have hT := HK.out.read w.heap.size p F4 BigT skD 2 [98] w7 R4.out.st (R4.out.few (by omega)) (q1y (by omega) (by omega)) (by simp)
 rw [qgv] at hT
 have HT := qh hT
 clear hT
 unfold ptrS at HT
 go_wp2_with fail
 refine HT.out.mono ?_
 rintro r w8 ⟨AA, cc, F5, rfl, _, hQ⟩
 have R5 := qh (show RunT _ w w8 p F5 BigT skE 5 from R4.out.read HK.out (by simp) hQ)
 clear HT hQ
 have HT := qh (q5r [97] 49 w8)
 go_wp2_with fail
 refine HT.out.mono ?_
 rintro r w9 ⟨AA, cc, rfl, hs, hb⟩
 have HD := qh (R5.out.data HK.out hs)
 have R5 := qh (R5.out.next HK.out hb)
 clear HT hs hb
 have hT := HK.out.write w.heap.size p F5 BigT skE 2 ⟨[97], false, [49]⟩ AA cc w9 R5.out.st (R5.out.few (by omega)) (q1y (by omega) (by omega)) ⟨by simp, by simp⟩ HD.out
 rw [qgw] at hT
 have HT := qh hT
 clear hT
 unfold ptrS at HT
 go_wp2_with fail
 refine HT.out.mono ?_
 rintro r w10 ⟨rfl, F6, hQ, hm, _⟩
 have R6 := qh (show RunT _ w w10 p F6 BigT skF 6 from R5.out.write HK.out ⟨by simp, by simp⟩ hQ hm)
 clear HT HD hQ hm
 have hT := HK.out.commit w.heap.size p F6 BigT skF 1 w10 R6.out.st (R6.out.few (by omega)) (q1y (by omega) (by omega))
 rw [qgx] at hT
 have HT := qh hT
 clear hT
 unfold ptrS at HT
 go_wp2_with fail
 refine HT.out.mono ?_
 rintro r w11 ⟨rfl, F7, hQ⟩
 have R7 := qh (show RunT _ w w11 p F7 BigT skG 7 from R6.out.commit HK.out hQ)
 clear HT hQ
 have hT := HK.out.commit w.heap.size p F7 BigT skG 2 w11 R7.out.st (R7.out.few (by omega)) (q1y (by omega) (by omega))
 rw [qgy] at hT
 have HT := qh hT
 clear hT
 unfold ptrS at HT
 go_wp2_with fail
 refine HT.out.mono ?_
 rintro r w12 ⟨rfl, F8, hQ⟩
 have R8 := qh (show RunT _ w w12 p F8 BigT skH 8 from R7.out.commit HK.out hQ)
 clear HT hQ
 go_wp2_with fail
 go_ret
 exact ⟨rfl, R8.out.bel⟩
theorem qcZ {St : q2r} (K : TxnC St) (w : World) : Calls Tryz.prog 12 #[] w fun r w' => r = .returned (.bool true) ∧ Below w.heap.size w w' := by
 go_enter Tryz.func12, Tryz.ntmps12
 go_wp2_with fail
 refine (qal w).mono ?_
 rintro r w1 ⟨rfl, hb1⟩
 have HM := qh (qam K w1 hb1)
 clear hb1
 go_wp2_with fail
 refine HM.out.mono ?_
 rintro r w2 ⟨p, F0, rfl, hr⟩
 have R0 := qh hr
 clear hr HM
 unfold ptrS
 have HK := qh K
 clear K
 have hT := HK.out.begin_ w.heap.size p F0 BigT q3t w2 R0.out.st (R0.out.few (by omega))
 rw [qg6] at hT
 have HT := qh hT
 clear hT
 unfold ptrS at HT
 go_wp2_with fail
 refine HT.out.mono ?_
 rintro r w3 ⟨rfl, F1, hQ⟩
 have R1 := qh (show RunT _ w w3 p F1 BigT lvA 1 from R0.out.begin_ HK.out hQ)
 clear HT hQ
 have hT := HK.out.begin_ w.heap.size p F1 BigT lvA w3 R1.out.st (R1.out.few (by omega))
 rw [qg7] at hT
 have HT := qh hT
 clear hT
 unfold ptrS at HT
 go_wp2_with fail
 refine HT.out.mono ?_
 rintro r w4 ⟨rfl, F2, hQ⟩
 have R2 := qh (show RunT _ w w4 p F2 BigT lvB 2 from R1.out.begin_ HK.out hQ)
 clear HT hQ
 have HT := qh (q5r [98] 49 w4)
 go_wp2_with fail
 refine HT.out.mono ?_
 rintro r w5 ⟨AA, cc, rfl, hs, hb⟩
 have HD := qh (R2.out.data HK.out hs)
 have R2 := qh (R2.out.next HK.out hb)
 clear HT hs hb
 have hT := HK.out.write w.heap.size p F2 BigT lvB 1 ⟨[98], false, [49]⟩ AA cc w5 R2.out.st (R2.out.few (by omega)) (q1y (by omega) (by omega)) ⟨by simp, by simp⟩ HD.out
 rw [qgo] at hT
 have HT := qh hT
 clear hT
 unfold ptrS at HT
 go_wp2_with fail
 refine HT.out.mono ?_
 rintro r w6 ⟨rfl, F3, hQ, hm, _⟩
 have R3 := qh (show RunT _ w w6 p F3 BigT lvC 3 from R2.out.write HK.out ⟨by simp, by simp⟩ hQ hm)
 clear HT HD hQ hm
 have HT := qh (q5r [98] 50 w6)
 go_wp2_with fail
 refine HT.out.mono ?_
 rintro r w7 ⟨AA, cc, rfl, hs, hb⟩
 have HD := qh (R3.out.data HK.out hs)
 have R3 := qh (R3.out.next HK.out hb)
 clear HT hs hb
 have hT := HK.out.write w.heap.size p F3 BigT lvC 2 ⟨[98], false, [50]⟩ AA cc w7 R3.out.st (R3.out.few (by omega)) (q1y (by omega) (by omega)) ⟨by simp, by simp⟩ HD.out
 rw [qgp] at hT
 have HT := qh hT
 clear hT
 unfold ptrS at HT
 go_wp2_with fail
 refine HT.out.mono ?_
 rintro r w8 ⟨rfl, F4, hQ, hm, _⟩
 have R4 := qh (show RunT _ w w8 p F4 BigT lvD 4 from R3.out.write HK.out ⟨by simp, by simp⟩ hQ hm)
 clear HT HD hQ hm
 have hT := HK.out.commit w.heap.size p F4 BigT lvD 1 w8 R4.out.st (R4.out.few (by omega)) (q1y (by omega) (by omega))
 rw [qgq] at hT
 have HT := qh hT
 clear hT
 unfold ptrS at HT
 go_wp2_with fail
 refine HT.out.mono ?_
 rintro r w9 ⟨rfl, F5, hQ⟩
 have R5 := qh (show RunT _ w w9 p F5 BigT lvE 5 from R4.out.commit HK.out hQ)
 clear HT hQ
 have hT := HK.out.commit w.heap.size p F5 BigT lvE 2 w9 R5.out.st (R5.out.few (by omega)) (q1y (by omega) (by omega))
 rw [qgs] at hT
 have HT := qh hT
 clear hT
 unfold ptrS at HT
 go_wp2_with fail
 refine HT.out.mono ?_
 rintro r w10 ⟨rfl, F6, hQ⟩
 have R6 := qh (show RunT _ w w10 p F6 BigT lvF 6 from R5.out.commit HK.out hQ)
 clear HT hQ
 have hT := HK.out.all w.heap.size p F6 BigT lvF w10 R6.out.st
 rw [qgr] at hT
 have HT := qh hT
 clear hT
 unfold ptrS at HT
 go_wp2_with fail
 refine HT.out.mono ?_
 rintro r w11 ⟨A9, c9, rfl, hs9, hb9⟩
 have HB9 := qh (R6.out.bel.trans (hb9.mono R6.out.bel.size))
 obtain ⟨hl9, hc9, hn9, ms, hms, hrow, hel⟩ := hs9
 have hml : ms.length = 1 := by
  have h := congrArg List.length hms
  rw [List.length_map] at h
  exact h
 obtain ⟨y, rfl⟩ := List.length_eq_one_iff.1 hml
 clear hml
 have hy : y.p = ([98], [49]) := by simpa using hms
 obtain ⟨bb, ob, rfl, _, hcell⟩ := hrow (by simp)
 have q0 := hcell 0 _ rfl
 have q1 := hcell 1 _ rfl
 simp only [Nat.add_zero] at q0
 obtain ⟨yk, yb, yA, yc⟩ := y
 obtain ⟨rfl, rfl⟩ : yk = [98] ∧ yb = [49] := by
  unfold MP.p at hy
  simp only at hy
  injection hy with h1 h2
  exact ⟨h1, h2⟩
 have hby := hel _ (List.mem_singleton.2 rfl)
 have hcv : (convert 35 9 (.slice yA 1 yc)).run Tryz.prog w11 = .ok (.string ⟨#[49]⟩) w11 := qfh (m := [49]) 35 9 5 Tryz.underlying35 Tryz.underlying5 Tryz.underlying9 rfl hby.2.2.2.rd
 have HSk := qh (qeP HK.out w11)
 clear hb9 hms hrow hel hcell hy hby HT
 go_wp2_with fail
 refine HSk.out.mono ?_
 rintro r w40 ⟨rfl, hb40⟩
 have HB40 := qh (HB9.out.trans (hb40.mono HB9.out.size))
 clear hb40
 go_wp2_with fail
 go_ret
 exact ⟨rfl, HB40.out⟩
section
variable {F : List Sp → List Sp} {M : Nat}
end
section
variable {F : List Sp → List Sp} {M : Nat}
end
section
variable {F : List Sp → List Sp} {M : Nat}
end
section
variable {F : List Sp → List Sp} {M : Nat}
end
open Go.RowKit
structure TxnO (St : q2r) : Prop where
 read : ∀ (o p : Nat) (F : Nat → Prop) (L : LimT) (b : q07) (id : Int) (key : KeyS) (w : World), St o w p F L b → q0F b → I64 id → key.length ≤ 300 →
  Calls Tryz.prog 38 #[ptrS p, .int .i64 id, .string (bs key)] w fun r w' => ∃ A c F', r = .returned (.tuple #[.slice A (q12 (FT L) b id key).2.b.length c, .bool (q12 (FT L) b id key).2.is, .int .i64 (q12 (FT L) b id key).2.e]) ∧
   ByS w' (fun k => w.heap.size ≤ k ∧ ¬ F' k) A c (q12 (FT L) b id key).2.b ∧ q24 St o w p F L (q12 (FT L) b id key).1 w' F'
 scan : ∀ (o p : Nat) (F : Nat → Prop) (L : LimT) (b : q07) (id : Int) (lo hi : KeyS) (w : World), St o w p F L b → q0F b → I64 id → lo.length ≤ 300 → hi.length ≤ 300 →
  Calls Tryz.prog 39 #[ptrS p, .int .i64 id, .string (bs lo), .string (bs hi)] w fun r w' => ∃ A c F', r = .returned (.tuple #[.slice A (q1L (FT L) b id lo hi).2.scan.length c, .int .i64 (q1L (FT L) b id lo hi).2.e]) ∧
   PaS w' (fun k => w.heap.size ≤ k ∧ ¬ F' k) A c (q1L (FT L) b id lo hi).2.scan ∧ q24 St o w p F L (q1L (FT L) b id lo hi).1 w' F'
 all : ∀ (o p : Nat) (F : Nat → Prop) (L : LimT) (b : q07) (w : World), St o w p F L b → Calls Tryz.prog 33 #[ptrS p] w fun r w' => ∃ A c, r = .returned (.slice A (q1E b.st.K [] [] b.st.time).length c) ∧ PaS w' (fun k => w.heap.size ≤ k) A c (q1E b.st.K [] [] b.st.time) ∧ Below w.heap.size w w'
theorem qbx {St : q2r} (K : TxnC St) (w : World) : ∀ W, Below w.heap.size w W → Calls Tryz.prog 12 #[] W fun r w' => r = .returned (.bool true) ∧ Below w.heap.size w w' := fun W hb =>
 (qcZ K W).mono fun _ _ q => ⟨q.1, hb.trans (q.2.mono hb.size)⟩
theorem qcA {w : World} {l : List OpT} {A : Option Addr} {c : Nat} (h : ChOT w w.heap.size A c l) : ∀ W, Below w.heap.size w W → Calls Tryz.prog 13 #[.slice A l.length c] W fun r w' => r = .returned (.bool (fewT l)) ∧ Below w.heap.size w w' := fun W hb =>
 (qep l A c w.heap.size W (h.below hb (Nat.le_refl _) (Nat.le_refl _)) hb.size).mono fun _ _ q => ⟨q.1, hb.trans (q.2.mono hb.size)⟩
theorem qfo {L : LimT} {b : q07} (hf : L.live ≤ (b.live.length : Int)) : q0M L b = (b, errT 5) := by
 unfold q0M
 rw [if_pos hf]
open Go.RowKit
theorem qeD (L : LimT) (w : World) : Calls Tryz.prog 15 #[limT L] w fun r w' => r = .returned (.bool (MayT L)) ∧ Below w.heap.size w w' := by
 obtain ⟨⟨keys, vers, byts, last⟩, marks, recs, live⟩ := L
 obtain ⟨w0, hw0⟩ : ∃ y, w.alloc (.cells #[.int .i64 keys, .int .i64 vers, .int .i64 byts, .int .i64 marks, .int .i64 recs, .int .i64 live, .int .u64 last] 24) = y := ⟨_, rfl⟩
 have b0 : Below w.heap.size w w0 := by rw [← hw0]; exact (Below.refl _ w).alloc (Nat.le_refl _) _
 have x0 : w0.heap[w.heap.size]? = some (.cells #[.int .i64 keys, .int .i64 vers, .int .i64 byts, .int .i64 marks, .int .i64 recs, .int .i64 live, .int .u64 last] 24 (0, 0)) := by rw [← hw0]; exact heap_alloc_new w _
 have HX := qh x0
 have HB0 := qh b0
 have HW0 := qh hw0
 have hm := qfy ⟨keys, vers, byts, last⟩ marks recs live w0
 have hMT : MayT ⟨⟨keys, vers, byts, last⟩, marks, recs, live⟩ = (MayS ⟨keys, vers, byts, last⟩ && decide (1 ≤ marks) && decide (marks ≤ 1048576) && decide (1 ≤ recs) && decide (recs ≤ 1048576) && decide (1 ≤ live) && decide (live ≤ 64)) := by
  unfold MayT
  simp only [Bool.and_assoc]
 rw [hMT]
 unfold limT
 unfold q3z at hm ⊢
 simp only at hm ⊢
 obtain ⟨z0, z1, z2, z3, z4, z5, z6⟩ := q80 HX.out
 have HC := qh (fun (W : World) (h : Below w0.heap.size w0 W) => q80 (q01 HX.out h (q00 HX.out)))
 generalize MayS ⟨keys, vers, byts, last⟩ = q0 at *
 have HM := qh hm
 clear hm hMT x0 b0 hw0
 cases q0
 ·go_enter Tryz.func15, Tryz.ntmps15
  go_upto_region 1 with fail
  rw [HW0.out]
  go_wp2_with fail
  refine HM.out.mono ?_
  rintro r w1 ⟨rfl, hb1⟩
  go_wp2_with fail
  go_ret
  exact ⟨rfl, HB0.out.trans (hb1.mono HB0.out.size)⟩
 ·by_cases h0 : 1 ≤ marks
  ·have d0 : decide (1 ≤ marks) = true := decide_eq_true h0
   rw [d0]
   by_cases h1 : marks ≤ 1048576
   ·have d1 : decide (marks ≤ 1048576) = true := decide_eq_true h1
    rw [d1]
    by_cases h2 : 1 ≤ recs
    ·have d2 : decide (1 ≤ recs) = true := decide_eq_true h2
     rw [d2]
     by_cases h3 : recs ≤ 1048576
     ·have d3 : decide (recs ≤ 1048576) = true := decide_eq_true h3
      rw [d3]
      by_cases h4 : 1 ≤ live
      ·have d4 : decide (1 ≤ live) = true := decide_eq_true h4
       rw [d4]
       by_cases h5 : live ≤ 64
       ·have d5 : decide (live ≤ 64) = true := decide_eq_true h5
        rw [d5]
        go_enter Tryz.func15, Tryz.ntmps15
        go_upto_region 1 with fail
        rw [HW0.out]
        go_wp2_with fail
        refine HM.out.mono ?_
        rintro r w1 ⟨rfl, hb1⟩
        obtain ⟨y0, y1, y2, y3, y4, y5, y6⟩ := HC.out _ hb1
        have HB1 := qh hb1
        clear hb1
        go_wp2_with fail
        go_ret
        exact ⟨rfl, HB0.out.trans (HB1.out.mono HB0.out.size)⟩
       ·have d5 : decide (live ≤ 64) = false := decide_eq_false h5
        rw [d5]
        simp only [Bool.and_false]
        go_enter Tryz.func15, Tryz.ntmps15
        go_upto_region 1 with fail
        rw [HW0.out]
        go_wp2_with fail
        refine HM.out.mono ?_
        rintro r w1 ⟨rfl, hb1⟩
        obtain ⟨y0, y1, y2, y3, y4, y5, y6⟩ := HC.out _ hb1
        have HB1 := qh hb1
        clear hb1
        go_wp2_with fail
        go_ret
        exact ⟨rfl, HB0.out.trans (HB1.out.mono HB0.out.size)⟩
      ·have d4 : decide (1 ≤ live) = false := decide_eq_false h4
       rw [d4]
       simp only [Bool.and_false, Bool.false_and]
       go_enter Tryz.func15, Tryz.ntmps15
       go_upto_region 1 with fail
       rw [HW0.out]
       go_wp2_with fail
       refine HM.out.mono ?_
       rintro r w1 ⟨rfl, hb1⟩
       obtain ⟨y0, y1, y2, y3, y4, y5, y6⟩ := HC.out _ hb1
       have HB1 := qh hb1
       clear hb1
       go_wp2_with fail
       go_ret
       exact ⟨rfl, HB0.out.trans (HB1.out.mono HB0.out.size)⟩
     ·have d3 : decide (recs ≤ 1048576) = false := decide_eq_false h3
      rw [d3]
      simp only [Bool.and_false, Bool.false_and]
      go_enter Tryz.func15, Tryz.ntmps15
      go_upto_region 1 with fail
      rw [HW0.out]
      go_wp2_with fail
      refine HM.out.mono ?_
      rintro r w1 ⟨rfl, hb1⟩
      obtain ⟨y0, y1, y2, y3, y4, y5, y6⟩ := HC.out _ hb1
      have HB1 := qh hb1
      clear hb1
      go_wp2_with fail
      go_ret
      exact ⟨rfl, HB0.out.trans (HB1.out.mono HB0.out.size)⟩
    ·have d2 : decide (1 ≤ recs) = false := decide_eq_false h2
     rw [d2]
     simp only [Bool.and_false, Bool.false_and]
     go_enter Tryz.func15, Tryz.ntmps15
     go_upto_region 1 with fail
     rw [HW0.out]
     go_wp2_with fail
     refine HM.out.mono ?_
     rintro r w1 ⟨rfl, hb1⟩
     obtain ⟨y0, y1, y2, y3, y4, y5, y6⟩ := HC.out _ hb1
     have HB1 := qh hb1
     clear hb1
     go_wp2_with fail
     go_ret
     exact ⟨rfl, HB0.out.trans (HB1.out.mono HB0.out.size)⟩
   ·have d1 : decide (marks ≤ 1048576) = false := decide_eq_false h1
    rw [d1]
    simp only [Bool.and_false, Bool.false_and]
    go_enter Tryz.func15, Tryz.ntmps15
    go_upto_region 1 with fail
    rw [HW0.out]
    go_wp2_with fail
    refine HM.out.mono ?_
    rintro r w1 ⟨rfl, hb1⟩
    obtain ⟨y0, y1, y2, y3, y4, y5, y6⟩ := HC.out _ hb1
    have HB1 := qh hb1
    clear hb1
    go_wp2_with fail
    go_ret
    exact ⟨rfl, HB0.out.trans (HB1.out.mono HB0.out.size)⟩
  ·have d0 : decide (1 ≤ marks) = false := decide_eq_false h0
   rw [d0]
   simp only [Bool.and_false, Bool.false_and]
   go_enter Tryz.func15, Tryz.ntmps15
   go_upto_region 1 with fail
   rw [HW0.out]
   go_wp2_with fail
   refine HM.out.mono ?_
   rintro r w1 ⟨rfl, hb1⟩
   obtain ⟨y0, y1, y2, y3, y4, y5, y6⟩ := HC.out _ hb1
   have HB1 := qh hb1
   clear hb1
   go_wp2_with fail
   go_ret
   exact ⟨rfl, HB0.out.trans (HB1.out.mono HB0.out.size)⟩
open Go
section
variable {P : Program} {md : Region.Mode} {Q : Exit → Act → World → Prop} {S S' : World → Prop} {l : List Oper}
theorem q90 {i fuel : Nat} {oi : Oper} {v : Value} {listed : Array Bool} {a : Act} {w : World} (hi : l[i]? = some oi)
  (hs : Region.noSelect l.toArray = true) (hf : Region.free md l.toArray listed i = true) (hr : (Region.ready md l.toArray listed).contains i = true)
  (hQ : ∀ c a w, Q (.panic c) (a.put oi.dst v) w → Q (.panic c) a w) (hw : Region.wanted oi (yielded l.toArray a.tmps) = true) (hy : ∀ w, S w → (execOp a.eval oi).run P w = .ok (.value v) w) (hS : S w)
  (h : wpAnyH P md l.toArray Q S fuel (listed.setIfInBounds i true) (a.put oi.dst v) w) : wpAnyH P md l.toArray Q S (fuel + 1) listed a w :=
 wpAnyH_take (by simpa using hi) hs hf hr hQ (Or.inl ⟨hw, hy⟩) hS h
theorem qdF {i fuel : Nat} {o : Oper} {listed : Array Bool} {a : Act} {w : World} (hr : Region.ready md l.toArray listed = [i]) (ho : l[i]? = some o)
  (h : ∀ K' : Act → World → Prop, Shut (∀ a w, S w → (S w → wpAnyH P md l.toArray Q S fuel (listed.setIfInBounds i true) a w) → K' a w) → if Region.wanted o (yielded l.toArray a.tmps) = true then Oper.wp P o a w K' Q else K' (a.put o.dst undef) w) :
  wpAnyH P md l.toArray Q S (fuel + 1) listed a w :=
 wpAnyH_ready hr (by simp) (AllReadyH.cons (by simpa using ho) h AllReadyH.nil)
end
section
variable {P : Program} {md : Region.Mode} {Q : Exit → Act → World → Prop} {S : World → Prop} {l : List Oper}
theorem q28 {i j fuel : Nat} {o o' : Oper} {listed : Array Bool} {a : Act} {w : World} (hr : Region.ready md l.toArray listed = [i, j]) (ho : l[i]? = some o) (ho' : l[j]? = some o')
  (h : ∀ K' : Act → World → Prop, Shut (∀ a w, S w → (S w → wpAnyH P md l.toArray Q S fuel (listed.setIfInBounds i true) a w) → K' a w) → if Region.wanted o (yielded l.toArray a.tmps) = true then Oper.wp P o a w K' Q else K' (a.put o.dst undef) w)
  (h' : ∀ K' : Act → World → Prop, Shut (∀ a w, S w → (S w → wpAnyH P md l.toArray Q S fuel (listed.setIfInBounds j true) a w) → K' a w) → if Region.wanted o' (yielded l.toArray a.tmps) = true then Oper.wp P o' a w K' Q else K' (a.put o'.dst undef) w) :
  wpAnyH P md l.toArray Q S (fuel + 1) listed a w :=
 wpAnyH_ready hr (by simp) (AllReadyH.cons (by simpa using ho) h (AllReadyH.cons (by simpa using ho') h' AllReadyH.nil))
end
section
variable {P : Program} {md : Region.Mode} {Q : Exit → Act → World → Prop} {S : World → Prop} {l : List Oper}
theorem tkH {i fuel : Nat} {oi : Oper} {v : Value} {listed : Array Bool} {a : Act} {w : World} (hy : ∀ w, S w → (execOp a.eval oi).run P w = .ok (.value v) w) (h : wpAnyH P md l.toArray Q S fuel (listed.setIfInBounds i true) (a.put oi.dst v) w)
  (hi : l[i]? = some oi := by rfl) (hs : Region.noSelect l.toArray = true := by kernel_rfl) (hf : Region.free md l.toArray listed i = true := by kernel_rfl) (hr : (Region.ready md l.toArray listed).contains i = true := by kernel_rfl)
  (hQ : ∀ c a w, Q (.panic c) (a.put oi.dst v) w → Q (.panic c) a w := by exact fun _ _ _ h => h) (hw : Region.wanted oi (yielded l.toArray a.tmps) = true := by rfl) (hS : S w := by assumption) : wpAnyH P md l.toArray Q S (fuel + 1) listed a w :=
 q90 hi hs hf hr hQ hw hy hS h
end
section
variable {P : Program} {md : Region.Mode} {Q : Exit → Act → World → Prop} {S : World → Prop} {l : List Oper}
theorem tkS {i fuel : Nat} {oi : Oper} {v : Value} {listed : Array Bool} {a : Act} {w : World} (h : wpAnyH P md l.toArray Q S fuel (listed.setIfInBounds i true) (a.put oi.dst v) w)
  (hi : l[i]? = some oi := by rfl) (hs : Region.noSelect l.toArray = true := by kernel_rfl) (hf : Region.free md l.toArray listed i = true := by kernel_rfl) (hr : (Region.ready md l.toArray listed).contains i = true := by kernel_rfl)
  (hQ : ∀ c a w, Q (.panic c) (a.put oi.dst v) w → Q (.panic c) a w := by exact fun _ _ _ h => h) (hw : Region.wanted oi (yielded l.toArray a.tmps) = true := by rfl) (hS : S w := by assumption)
  (hy : ∀ w, S w → (execOp a.eval oi).run P w = .ok (.value v) w := by intro w _; go_simp <;> with_reducible rfl) : wpAnyH P md l.toArray Q S (fuel + 1) listed a w :=
 q90 hi hs hf hr hQ hw hy hS h
theorem stH {i fuel : Nat} {o : Oper} {listed : Array Bool} {a : Act} {w : World}
  (h : ∀ K' : Act → World → Prop, Shut (∀ a w, S w → (S w → wpAnyH P md l.toArray Q S fuel (listed.setIfInBounds i true) a w) → K' a w) → if Region.wanted o (yielded l.toArray a.tmps) = true then Oper.wp P o a w K' Q else K' (a.put o.dst undef) w)
  (ho : l[i]? = some o := by rfl) (hr : Region.ready md l.toArray listed = [i] := by kernel_rfl) : wpAnyH P md l.toArray Q S (fuel + 1) listed a w := qdF hr ho h
end
theorem qA {α : Type} (xs : List α) (i : Nat) (a : α) : xs.toArray.setIfInBounds i a = (xs.set i a).toArray := by simp
theorem qB {α : Type} (x : α) (xs : List α) (a : α) : (x :: xs).set 0 a = a :: xs := rfl
theorem qC {α : Type} (x : α) (xs : List α) (n : Nat) (a : α) : (x :: xs).set (n + 1) a = x :: xs.set n a := rfl
open Go.RowKit
theorem q7D (x : MR) (w : World) (ho : okR x.r) (hx : OkMR w w.heap.size x) :
  Calls Tryz.prog 44 #[q0t x] w fun r w' => r = .returned (.bool (q21 x.r)) ∧ Below w.heap.size w w' := by
 obtain ⟨⟨xf, xl, xb, xo, xr, xw⟩, xA, xc, xB, xd⟩ := x
 unfold q0t
 have HOk := qh hx
 have HO := qh ho
 clear hx ho
 simp only at HOk HO
 go_enter Tryz.func44, Tryz.ntmps44
 go_upto_region 1 with fail
 obtain ⟨w1, hw1⟩ : ∃ y, w.alloc (.cells #[.int .u64 xf, .int .u64 xl, .int .u64 xb, .int .u64 xo, .slice xA xr.length xc, .slice xB xw.length xd] 86) = y := ⟨_, rfl⟩
 rw [hw1]
 have hb1 : Below w.heap.size w w1 := by rw [← hw1]; exact (Below.refl _ w).alloc (Nat.le_refl _) _
 have hx1 : w1.heap[w.heap.size]? = some (.cells #[.int .u64 xf, .int .u64 xl, .int .u64 xb, .int .u64 xo, .slice xA xr.length xc, .slice xB xw.length xd] 86 (0, 0)) := by rw [← hw1]; exact heap_alloc_new w _
 clear hw1
 have HB1 := qh hb1
 have HCl := qh (fun (W : World) (h : Below w1.heap.size w1 W) => q0W (q01 hx1 h (q00 hx1)))
 have HR := qh (HOk.out.reads.below hb1 (Nat.le_refl _) hb1.size)
 have HW := qh (HOk.out.writes.below hb1 (Nat.le_refl _) hb1.size)
 have hf := HOk.out.first
 have hl := HOk.out.last
 have hbg := HOk.out.began
 simp only at hf hl hbg
 have HN1 := qh (q3Y xr xA xc w1 (by have := HO.out.1; simp only at this; omega) HR.out.2.2.2)
 have HN2 := qh (fun (W : World) (h : Below w1.heap.size w1 W) => q3Y xw xB xd W (by have := HO.out.2; simp only at this; omega) (HW.out.below h (Nat.le_refl _) h.size).2.2.2)
 clear hb1 hx1 HOk HO
 by_cases g0 : 1 ≤ xf
 case neg =>
  have d0 : decide ((1 : Int) ≤ (xf : Int)) = false := by rw [decide_eq_false_iff_not]; omega
  have e0 : decide (1 ≤ xf) = false := by rw [decide_eq_false_iff_not]; omega
  have HF := qh (show q21 ⟨xf, xl, xb, xo, xr, xw⟩ = false by simp [q21, g0])
  obtain ⟨z0, z1, z2, z3, z4, z5⟩ := HCl.out _ (Below.refl _ _)
  clear g0 HN1 HN2
  go_wp2_with fail
  go_ret
  rw [HF.out]
  exact ⟨rfl, HB1.out⟩
 have d0 : decide ((1 : Int) ≤ (xf : Int)) = true := by rw [decide_eq_true_iff]; omega
 have e0 : decide (1 ≤ xf) = true := by rw [decide_eq_true_iff]; omega
 by_cases g1 : xf ≤ xl
 case neg =>
  have d1 : decide ((xf : Int) ≤ (xl : Int)) = false := by rw [decide_eq_false_iff_not]; omega
  have e1 : decide (xf ≤ xl) = false := by rw [decide_eq_false_iff_not]; omega
  have HF := qh (show q21 ⟨xf, xl, xb, xo, xr, xw⟩ = false by simp [q21, g1])
  obtain ⟨z0, z1, z2, z3, z4, z5⟩ := HCl.out _ (Below.refl _ _)
  clear g1 HN1 HN2
  go_wp2_with fail
  go_ret
  rw [HF.out]
  exact ⟨rfl, HB1.out⟩
 have d1 : decide ((xf : Int) ≤ (xl : Int)) = true := by rw [decide_eq_true_iff]; omega
 have e1 : decide (xf ≤ xl) = true := by rw [decide_eq_true_iff]; omega
 by_cases g2 : xb ≤ xl
 case neg =>
  have d2 : decide ((xb : Int) ≤ (xl : Int)) = false := by rw [decide_eq_false_iff_not]; omega
  have e2 : decide (xb ≤ xl) = false := by rw [decide_eq_false_iff_not]; omega
  have HF := qh (show q21 ⟨xf, xl, xb, xo, xr, xw⟩ = false by simp [q21, g2])
  obtain ⟨z0, z1, z2, z3, z4, z5⟩ := HCl.out _ (Below.refl _ _)
  clear g2 HN1 HN2
  go_wp2_with fail
  go_ret
  rw [HF.out]
  exact ⟨rfl, HB1.out⟩
 have d2 : decide ((xb : Int) ≤ (xl : Int)) = true := by rw [decide_eq_true_iff]; omega
 have e2 : decide (xb ≤ xl) = true := by rw [decide_eq_true_iff]; omega
 have HRt := qh (show q21 ⟨xf, xl, xb, xo, xr, xw⟩ = (q2G xr && q2G xw) by simp [q21, g0, g1, g2])
 clear g0 g1 g2
 obtain ⟨z0, z1, z2, z3, z4, z5⟩ := HCl.out _ (Below.refl _ _)
 go_wp2_with fail
 refine HN1.out.mono ?_
 rintro r w2 ⟨rfl, hb2⟩
 clear z0 z1 z2 z3 z4 z5 HN1
 obtain ⟨z0, z1, z2, z3, z4, z5⟩ := HCl.out _ hb2
 have HN := qh (HN2.out w2 hb2)
 have HB2 := qh (HB1.out.trans (hb2.mono HB1.out.size))
 clear hb2 HN2
 cases q : q2G xr with
 | false =>
  have HF := qh (show q21 ⟨xf, xl, xb, xo, xr, xw⟩ = false by rw [HRt.out, q]; rfl)
  go_wp2_with fail
  go_ret
  rw [HF.out]
  exact ⟨rfl, HB2.out⟩
 | true =>
  go_wp2_with fail
  refine HN.out.mono ?_
  rintro r w3 ⟨rfl, hb3⟩
  have HF := qh (show q21 ⟨xf, xl, xb, xo, xr, xw⟩ = q2G xw by rw [HRt.out, q]; rfl)
  have HB3 := qh (HB2.out.trans (hb3.mono HB2.out.size))
  clear hb3
  cases q2 : q2G xw
  all_goals
   go_wp2_with fail
   go_ret
   rw [HF.out, q2]
   exact ⟨rfl, HB3.out⟩
end Go.Proofs.YtdpbllacfljmoaaGreat
