import Derived.Test.YtdpbllacfljmoaaGreatZB09
import Derived.Test.YtdpbllacfljmoaaGreatZB06
set_option maxRecDepth 100000
set_option maxHeartbeats 16000000
set_option linter.unusedVariables false
namespace Go.Proofs.YtdpbllacfljmoaaGreat
open Go.RowKit
theorem fT_c (L : LimT) : FitC (FT L) (fitN L.marks) :=
 ⟨fun l => qcI (q1C l), fun l k hk => qfB (q1C l) (by rw [q3x]; exact hk), fun l => qfd (q0a l), by
  show fitI L.marks (q0a []) = []
  exact q7r (Nat.zero_le _)⟩
theorem qcG (L : LimT) (l : List Sp) : (FT L l).length ≤ l.length := Nat.le_trans (q3g (q0a l)) (q1s l)
theorem qfz (L : LimT) : q8D (FT L) = fun a b => fitI L.marks (q0a (a ++ b)) := by
 funext a b
 show fitI L.marks (q0a (q0a (a ++ b))) = _
 rw [← q46 (q1C (a ++ b)) fun _ => rfl]
structure RunT (St : q2p) (w W : World) (p : Nat) (F : Nat → Prop) (L : LimT) (b : q05) (k : Nat) : Prop where
 st : St w.heap.size W p F L b
 bel : Below w.heap.size w W
 ok : OkTx L (fitN L.marks) b
 wgt : WgtT b ≤ 5 * k
 small : qan b
section
variable {St : q2p} {w W W' : World} {p : Nat} {F F' : Nat → Prop} {L : LimT} {b : q05} {k : Nat}
theorem RunT.few (h : RunT St w W p F L b k) (hk : k ≤ 198) : q0I b := ⟨by have := h.wgt; omega, h.small⟩
theorem RunT.next (K : TxnC St) (h : RunT St w W p F L b k) (hb : Below W.heap.size W W') : RunT St w W' p F L b k :=
 ⟨K.keep h.st (fun g _ hg => hb.block g hg) hb.size, h.bel.trans (hb.mono h.bel.size), h.ok, h.wgt, h.small⟩
theorem RunT.of (K : TxnC St) (hst : St w.heap.size W p F L q3t) (hb : Below w.heap.size w W) : RunT St w W p F L q3t 0 := by
 have h := (K.okay hst).1
 unfold MayT at h
 simp only [Bool.and_eq_true, decide_eq_true_eq] at h
 exact ⟨hst, hb, qaO h.1.1.1 (by omega), Nat.zero_le _, fun t ht => by cases ht⟩
theorem RunT.turn' (K : TxnC St) (h : RunT St w W p F L b k) (o : OpT) (hw : q2i o.w) (hst : St w.heap.size W' p F' L (q1T (FT L) L b o).1) (hm : Mut F W W') : RunT St w W' p F' L (q1T (FT L) L b o).1 (k + 1) := by
 refine ⟨hst, h.bel.trans (hm.below h.bel.size fun g hg => (K.upto h.st g hg).1), h.ok.does (fT_c L) o, ?_, qa7 h.small hw⟩
 have h1 := qf9 (qcG L) h.ok o
 have h2 := h.wgt
 omega
theorem RunT.turn (K : TxnC St) (h : RunT St w W p F L b k) (o : OpT) (hw : q2i o.w) (ht : q23 St w.heap.size W p F L (q1T (FT L) L b o).1 W' F') : RunT St w W' p F' L (q1T (FT L) L b o).1 (k + 1) := h.turn' K o hw ht.1 ht.2.1
theorem qfg : q2i ⟨[], false, []⟩ := ⟨Nat.zero_le _, Nat.zero_le _⟩
theorem RunT.begin_ (K : TxnC St) (h : RunT St w W p F L b k) (ht : q23 St w.heap.size W p F L (q0w L b).1 W' F') : RunT St w W' p F' L (q0w L b).1 (k + 1) := h.turn K ⟨0, 0, ⟨[], false, []⟩, []⟩ qfg ht
theorem RunT.read (K : TxnC St) (h : RunT St w W p F L b k) {id : Int} {key : KeyS} (hk : key.length ≤ 300) (ht : q23 St w.heap.size W p F L (q0F (FT L) b id key).1 W' F') : RunT St w W' p F' L (q0F (FT L) b id key).1 (k + 1) := h.turn K ⟨1, id, ⟨key, false, []⟩, []⟩ ⟨hk, Nat.zero_le _⟩ ht
theorem RunT.scan (K : TxnC St) (h : RunT St w W p F L b k) {id : Int} {lo hi : KeyS} (hk : lo.length ≤ 300) (ht : q23 St w.heap.size W p F L (q0X (FT L) b id lo hi).1 W' F') : RunT St w W' p F' L (q0X (FT L) b id lo hi).1 (k + 1) := h.turn K ⟨2, id, ⟨lo, false, []⟩, hi⟩ ⟨hk, Nat.zero_le _⟩ ht
theorem RunT.write (K : TxnC St) (h : RunT St w W p F L b k) {id : Int} {x : Wr} (hx : q2i x) (hst : St w.heap.size W' p F' L (q0G b id x).1) (hm : Mut F W W') : RunT St w W' p F' L (q0G b id x).1 (k + 1) := h.turn' K ⟨3, id, x, []⟩ hx hst hm
theorem RunT.commit (K : TxnC St) (h : RunT St w W p F L b k) {id : Int} (ht : q23 St w.heap.size W p F L (q0o (FT L) L b id).1 W' F') : RunT St w W' p F' L (q0o (FT L) L b id).1 (k + 1) := h.turn K ⟨4, id, ⟨[], false, []⟩, []⟩ qfg ht
theorem RunT.data (K : TxnC St) (h : RunT St w W p F L b k) {A : Option Addr} {c : Nat} {d : List UInt8} (hd : SlI W' W.heap.size W'.heap.size A c d) : ByS W' (fun k => k < w.heap.size ∨ (w.heap.size ≤ k ∧ ¬ F k)) A c d :=
 ⟨hd.1, hd.2.1, hd.2.2.1, RdS.of_rd hd.2.2.2 fun g h1 _ => .inr ⟨Nat.le_trans h.bel.size h1, fun hf => by have := (K.upto h.st g hf).2; omega⟩⟩
def DidT (St : q2p) (w W : World) (p : Nat) (F : Nat → Prop) (L : LimT) (b : q05) (k : Nat) (o : OpT) (r : Ending) (W' : World) : Prop :=
 ∃ (A B : Option Addr) (c d : Nat) (F' : Nat → Prop), r = .returned (q1X (q1T (FT L) L b o).2 A c B d) ∧ qb9 W' (ResT F' w.heap.size W) (q1T (FT L) L b o).2 A c B d ∧ RunT St w W' p F' L (q1T (FT L) L b o).1 (k + 1) ∧ Mut F W W' ∧ ∀ g, F' g → F g ∨ W.heap.size ≤ g
theorem qay (K : TxnC St) (h : RunT St w W p F L b k) (hk : k ≤ 198) (o : OpT) (A : Option Addr) (c : Nat) (hw : q2i o.w) (hhi : o.hi.length ≤ 300) (harg : OkOT W w.heap.size ⟨o, A, c⟩) :
  Calls Tryz.prog 18 #[ptrS p, qdu o A c] W (DidT St w W p F L b k o) :=
 (qcC K w.heap.size o A c p F L b W h.st (h.few hk) hw hhi harg h.bel.size).mono fun r W' ⟨A9, B9, c9, d9, F', e, ht, hT⟩ => ⟨A9, B9, c9, d9, F', e, ht, h.turn K o hw hT, hT.2.1, hT.2.2⟩
end
open Go.RowKit
def lvA : q05 := (q0w BigT q3t).1
def lvB : q05 := (q0w BigT lvA).1
def lvC : q05 := (q0G lvB 1 ⟨[98], false, [49]⟩).1
def lvD : q05 := (q0G lvC 2 ⟨[98], false, [50]⟩).1
def lvE : q05 := (q0o (FT BigT) BigT lvD 1).1
def lvF : q05 := (q0o (FT BigT) BigT lvE 2).1
theorem qgh : (q0w BigT q3t).2 = ⟨1, 0, [], false, []⟩ := by kernel_rfl
theorem qgi : (q0w BigT lvA).2 = ⟨2, 0, [], false, []⟩ := by kernel_rfl
theorem qgz : (q0G lvB 1 ⟨[98], false, [49]⟩).2 = ⟨0, 0, [], false, []⟩ := by kernel_rfl
theorem qgA : (q0G lvC 2 ⟨[98], false, [50]⟩).2 = ⟨0, 0, [], false, []⟩ := by kernel_rfl
theorem qgB : (q0o (FT BigT) BigT lvD 1).2 = ⟨1, 0, [], false, []⟩ := by kernel_rfl
theorem qgD : (q0o (FT BigT) BigT lvE 2).2 = ⟨0, 100, [], false, []⟩ := by kernel_rfl
theorem qgC : q1F lvF.st.K [] [] lvF.st.time = [([98], [49])] := by kernel_rfl
def skC : q05 := (q0F (FT BigT) lvB 1 [97]).1
def skD : q05 := (q0G skC 1 ⟨[98], false, [49]⟩).1
def skE : q05 := (q0F (FT BigT) skD 2 [98]).1
def skF : q05 := (q0G skE 2 ⟨[97], false, [49]⟩).1
def skG : q05 := (q0o (FT BigT) BigT skF 1).1
def skH : q05 := (q0o (FT BigT) BigT skG 2).1
theorem qgE : (q0F (FT BigT) lvB 1 [97]).2 = ⟨0, 0, [], false, []⟩ := by kernel_rfl
theorem qgF : (q0G skC 1 ⟨[98], false, [49]⟩).2 = ⟨0, 0, [], false, []⟩ := by kernel_rfl
theorem qgG : (q0F (FT BigT) skD 2 [98]).2 = ⟨0, 0, [], false, []⟩ := by kernel_rfl
theorem qgH : (q0G skE 2 ⟨[97], false, [49]⟩).2 = ⟨0, 0, [], false, []⟩ := by kernel_rfl
theorem qgI : (q0o (FT BigT) BigT skF 1).2 = ⟨1, 0, [], false, []⟩ := by kernel_rfl
theorem qgJ : (q0o (FT BigT) BigT skG 2).2 = ⟨0, 101, [], false, []⟩ := by kernel_rfl
theorem q1j {n : Int} (h1 : 0 ≤ n) (h2 : n ≤ 1000) : I64 n := ⟨by omega, by omega⟩
theorem q40 : I64 BigT.s.keys ∧ I64 BigT.s.vers ∧ I64 BigT.s.byts ∧ BigT.s.last < 18446744073709551616 ∧ I64 BigT.marks ∧ I64 BigT.recs ∧ I64 BigT.live := by unfold I64 BigT; simp
theorem q7j {St : q2p} (K : TxnC St) {w : World} (W : World) (hb : Below w.heap.size w W) : Calls Tryz.prog 35 #[limT BigT] W fun r W' => ∃ p F, r = .returned (ptrS p) ∧ RunT St w W' p F BigT q3t 0 :=
 (qdd K BigT w.heap.size W hb.size q40.1 q40.2.1 q40.2.2.1 q40.2.2.2.1 q40.2.2.2.2.1 q40.2.2.2.2.2.1 q40.2.2.2.2.2.2).mono fun r W' ⟨h1, h2⟩ => by
  rw [if_pos qel] at h2
  obtain ⟨p, F, e, h3, h4⟩ := h2
  exact ⟨p, F, e, RunT.of K h3 (hb.trans (h1.mono hb.size))⟩
theorem qf2 {St : q2p} (K : TxnC St) (w : World) : Calls Tryz.prog 52 #[] w fun r w' => r = .returned (.int .i64 101) ∧ Below w.heap.size w w' := by
 go_enter Tryz.func52, Tryz.ntmps52
 go_wp2_with fail
 refine (q7i w).mono ?_
 rintro r w1 ⟨rfl, hb1⟩
 have HM := qh (q7j K w1 hb1)
 clear hb1
 go_wp2_with fail
 refine HM.out.mono ?_
 rintro r w2 ⟨p, F0, rfl, hr⟩
 have R0 := qh hr
 clear hr HM
 unfold ptrS
 have HK := qh K
 clear K
 have hT := HK.out.begin_ w.heap.size p F0 BigT q3t w2 R0.out.st (R0.out.few (by omega))
 rw [qgh] at hT
 have HT := qh hT
 clear hT
 unfold ptrS at HT
 go_wp2_with fail
 refine HT.out.mono ?_
 rintro r w3 ⟨rfl, F1, hQ⟩
 have R1 := qh (show RunT _ w w3 p F1 BigT lvA 1 from R0.out.begin_ HK.out hQ)
 clear HT hQ
 have hT := HK.out.begin_ w.heap.size p F1 BigT lvA w3 R1.out.st (R1.out.few (by omega))
 rw [qgi] at hT
 have HT := qh hT
 clear hT
 unfold ptrS at HT
 go_wp2_with fail
 refine HT.out.mono ?_
 rintro r w4 ⟨rfl, F2, hQ⟩
 have R2 := qh (show RunT _ w w4 p F2 BigT lvB 2 from R1.out.begin_ HK.out hQ)
 clear HT hQ
 have hT := HK.out.read w.heap.size p F2 BigT lvB 1 [97] w4 R2.out.st (R2.out.few (by omega)) (q1j (by omega) (by omega)) (by simp)
 rw [qgE] at hT
 have HT := qh hT
 clear hT
 unfold ptrS at HT
 go_wp2_with fail
 refine HT.out.mono ?_
 rintro r w5 ⟨AA, cc, F3, rfl, _, hQ⟩
 have R3 := qh (show RunT _ w w5 p F3 BigT skC 3 from R2.out.read HK.out (by simp) hQ)
 clear HT hQ
 have HT := qh (q5q [98] 49 w5)
 go_wp2_with fail
 refine HT.out.mono ?_
 rintro r w6 ⟨AA, cc, rfl, hs, hb⟩
 have HD := qh (R3.out.data HK.out hs)
 have R3 := qh (R3.out.next HK.out hb)
 clear HT hs hb
 have hT := HK.out.write w.heap.size p F3 BigT skC 1 ⟨[98], false, [49]⟩ AA cc w6 R3.out.st (R3.out.few (by omega)) (q1j (by omega) (by omega)) ⟨by simp, by simp⟩ HD.out
 rw [qgF] at hT
 have HT := qh hT
 clear hT
 unfold ptrS at HT
 go_wp2_with fail
 refine HT.out.mono ?_
 rintro r w7 ⟨rfl, F4, hQ, hm, _⟩
 have R4 := qh (show RunT _ w w7 p F4 BigT skD 4 from R3.out.write HK.out ⟨by simp, by simp⟩ hQ hm)
 clear HT HD hQ hm
 have hT := HK.out.read w.heap.size p F4 BigT skD 2 [98] w7 R4.out.st (R4.out.few (by omega)) (q1j (by omega) (by omega)) (by simp)
 rw [qgG] at hT
 have HT := qh hT
 clear hT
 unfold ptrS at HT
 go_wp2_with fail
 refine HT.out.mono ?_
 rintro r w8 ⟨AA, cc, F5, rfl, _, hQ⟩
 have R5 := qh (show RunT _ w w8 p F5 BigT skE 5 from R4.out.read HK.out (by simp) hQ)
 clear HT hQ
 have HT := qh (q5q [97] 49 w8)
 go_wp2_with fail
 refine HT.out.mono ?_
 rintro r w9 ⟨AA, cc, rfl, hs, hb⟩
 have HD := qh (R5.out.data HK.out hs)
 have R5 := qh (R5.out.next HK.out hb)
 clear HT hs hb
 have hT := HK.out.write w.heap.size p F5 BigT skE 2 ⟨[97], false, [49]⟩ AA cc w9 R5.out.st (R5.out.few (by omega)) (q1j (by omega) (by omega)) ⟨by simp, by simp⟩ HD.out
 rw [qgH] at hT
 have HT := qh hT
 clear hT
 unfold ptrS at HT
 go_wp2_with fail
 refine HT.out.mono ?_
 rintro r w10 ⟨rfl, F6, hQ, hm, _⟩
 have R6 := qh (show RunT _ w w10 p F6 BigT skF 6 from R5.out.write HK.out ⟨by simp, by simp⟩ hQ hm)
 clear HT HD hQ hm
 have hT := HK.out.commit w.heap.size p F6 BigT skF 1 w10 R6.out.st (R6.out.few (by omega)) (q1j (by omega) (by omega))
 rw [qgI] at hT
 have HT := qh hT
 clear hT
 unfold ptrS at HT
 go_wp2_with fail
 refine HT.out.mono ?_
 rintro r w11 ⟨rfl, F7, hQ⟩
 have R7 := qh (show RunT _ w w11 p F7 BigT skG 7 from R6.out.commit HK.out hQ)
 clear HT hQ
 have hT := HK.out.commit w.heap.size p F7 BigT skG 2 w11 R7.out.st (R7.out.few (by omega)) (q1j (by omega) (by omega))
 rw [qgJ] at hT
 have HT := qh hT
 clear hT
 unfold ptrS at HT
 go_wp2_with fail
 refine HT.out.mono ?_
 rintro r w12 ⟨rfl, F8, hQ⟩
 have R8 := qh (show RunT _ w w12 p F8 BigT skH 8 from R7.out.commit HK.out hQ)
 clear HT hQ
 go_wp2_with fail
 go_ret
 exact ⟨rfl, R8.out.bel⟩
theorem qd8 {St : q2p} (K : TxnC St) (w : World) : Calls Tryz.prog 12 #[] w fun r w' => r = .returned (.bool true) ∧ Below w.heap.size w w' := by
 go_enter Tryz.func12, Tryz.ntmps12
 go_wp2_with fail
 refine (q7i w).mono ?_
 rintro r w1 ⟨rfl, hb1⟩
 have HM := qh (q7j K w1 hb1)
 clear hb1
 go_wp2_with fail
 refine HM.out.mono ?_
 rintro r w2 ⟨p, F0, rfl, hr⟩
 have R0 := qh hr
 clear hr HM
 unfold ptrS
 have HK := qh K
 clear K
 have hT := HK.out.begin_ w.heap.size p F0 BigT q3t w2 R0.out.st (R0.out.few (by omega))
 rw [qgh] at hT
 have HT := qh hT
 clear hT
 unfold ptrS at HT
 go_wp2_with fail
 refine HT.out.mono ?_
 rintro r w3 ⟨rfl, F1, hQ⟩
 have R1 := qh (show RunT _ w w3 p F1 BigT lvA 1 from R0.out.begin_ HK.out hQ)
 clear HT hQ
 have hT := HK.out.begin_ w.heap.size p F1 BigT lvA w3 R1.out.st (R1.out.few (by omega))
 rw [qgi] at hT
 have HT := qh hT
 clear hT
 unfold ptrS at HT
 go_wp2_with fail
 refine HT.out.mono ?_
 rintro r w4 ⟨rfl, F2, hQ⟩
 have R2 := qh (show RunT _ w w4 p F2 BigT lvB 2 from R1.out.begin_ HK.out hQ)
 clear HT hQ
 have HT := qh (q5q [98] 49 w4)
 go_wp2_with fail
 refine HT.out.mono ?_
 rintro r w5 ⟨AA, cc, rfl, hs, hb⟩
 have HD := qh (R2.out.data HK.out hs)
 have R2 := qh (R2.out.next HK.out hb)
 clear HT hs hb
 have hT := HK.out.write w.heap.size p F2 BigT lvB 1 ⟨[98], false, [49]⟩ AA cc w5 R2.out.st (R2.out.few (by omega)) (q1j (by omega) (by omega)) ⟨by simp, by simp⟩ HD.out
 rw [qgz] at hT
 have HT := qh hT
 clear hT
 unfold ptrS at HT
 go_wp2_with fail
 refine HT.out.mono ?_
 rintro r w6 ⟨rfl, F3, hQ, hm, _⟩
 have R3 := qh (show RunT _ w w6 p F3 BigT lvC 3 from R2.out.write HK.out ⟨by simp, by simp⟩ hQ hm)
 clear HT HD hQ hm
 have HT := qh (q5q [98] 50 w6)
 go_wp2_with fail
 refine HT.out.mono ?_
 rintro r w7 ⟨AA, cc, rfl, hs, hb⟩
 have HD := qh (R3.out.data HK.out hs)
 have R3 := qh (R3.out.next HK.out hb)
 clear HT hs hb
 have hT := HK.out.write w.heap.size p F3 BigT lvC 2 ⟨[98], false, [50]⟩ AA cc w7 R3.out.st (R3.out.few (by omega)) (q1j (by omega) (by omega)) ⟨by simp, by simp⟩ HD.out
 rw [qgA] at hT
 have HT := qh hT
 clear hT
 unfold ptrS at HT
 go_wp2_with fail
 refine HT.out.mono ?_
 rintro r w8 ⟨rfl, F4, hQ, hm, _⟩
 have R4 := qh (show RunT _ w w8 p F4 BigT lvD 4 from R3.out.write HK.out ⟨by simp, by simp⟩ hQ hm)
 clear HT HD hQ hm
 have hT := HK.out.commit w.heap.size p F4 BigT lvD 1 w8 R4.out.st (R4.out.few (by omega)) (q1j (by omega) (by omega))
 rw [qgB] at hT
 have HT := qh hT
 clear hT
 unfold ptrS at HT
 go_wp2_with fail
 refine HT.out.mono ?_
 rintro r w9 ⟨rfl, F5, hQ⟩
 have R5 := qh (show RunT _ w w9 p F5 BigT lvE 5 from R4.out.commit HK.out hQ)
 clear HT hQ
 have hT := HK.out.commit w.heap.size p F5 BigT lvE 2 w9 R5.out.st (R5.out.few (by omega)) (q1j (by omega) (by omega))
 rw [qgD] at hT
 have HT := qh hT
 clear hT
 unfold ptrS at HT
 go_wp2_with fail
 refine HT.out.mono ?_
 rintro r w10 ⟨rfl, F6, hQ⟩
 have R6 := qh (show RunT _ w w10 p F6 BigT lvF 6 from R5.out.commit HK.out hQ)
 clear HT hQ
 have hT := HK.out.all w.heap.size p F6 BigT lvF w10 R6.out.st
 rw [qgC] at hT
 have HT := qh hT
 clear hT
 unfold ptrS at HT
 go_wp2_with fail
 refine HT.out.mono ?_
 rintro r w11 ⟨A9, c9, rfl, hs9, hb9⟩
 have HB9 := qh (R6.out.bel.trans (hb9.mono R6.out.bel.size))
 obtain ⟨hl9, hc9, hn9, ms, hms, hrow, hel⟩ := hs9
 have hml : ms.length = 1 := by
  have h := congrArg List.length hms
  rw [List.length_map] at h
  exact h
 obtain ⟨y, rfl⟩ := List.length_eq_one_iff.1 hml
 clear hml
 have hy : y.p = ([98], [49]) := by simpa using hms
 obtain ⟨bb, ob, rfl, _, hcell⟩ := hrow (by simp)
 have q0 := hcell 0 _ rfl
 have q1 := hcell 1 _ rfl
 simp only [Nat.add_zero] at q0
 obtain ⟨yk, yb, yA, yc⟩ := y
 obtain ⟨rfl, rfl⟩ : yk = [98] ∧ yb = [49] := by
  unfold MP.p at hy
  simp only at hy
  injection hy with h1 h2
  exact ⟨h1, h2⟩
 have hby := hel _ (List.mem_singleton.2 rfl)
 have hcv : (convert 35 9 (.slice yA 1 yc)).run Tryz.prog w11 = .ok (.string ⟨#[49]⟩) w11 := qci (m := [49]) 35 9 5 Tryz.underlying35 Tryz.underlying5 Tryz.underlying9 rfl hby.2.2.2.rd
 have HSk := qh (qf2 HK.out w11)
 clear hb9 hms hrow hel hcell hy hby HT
 go_wp2_with fail
 refine HSk.out.mono ?_
 rintro r w40 ⟨rfl, hb40⟩
 have HB40 := qh (HB9.out.trans (hb40.mono HB9.out.size))
 clear hb40
 go_wp2_with fail
 go_ret
 exact ⟨rfl, HB40.out⟩
theorem qdr {b : q05} {u : TxS} {id : Int} : ofT (setT b u) id = (ofT b id).map fun x => if x.id = u.id then u else x := by
 unfold ofT setT
 simp only
 rw [List.find?_map]
 congr 2
 funext x
 simp only [Function.comp]
 split
 ·rename_i h; rw [h]
 ·rfl
theorem q8Q {b : q05} {u t : TxS} {id : Int} (h : ofT b id = some t) (hu : (u.id : Int) ≠ id) : ofT (setT b u) id = some t := by
 rw [qdr, h]
 have := (q1d h).2
 show some (if t.id = u.id then u else t) = some t
 rw [if_neg (by omega)]
theorem qeR {b : q05} {u t : TxS} {id : Int} (h : ofT b id = some t) (hu : u.id = t.id) : ofT (setT b u) id = some u := by
 rw [qdr, h]
 show some (if t.id = u.id then u else t) = some u
 rw [if_pos hu.symm]
section
variable {F : List Sp → List Sp} {M : Nat}
theorem q4w {L : LimT} {b : q05} {u t : TxS} {id : Int} (h : ofT b id = some t) (hu : (u.id : Int) ≠ id) : ofT (q2t F L b u) id = some t := by
 unfold ofT q2t at *
 simp only
 rw [List.find?_filter]
 rw [← h]
 congr 1
 funext x
 by_cases e : (x.id : Int) = id
 ·have : x.id ≠ u.id := fun h2 => hu (by omega)
  simp [e, this]
 ·simp [e]
structure q2U (b b' : q05) (id : Int) (t t' : TxS) : Prop where
 of : ofT b' id = some t'
 began : t'.began = t.began
 start : t'.start = t.start
 ws : t'.ws = t.ws
 read : ∀ k, q0V b'.st.K k t.began = q0V b.st.K k t.began
theorem q36 {L : LimT} {b : q05} (h : OkTx L M b) {id : Int} {t : TxS} (ht : ofT b id = some t) (o : OpT) (ho : o.id = id → o.what ≠ 3 ∧ o.what ≠ 4 ∧ o.what ≠ 5) :
  ∃ t', q2U b (q1T F L b o).1 id t t' := by
 obtain ⟨hmem, hid⟩ := q1d ht
 have hlow := q8J hmem
 have hbg := h.began t hmem
 have same : ∀ b' : q05, b'.st = b.st → ofT b' id = some t → ∃ t', q2U b b' id t t' := fun b' e1 e2 => ⟨t, e2, rfl, rfl, rfl, fun k => by rw [e1]⟩
 have mark : ∀ (u u' : TxS), ofT b o.id = some u → u'.id = u.id → u'.began = u.began → u'.start = u.start → u'.ws = u.ws → ∃ t', q2U b (setT b u') id t t' := fun u u' hu e1 e2 e3 e4 => by
  obtain ⟨_, hu2⟩ := q1d hu
  by_cases e : o.id = id
  ·rw [e, ht] at hu
   cases hu
   exact ⟨u', qeR ht e1, e2, e3, e4, fun k => rfl⟩
  ·exact same _ rfl (q8Q ht (by rw [e1, hu2]; exact e))
 unfold q1T
 split
 ·unfold q0w
  split
  ·exact same _ rfl ht
  ·refine same _ rfl ?_
   unfold ofT at *
   simp only
   rw [List.find?_append, ht]
   rfl
 ·split
  ·unfold q0F
   cases hu : ofT b o.id with
   | none => exact same _ rfl ht
   | some u =>
    simp only
    split
    ·exact same _ rfl ht
    ·exact mark u _ hu rfl rfl rfl rfl
  ·split
   ·unfold q0X
    cases hu : ofT b o.id with
    | none => exact same _ rfl ht
    | some u =>
     simp only
     split
     ·exact same _ rfl ht
     ·exact mark u _ hu rfl rfl rfl rfl
   ·split
    ·rename_i h3
     unfold q0G
     cases hu : ofT b o.id with
     | none => exact same _ rfl ht
     | some u =>
      simp only
      obtain ⟨_, hu2⟩ := q1d hu
      split
      ·exact same _ rfl ht
      ·refine same _ rfl (q8Q ht ?_)
       show (u.id : Int) ≠ id
       rw [hu2]
       exact fun e => (ho e).1 h3
    ·split
     ·rename_i h4
      unfold q0o
      cases hu : ofT b o.id with
      | none => exact same _ rfl ht
      | some u =>
       obtain ⟨_, hu2⟩ := q1d hu
       have hne : (u.id : Int) ≠ id := by rw [hu2]; exact fun e => (ho e).2.1 h4
       simp only
       split
       ·exact same _ rfl (q4w ht hne)
       ·split
        ·exact same _ rfl (q4w ht hne)
        ·split
         ·exact ⟨t, q4w (b := ⟨_, b.live, b.recs, b.hist, b.last, b.event⟩) ht hne, rfl, rfl, rfl, fun k => q6k h.ok hbg hlow k⟩
         ·exact ⟨t, q4w (b := ⟨_, b.live, _, _, b.last, b.event + 1⟩) ht hne, rfl, rfl, rfl, fun k => q6k h.ok hbg hlow k⟩
     ·split
      ·rename_i h5
       unfold q1N
       cases hu : ofT b o.id with
       | none => exact same _ rfl ht
       | some u =>
        obtain ⟨_, hu2⟩ := q1d hu
        exact same _ rfl (q4w ht (by rw [hu2]; exact fun e => (ho e).2.2 h5))
      ·split
       ·exact ⟨t, ht, rfl, rfl, rfl, fun k => q2Q h.ok hlow k⟩
       ·exact same _ rfl ht
theorem q2U.trans {b b' b'' : q05} {id : Int} {t t' t'' : TxS} (h : q2U b b' id t t') (g : q2U b' b'' id t' t'') : q2U b b'' id t t'' :=
 ⟨g.of, g.began.trans h.began, g.start.trans h.start, g.ws.trans h.ws, fun k => by
  have := g.read k
  rw [h.began] at this
  rw [this, h.read k]⟩
theorem qbX {b b' : q05} {id : Int} {t t' : TxS} (ht : ofT b id = some t) (h : q2U b b' id t t') (key : KeyS) : (q0F F b' id key).2 = (q0F F b id key).2 := by
 unfold q0F
 rw [ht, h.of]
 simp only
 rw [h.ws]
 split
 ·rfl
 ·rw [h.began, h.read key]
theorem q7b {L : LimT} {b b' : q05} (ok : OkTx L M b) (ok' : OkTx L M b') {id : Int} {t t' : TxS} (ht : ofT b id = some t) (h : q2U b b' id t t') (lo hi : KeyS) : (q0X F b' id lo hi).2 = (q0X F b id lo hi).2 := by
 unfold q0X
 rw [ht, h.of]
 simp only
 split
 ·rfl
 ·rw [h.ws, h.began, q91 ok'.ok.sort ok.ok.sort fun k => h.read k]
end
section
variable {F : List Sp → List Sp} {M : Nat}
end
section
variable {F : List Sp → List Sp} {M : Nat}
end
section
variable {F : List Sp → List Sp} {M : Nat}
end
open Go.RowKit
structure TxnO (St : q2p) : Prop where
 read : ∀ (o p : Nat) (F : Nat → Prop) (L : LimT) (b : q05) (id : Int) (key : KeyS) (w : World), St o w p F L b → q0I b → I64 id → key.length ≤ 300 →
  Calls Tryz.prog 38 #[ptrS p, .int .i64 id, .string (bs key)] w fun r w' => ∃ A c F', r = .returned (.tuple #[.slice A (q0F (FT L) b id key).2.b.length c, .bool (q0F (FT L) b id key).2.is, .int .i64 (q0F (FT L) b id key).2.e]) ∧
   ByS w' (fun k => w.heap.size ≤ k ∧ ¬ F' k) A c (q0F (FT L) b id key).2.b ∧ q23 St o w p F L (q0F (FT L) b id key).1 w' F'
 scan : ∀ (o p : Nat) (F : Nat → Prop) (L : LimT) (b : q05) (id : Int) (lo hi : KeyS) (w : World), St o w p F L b → q0I b → I64 id → lo.length ≤ 300 → hi.length ≤ 300 →
  Calls Tryz.prog 39 #[ptrS p, .int .i64 id, .string (bs lo), .string (bs hi)] w fun r w' => ∃ A c F', r = .returned (.tuple #[.slice A (q0X (FT L) b id lo hi).2.scan.length c, .int .i64 (q0X (FT L) b id lo hi).2.e]) ∧
   PaS w' (fun k => w.heap.size ≤ k ∧ ¬ F' k) A c (q0X (FT L) b id lo hi).2.scan ∧ q23 St o w p F L (q0X (FT L) b id lo hi).1 w' F'
 all : ∀ (o p : Nat) (F : Nat → Prop) (L : LimT) (b : q05) (w : World), St o w p F L b → Calls Tryz.prog 33 #[ptrS p] w fun r w' => ∃ A c, r = .returned (.slice A (q1F b.st.K [] [] b.st.time).length c) ∧ PaS w' (fun k => w.heap.size ≤ k) A c (q1F b.st.K [] [] b.st.time) ∧ Below w.heap.size w w'
theorem qbD {St : q2p} (K : TxnC St) (w : World) : ∀ W, Below w.heap.size w W → Calls Tryz.prog 12 #[] W fun r w' => r = .returned (.bool true) ∧ Below w.heap.size w w' := fun W hb =>
 (qd8 K W).mono fun _ _ q => ⟨q.1, hb.trans (q.2.mono hb.size)⟩
theorem q8n {w : World} {l : List OpT} {A : Option Addr} {c : Nat} (h : ChOT w w.heap.size A c l) : ∀ W, Below w.heap.size w W → Calls Tryz.prog 13 #[.slice A l.length c] W fun r w' => r = .returned (.bool (fewT l)) ∧ Below w.heap.size w w' := fun W hb =>
 (qeA l A c w.heap.size W (h.below hb (Nat.le_refl _) (Nat.le_refl _)) hb.size).mono fun _ _ q => ⟨q.1, hb.trans (q.2.mono hb.size)⟩
theorem qc8 (w : World) : ∀ W, Below w.heap.size w W → Calls Tryz.prog 36 #[] W fun r w' => r = .returned (limT BigT) ∧ Below w.heap.size w w' := fun W hb =>
 (q7i W).mono fun _ _ q => ⟨q.1, hb.trans (q.2.mono hb.size)⟩
theorem qek {L : LimT} {b : q05} {M : Nat} (h : OkTx L M b) (hf : ¬ L.live ≤ (b.live.length : Int)) : (q0w L b).2 = ⟨b.last + 1, 0, [], false, []⟩ ∧ ofT (q0w L b).1 ((b.last + 1 : Nat) : Int) = some ⟨b.last + 1, b.st.time, b.event + 1, [], []⟩ := by
 unfold q0w
 rw [if_neg hf]
 refine ⟨rfl, ?_⟩
 unfold ofT
 simp only
 rw [List.find?_append, List.find?_eq_none.2 (fun t ht => by
  have := (h.last t ht).2
  simp only [decide_eq_true_iff]
  omega)]
 simp
theorem q9S {L : LimT} {b : q05} (hf : L.live ≤ (b.live.length : Int)) : q0w L b = (b, errT 5) := by
 unfold q0w
 rw [if_pos hf]
end Go.Proofs.YtdpbllacfljmoaaGreat
