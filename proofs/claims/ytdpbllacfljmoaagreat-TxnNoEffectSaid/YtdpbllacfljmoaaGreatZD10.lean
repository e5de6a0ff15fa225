import Derived.Test.YtdpbllacfljmoaaGreatZD09
import Derived.Test.YtdpbllacfljmoaaGreatZD06
import Derived.Deep.RegionHeld3
import Derived.KernelRfl
set_option maxRecDepth 100000
set_option maxHeartbeats 16000000
set_option linter.unusedVariables false
namespace Go.Proofs.YtdpbllacfljmoaaGreat
open Go.RowKit
theorem fT_c (L : LimT) : FitC (FT L) (fitN L.marks) :=
 ⟨fun l => qcE (q1C l), fun l k hk => qfr (q1C l) (by rw [q3z]; exact hk), fun l => qf5 (q0a l), by
  show fitI L.marks (q0a []) = []
  exact q7p (Nat.zero_le _)⟩
theorem qcB (L : LimT) (l : List Sp) : (FT L l).length ≤ l.length := Nat.le_trans (q3d (q0a l)) (q1p l)
theorem qfp (L : LimT) : q8A (FT L) = fun a b => fitI L.marks (q0a (a ++ b)) := by
 funext a b
 show fitI L.marks (q0a (q0a (a ++ b))) = _
 rw [← q48 (q1C (a ++ b)) fun _ => rfl]
structure RunT (St : q2p) (w W : World) (p : Nat) (F : Nat → Prop) (L : LimT) (b : q08) (k : Nat) : Prop where
 st : St w.heap.size W p F L b
 bel : Below w.heap.size w W
 ok : OkTx L (fitN L.marks) b
 wgt : WgtT b ≤ 5 * k
 small : qag b
section
variable {St : q2p} {w W W' : World} {p : Nat} {F F' : Nat → Prop} {L : LimT} {b : q08} {k : Nat}
theorem RunT.few (h : RunT St w W p F L b k) (hk : k ≤ 198) : q0H b := ⟨by have := h.wgt; omega, h.small⟩
theorem RunT.next (K : TxnC St) (h : RunT St w W p F L b k) (hb : Below W.heap.size W W') : RunT St w W' p F L b k :=
 ⟨K.keep h.st (fun g _ hg => hb.block g hg) hb.size, h.bel.trans (hb.mono h.bel.size), h.ok, h.wgt, h.small⟩
theorem RunT.of (K : TxnC St) (hst : St w.heap.size W p F L q3u) (hb : Below w.heap.size w W) : RunT St w W p F L q3u 0 := by
 have h := (K.okay hst).1
 unfold MayT at h
 simp only [Bool.and_eq_true, decide_eq_true_eq] at h
 exact ⟨hst, hb, qaK h.1.1.1 (by omega), Nat.zero_le _, fun t ht => by cases ht⟩
theorem RunT.turn' (K : TxnC St) (h : RunT St w W p F L b k) (o : OpT) (hw : q2h o.w) (hst : St w.heap.size W' p F' L (q0Q (FT L) L b o).1) (hm : Mut F W W') : RunT St w W' p F' L (q0Q (FT L) L b o).1 (k + 1) := by
 refine ⟨hst, h.bel.trans (hm.below h.bel.size fun g hg => (K.upto h.st g hg).1), h.ok.does (fT_c L) o, ?_, qa0 h.small hw⟩
 have h1 := qf3 (qcB L) h.ok o
 have h2 := h.wgt
 omega
theorem RunT.turn (K : TxnC St) (h : RunT St w W p F L b k) (o : OpT) (hw : q2h o.w) (ht : q21 St w.heap.size W p F L (q0Q (FT L) L b o).1 W' F') : RunT St w W' p F' L (q0Q (FT L) L b o).1 (k + 1) := h.turn' K o hw ht.1 ht.2.1
theorem qf8 : q2h ⟨[], false, []⟩ := ⟨Nat.zero_le _, Nat.zero_le _⟩
theorem RunT.begin_ (K : TxnC St) (h : RunT St w W p F L b k) (ht : q21 St w.heap.size W p F L (q0J L b).1 W' F') : RunT St w W' p F' L (q0J L b).1 (k + 1) := h.turn K ⟨0, 0, ⟨[], false, []⟩, []⟩ qf8 ht
theorem RunT.read (K : TxnC St) (h : RunT St w W p F L b k) {id : Int} {key : KeyS} (hk : key.length ≤ 300) (ht : q21 St w.heap.size W p F L (q15 (FT L) b id key).1 W' F') : RunT St w W' p F' L (q15 (FT L) b id key).1 (k + 1) := h.turn K ⟨1, id, ⟨key, false, []⟩, []⟩ ⟨hk, Nat.zero_le _⟩ ht
theorem RunT.scan (K : TxnC St) (h : RunT St w W p F L b k) {id : Int} {lo hi : KeyS} (hk : lo.length ≤ 300) (ht : q21 St w.heap.size W p F L (q1E (FT L) b id lo hi).1 W' F') : RunT St w W' p F' L (q1E (FT L) b id lo hi).1 (k + 1) := h.turn K ⟨2, id, ⟨lo, false, []⟩, hi⟩ ⟨hk, Nat.zero_le _⟩ ht
theorem RunT.write (K : TxnC St) (h : RunT St w W p F L b k) {id : Int} {x : Wr} (hx : q2h x) (hst : St w.heap.size W' p F' L (q0F b id x).1) (hm : Mut F W W') : RunT St w W' p F' L (q0F b id x).1 (k + 1) := h.turn' K ⟨3, id, x, []⟩ hx hst hm
theorem RunT.commit (K : TxnC St) (h : RunT St w W p F L b k) {id : Int} (ht : q21 St w.heap.size W p F L (q0l (FT L) L b id).1 W' F') : RunT St w W' p F' L (q0l (FT L) L b id).1 (k + 1) := h.turn K ⟨4, id, ⟨[], false, []⟩, []⟩ qf8 ht
theorem RunT.data (K : TxnC St) (h : RunT St w W p F L b k) {A : Option Addr} {c : Nat} {d : List UInt8} (hd : SlI W' W.heap.size W'.heap.size A c d) : ByS W' (fun k => k < w.heap.size ∨ (w.heap.size ≤ k ∧ ¬ F k)) A c d :=
 ⟨hd.1, hd.2.1, hd.2.2.1, RdS.of_rd hd.2.2.2 fun g h1 _ => .inr ⟨Nat.le_trans h.bel.size h1, fun hf => by have := (K.upto h.st g hf).2; omega⟩⟩
def DidT (St : q2p) (w W : World) (p : Nat) (F : Nat → Prop) (L : LimT) (b : q08) (k : Nat) (o : OpT) (r : Ending) (W' : World) : Prop :=
 ∃ (A B : Option Addr) (c d : Nat) (F' : Nat → Prop), r = .returned (q2o (q0Q (FT L) L b o).2 A c B d) ∧ qb5 W' (ResT F' w.heap.size W) (q0Q (FT L) L b o).2 A c B d ∧ RunT St w W' p F' L (q0Q (FT L) L b o).1 (k + 1) ∧ Mut F W W' ∧ ∀ g, F' g → F g ∨ W.heap.size ≤ g
theorem qes (K : TxnC St) (h : RunT St w W p F L b k) (hk : k ≤ 198) (o : OpT) (A : Option Addr) (c : Nat) (hw : q2h o.w) (hhi : o.hi.length ≤ 300) (harg : OkOT W w.heap.size ⟨o, A, c⟩) :
  Calls Tryz.prog 18 #[ptrS p, qfL o A c] W (DidT St w W p F L b k o) :=
 (qcy K w.heap.size o A c p F L b W h.st (h.few hk) hw hhi harg h.bel.size).mono fun r W' ⟨A9, B9, c9, d9, F', e, ht, hT⟩ => ⟨A9, B9, c9, d9, F', e, ht, h.turn K o hw hT, hT.2.1, hT.2.2⟩
end
open Go.RowKit
def lvA : q08 := (q0J BigT q3u).1
def lvB : q08 := (q0J BigT lvA).1
def lvC : q08 := (q0F lvB 1 ⟨[98], false, [49]⟩).1
def lvD : q08 := (q0F lvC 2 ⟨[98], false, [50]⟩).1
def lvE : q08 := (q0l (FT BigT) BigT lvD 1).1
def lvF : q08 := (q0l (FT BigT) BigT lvE 2).1
theorem qgc : (q0J BigT q3u).2 = ⟨1, 0, [], false, []⟩ := by kernel_rfl
theorem qgd : (q0J BigT lvA).2 = ⟨2, 0, [], false, []⟩ := by kernel_rfl
theorem qgs : (q0F lvB 1 ⟨[98], false, [49]⟩).2 = ⟨0, 0, [], false, []⟩ := by kernel_rfl
theorem qgt : (q0F lvC 2 ⟨[98], false, [50]⟩).2 = ⟨0, 0, [], false, []⟩ := by kernel_rfl
theorem qgu : (q0l (FT BigT) BigT lvD 1).2 = ⟨1, 0, [], false, []⟩ := by kernel_rfl
theorem qgw : (q0l (FT BigT) BigT lvE 2).2 = ⟨0, 100, [], false, []⟩ := by kernel_rfl
theorem qgv : q1q lvF.st.K [] [] lvF.st.time = [([98], [49])] := by kernel_rfl
def skC : q08 := (q15 (FT BigT) lvB 1 [97]).1
def skD : q08 := (q0F skC 1 ⟨[98], false, [49]⟩).1
def skE : q08 := (q15 (FT BigT) skD 2 [98]).1
def skF : q08 := (q0F skE 2 ⟨[97], false, [49]⟩).1
def skG : q08 := (q0l (FT BigT) BigT skF 1).1
def skH : q08 := (q0l (FT BigT) BigT skG 2).1
theorem qgx : (q15 (FT BigT) lvB 1 [97]).2 = ⟨0, 0, [], false, []⟩ := by kernel_rfl
theorem qgy : (q0F skC 1 ⟨[98], false, [49]⟩).2 = ⟨0, 0, [], false, []⟩ := by kernel_rfl
theorem qgz : (q15 (FT BigT) skD 2 [98]).2 = ⟨0, 0, [], false, []⟩ := by kernel_rfl
theorem qgA : (q0F skE 2 ⟨[97], false, [49]⟩).2 = ⟨0, 0, [], false, []⟩ := by kernel_rfl
theorem qgB : (q0l (FT BigT) BigT skF 1).2 = ⟨1, 0, [], false, []⟩ := by kernel_rfl
theorem qgC : (q0l (FT BigT) BigT skG 2).2 = ⟨0, 101, [], false, []⟩ := by kernel_rfl
theorem q1A {n : Int} (h1 : 0 ≤ n) (h2 : n ≤ 1000) : I64 n := ⟨by omega, by omega⟩
theorem q42 : I64 BigT.s.keys ∧ I64 BigT.s.vers ∧ I64 BigT.s.byts ∧ BigT.s.last < 18446744073709551616 ∧ I64 BigT.marks ∧ I64 BigT.recs ∧ I64 BigT.live := by unfold I64 BigT; simp
theorem qal {St : q2p} (K : TxnC St) {w : World} (W : World) (hb : Below w.heap.size w W) : Calls Tryz.prog 35 #[limT BigT] W fun r W' => ∃ p F, r = .returned (ptrS p) ∧ RunT St w W' p F BigT q3u 0 :=
 (q6d K BigT w.heap.size W hb.size q42.1 q42.2.1 q42.2.2.1 q42.2.2.2.1 q42.2.2.2.2.1 q42.2.2.2.2.2.1 q42.2.2.2.2.2.2).mono fun r W' ⟨h1, h2⟩ => by
  rw [if_pos qed] at h2
  obtain ⟨p, F, e, h3, h4⟩ := h2
  exact ⟨p, F, e, RunT.of K h3 (hb.trans (h1.mono hb.size))⟩
theorem qeV {St : q2p} (K : TxnC St) (w : World) : Calls Tryz.prog 52 #[] w fun r w' => r = .returned (.int .i64 101) ∧ Below w.heap.size w w' := by
 go_enter Tryz.func52, Tryz.ntmps52
 go_wp2_with fail
 refine (qak w).mono ?_
 rintro r w1 ⟨rfl, hb1⟩
 have HM := qh (qal K w1 hb1)
 clear hb1
 go_wp2_with fail
 refine HM.out.mono ?_
 rintro r w2 ⟨p, F0, rfl, hr⟩
 have R0 := qh hr
 clear hr HM
 unfold ptrS
 have HK := qh K
 clear K
 have hT := HK.out.begin_ w.heap.size p F0 BigT q3u w2 R0.out.st (R0.out.few (by omega))
 rw [qgc] at hT
 have HT := qh hT
 clear hT
 unfold ptrS at HT
 go_wp2_with fail
 refine HT.out.mono ?_
 rintro r w3 ⟨rfl, F1, hQ⟩
 have R1 := qh (show RunT _ w w3 p F1 BigT lvA 1 from R0.out.begin_ HK.out hQ)
 clear HT hQ
 have hT := HK.out.begin_ w.heap.size p F1 BigT lvA w3 R1.out.st (R1.out.few (by omega))
 rw [qgd] at hT
 have HT := qh hT
 clear hT
 unfold ptrS at HT
 go_wp2_with fail
 refine HT.out.mono ?_
 rintro r w4 ⟨rfl, F2, hQ⟩
 have R2 := qh (show RunT _ w w4 p F2 BigT lvB 2 from R1.out.begin_ HK.out hQ)
 clear HT hQ
 have hT := HK.out.read w.heap.size p F2 BigT lvB 1 [97] w4 R2.out.st (R2.out.few (by omega)) (q1A (by omega) (by omega)) (by simp)
 rw [qgx] at hT
 have HT := qh hT
 clear hT
 unfold ptrS at HT
 go_wp2_with fail
 refine HT.out.mono ?_
 rintro r w5 ⟨AA, cc, F3, rfl, _, hQ⟩
 have R3 := qh (show RunT _ w w5 p F3 BigT skC 3 from R2.out.read HK.out (by simp) hQ)
 clear HT hQ
 have HT := qh (q5u [98] 49 w5)
 go_wp2_with fail
 refine HT.out.mono ?_
 rintro r w6 ⟨AA, cc, rfl, hs, hb⟩
 have HD := qh (R3.out.data HK.out hs)
 have R3 := qh (R3.out.next HK.out hb)
 clear HT hs hb
 have hT := HK.out.write w.heap.size p F3 BigT skC 1 ⟨[98], false, [49]⟩ AA cc w6 R3.out.st (R3.out.few (by omega)) (q1A (by omega) (by omega)) ⟨by simp, by simp⟩ HD.out
 rw [qgy] at hT
 have HT := qh hT
 clear hT
 unfold ptrS at HT
 go_wp2_with fail
 refine HT.out.mono ?_
 rintro r w7 ⟨rfl, F4, hQ, hm, _⟩
 have R4 := qh (show RunT _ w w7 p F4 BigT skD 4 from R3.out.write HK.out ⟨by simp, by simp⟩ hQ hm)
 clear HT HD hQ hm
 have hT := HK.out.read w.heap.size p F4 BigT skD 2 [98] w7 R4.out.st (R4.out.few (by omega)) (q1A (by omega) (by omega)) (by simp)
 rw [qgz] at hT
 have HT := qh hT
 clear hT
 unfold ptrS at HT
 go_wp2_with fail
 refine HT.out.mono ?_
 rintro r w8 ⟨AA, cc, F5, rfl, _, hQ⟩
 have R5 := qh (show RunT _ w w8 p F5 BigT skE 5 from R4.out.read HK.out (by simp) hQ)
 clear HT hQ
 have HT := qh (q5u [97] 49 w8)
 go_wp2_with fail
 refine HT.out.mono ?_
 rintro r w9 ⟨AA, cc, rfl, hs, hb⟩
 have HD := qh (R5.out.data HK.out hs)
 have R5 := qh (R5.out.next HK.out hb)
 clear HT hs hb
 have hT := HK.out.write w.heap.size p F5 BigT skE 2 ⟨[97], false, [49]⟩ AA cc w9 R5.out.st (R5.out.few (by omega)) (q1A (by omega) (by omega)) ⟨by simp, by simp⟩ HD.out
 rw [qgA] at hT
 have HT := qh hT
 clear hT
 unfold ptrS at HT
 go_wp2_with fail
 refine HT.out.mono ?_
 rintro r w10 ⟨rfl, F6, hQ, hm, _⟩
 have R6 := qh (show RunT _ w w10 p F6 BigT skF 6 from R5.out.write HK.out ⟨by simp, by simp⟩ hQ hm)
 clear HT HD hQ hm
 have hT := HK.out.commit w.heap.size p F6 BigT skF 1 w10 R6.out.st (R6.out.few (by omega)) (q1A (by omega) (by omega))
 rw [qgB] at hT
 have HT := qh hT
 clear hT
 unfold ptrS at HT
 go_wp2_with fail
 refine HT.out.mono ?_
 rintro r w11 ⟨rfl, F7, hQ⟩
 have R7 := qh (show RunT _ w w11 p F7 BigT skG 7 from R6.out.commit HK.out hQ)
 clear HT hQ
 have hT := HK.out.commit w.heap.size p F7 BigT skG 2 w11 R7.out.st (R7.out.few (by omega)) (q1A (by omega) (by omega))
 rw [qgC] at hT
 have HT := qh hT
 clear hT
 unfold ptrS at HT
 go_wp2_with fail
 refine HT.out.mono ?_
 rintro r w12 ⟨rfl, F8, hQ⟩
 have R8 := qh (show RunT _ w w12 p F8 BigT skH 8 from R7.out.commit HK.out hQ)
 clear HT hQ
 go_wp2_with fail
 go_ret
 exact ⟨rfl, R8.out.bel⟩
theorem qd4 {St : q2p} (K : TxnC St) (w : World) : Calls Tryz.prog 12 #[] w fun r w' => r = .returned (.bool true) ∧ Below w.heap.size w w' := by
 go_enter Tryz.func12, Tryz.ntmps12
 go_wp2_with fail
 refine (qak w).mono ?_
 rintro r w1 ⟨rfl, hb1⟩
 have HM := qh (qal K w1 hb1)
 clear hb1
 go_wp2_with fail
 refine HM.out.mono ?_
 rintro r w2 ⟨p, F0, rfl, hr⟩
 have R0 := qh hr
 clear hr HM
 unfold ptrS
 have HK := qh K
 clear K
 have hT := HK.out.begin_ w.heap.size p F0 BigT q3u w2 R0.out.st (R0.out.few (by omega))
 rw [qgc] at hT
 have HT := qh hT
 clear hT
 unfold ptrS at HT
 go_wp2_with fail
 refine HT.out.mono ?_
 rintro r w3 ⟨rfl, F1, hQ⟩
 have R1 := qh (show RunT _ w w3 p F1 BigT lvA 1 from R0.out.begin_ HK.out hQ)
 clear HT hQ
 have hT := HK.out.begin_ w.heap.size p F1 BigT lvA w3 R1.out.st (R1.out.few (by omega))
 rw [qgd] at hT
 have HT := qh hT
 clear hT
 unfold ptrS at HT
 go_wp2_with fail
 refine HT.out.mono ?_
 rintro r w4 ⟨rfl, F2, hQ⟩
 have R2 := qh (show RunT _ w w4 p F2 BigT lvB 2 from R1.out.begin_ HK.out hQ)
 clear HT hQ
 have HT := qh (q5u [98] 49 w4)
 go_wp2_with fail
 refine HT.out.mono ?_
 rintro r w5 ⟨AA, cc, rfl, hs, hb⟩
 have HD := qh (R2.out.data HK.out hs)
 have R2 := qh (R2.out.next HK.out hb)
 clear HT hs hb
 have hT := HK.out.write w.heap.size p F2 BigT lvB 1 ⟨[98], false, [49]⟩ AA cc w5 R2.out.st (R2.out.few (by omega)) (q1A (by omega) (by omega)) ⟨by simp, by simp⟩ HD.out
 rw [qgs] at hT
 have HT := qh hT
 clear hT
 unfold ptrS at HT
 go_wp2_with fail
 refine HT.out.mono ?_
 rintro r w6 ⟨rfl, F3, hQ, hm, _⟩
 have R3 := qh (show RunT _ w w6 p F3 BigT lvC 3 from R2.out.write HK.out ⟨by simp, by simp⟩ hQ hm)
 clear HT HD hQ hm
 have HT := qh (q5u [98] 50 w6)
 go_wp2_with fail
 refine HT.out.mono ?_
 rintro r w7 ⟨AA, cc, rfl, hs, hb⟩
 have HD := qh (R3.out.data HK.out hs)
 have R3 := qh (R3.out.next HK.out hb)
 clear HT hs hb
 have hT := HK.out.write w.heap.size p F3 BigT lvC 2 ⟨[98], false, [50]⟩ AA cc w7 R3.out.st (R3.out.few (by omega)) (q1A (by omega) (by omega)) ⟨by simp, by simp⟩ HD.out
 rw [qgt] at hT
 have HT := qh hT
 clear hT
 unfold ptrS at HT
 go_wp2_with fail
 refine HT.out.mono ?_
 rintro r w8 ⟨rfl, F4, hQ, hm, _⟩
 have R4 := qh (show RunT _ w w8 p F4 BigT lvD 4 from R3.out.write HK.out ⟨by simp, by simp⟩ hQ hm)
 clear HT HD hQ hm
 have hT := HK.out.commit w.heap.size p F4 BigT lvD 1 w8 R4.out.st (R4.out.few (by omega)) (q1A (by omega) (by omega))
 rw [qgu] at hT
 have HT := qh hT
 clear hT
 unfold ptrS at HT
 go_wp2_with fail
 refine HT.out.mono ?_
 rintro r w9 ⟨rfl, F5, hQ⟩
 have R5 := qh (show RunT _ w w9 p F5 BigT lvE 5 from R4.out.commit HK.out hQ)
 clear HT hQ
 have hT := HK.out.commit w.heap.size p F5 BigT lvE 2 w9 R5.out.st (R5.out.few (by omega)) (q1A (by omega) (by omega))
 rw [qgw] at hT
 have HT := qh hT
 clear hT
 unfold ptrS at HT
 go_wp2_with fail
 refine HT.out.mono ?_
 rintro r w10 ⟨rfl, F6, hQ⟩
 have R6 := qh (show RunT _ w w10 p F6 BigT lvF 6 from R5.out.commit HK.out hQ)
 clear HT hQ
 have hT := HK.out.all w.heap.size p F6 BigT lvF w10 R6.out.st
 rw [qgv] at hT
 have HT := qh hT
 clear hT
 unfold ptrS at HT
 go_wp2_with fail
 refine HT.out.mono ?_
 rintro r w11 ⟨A9, c9, rfl, hs9, hb9⟩
 have HB9 := qh (R6.out.bel.trans (hb9.mono R6.out.bel.size))
 obtain ⟨hl9, hc9, hn9, ms, hms, hrow, hel⟩ := hs9
 have hml : ms.length = 1 := by
  have h := congrArg List.length hms
  rw [List.length_map] at h
  exact h
 obtain ⟨y, rfl⟩ := List.length_eq_one_iff.1 hml
 clear hml
 have hy : y.p = ([98], [49]) := by simpa using hms
 obtain ⟨bb, ob, rfl, _, hcell⟩ := hrow (by simp)
 have q0 := hcell 0 _ rfl
 have q1 := hcell 1 _ rfl
 simp only [Nat.add_zero] at q0
 obtain ⟨yk, yb, yA, yc⟩ := y
 obtain ⟨rfl, rfl⟩ : yk = [98] ∧ yb = [49] := by
  unfold MP.p at hy
  simp only at hy
  injection hy with h1 h2
  exact ⟨h1, h2⟩
 have hby := hel _ (List.mem_singleton.2 rfl)
 have hcv : (convert 35 9 (.slice yA 1 yc)).run Tryz.prog w11 = .ok (.string ⟨#[49]⟩) w11 := qce (m := [49]) 35 9 5 Tryz.underlying35 Tryz.underlying5 Tryz.underlying9 rfl hby.2.2.2.rd
 have HSk := qh (qeV HK.out w11)
 clear hb9 hms hrow hel hcell hy hby HT
 go_wp2_with fail
 refine HSk.out.mono ?_
 rintro r w40 ⟨rfl, hb40⟩
 have HB40 := qh (HB9.out.trans (hb40.mono HB9.out.size))
 clear hb40
 go_wp2_with fail
 go_ret
 exact ⟨rfl, HB40.out⟩
section
variable {F : List Sp → List Sp} {M : Nat}
end
section
variable {F : List Sp → List Sp} {M : Nat}
theorem qat {L : LimT} {b : q08} (h : OkTx L M b) (o : OpT) :
  (o.what = 4 ∧ (q0Q F L b o).2.e = 0 ∧ (q0Q F L b o).1.hist.length = b.hist.length + 1 ∧ (q0Q F L b o).2.n = (q0Q F L b o).1.st.time ∧ (q0Q F L b o).1.st.time ≤ b.st.time + 1 ∧
    ((q0Q F L b o).1.st.time = b.st.time → ∀ k, q0E (q0Q F L b o).1.st.K k b.st.time = q0E b.st.K k b.st.time)) ∨
   (¬ (o.what = 4 ∧ (q0Q F L b o).2.e = 0) ∧ (q0Q F L b o).1.hist = b.hist ∧ (q0Q F L b o).1.st.time = b.st.time ∧ ∀ k, q0E (q0Q F L b o).1.st.K k b.st.time = q0E b.st.K k b.st.time) := by
 unfold q0Q
 by_cases h0 : o.what = 0
 ·rw [if_pos h0]
  refine .inr ⟨fun e => by omega, ?_⟩
  unfold q0J
  split <;> exact ⟨rfl, rfl, fun _ => rfl⟩
 ·rw [if_neg h0]
  by_cases h1 : o.what = 1
  ·rw [if_pos h1]
   refine .inr ⟨fun e => by omega, ?_⟩
   unfold q15
   cases ofT b o.id with
   | none => exact ⟨rfl, rfl, fun _ => rfl⟩
   | some t => simp only; split <;> exact ⟨rfl, rfl, fun _ => rfl⟩
  ·rw [if_neg h1]
   by_cases h2 : o.what = 2
   ·rw [if_pos h2]
    refine .inr ⟨fun e => by omega, ?_⟩
    unfold q1E
    cases ofT b o.id with
    | none => exact ⟨rfl, rfl, fun _ => rfl⟩
    | some t => simp only; split <;> exact ⟨rfl, rfl, fun _ => rfl⟩
   ·rw [if_neg h2]
    by_cases h3 : o.what = 3
    ·rw [if_pos h3]
     refine .inr ⟨fun e => by omega, ?_⟩
     unfold q0F
     cases ofT b o.id with
     | none => exact ⟨rfl, rfl, fun _ => rfl⟩
     | some t => simp only; split <;> exact ⟨rfl, rfl, fun _ => rfl⟩
    ·rw [if_neg h3]
     by_cases h4 : o.what = 4
     ·rw [if_pos h4]
      unfold q0l
      cases ht : ofT b o.id with
      | none => exact .inr ⟨(fun e => by cases e.2), rfl, rfl, fun _ => rfl⟩
      | some t =>
       obtain ⟨hm, _⟩ := q1V ht
       simp only
       split
       ·exact .inr ⟨(fun e => by cases e.2), rfl, rfl, fun _ => rfl⟩
       ·cases hj : q1r b.recs (askT F b.st t) with
        | none => exact .inr ⟨(fun e => by cases e.2), rfl, rfl, fun _ => rfl⟩
        | some out =>
         simp only
         have hcc := q1N L.s b.st (q05 b.st t) (lowT b)
         split
         ·rename_i he
          refine .inr ⟨fun e => he e.2, rfl, ?_⟩
          show (q09 L.s b.st (q05 b.st t) (lowT b)).1.time = b.st.time ∧ ∀ k, q0E (q09 L.s b.st (q05 b.st t) (lowT b)).1.K k b.st.time = q0E b.st.K k b.st.time
          rcases hcc with ⟨e, _⟩ | ⟨e, _⟩ | ⟨e, _⟩ | ⟨e, _⟩ | ⟨e, _⟩ <;> rw [e] at he ⊢
          ·exact ⟨rfl, fun _ => rfl⟩
          ·exact ⟨rfl, fun _ => rfl⟩
          ·exact ⟨rfl, fun _ => rfl⟩
          ·exact absurd rfl he
          ·exact ⟨q6o, fun k => q7E h.ok k⟩
         ·rename_i he
          have he2 : (q09 L.s b.st (q05 b.st t) (lowT b)).2.2 = 0 := Decidable.of_not_not he
          refine .inl ⟨h4, rfl, ?_, ?_⟩
          ·show (b.hist ++ [_]).length = b.hist.length + 1
           rw [List.length_append, List.length_singleton]
          ·show (q09 L.s b.st (q05 b.st t) (lowT b)).2.1 = (q09 L.s b.st (q05 b.st t) (lowT b)).1.time ∧ (q09 L.s b.st (q05 b.st t) (lowT b)).1.time ≤ b.st.time + 1 ∧
            ((q09 L.s b.st (q05 b.st t) (lowT b)).1.time = b.st.time → ∀ k, q0E (q09 L.s b.st (q05 b.st t) (lowT b)).1.K k b.st.time = q0E b.st.K k b.st.time)
           rcases hcc with ⟨e, hc⟩ | ⟨e, _⟩ | ⟨e, _⟩ | ⟨e, _⟩ | ⟨e, _⟩ <;> rw [e] at he2 ⊢
           ·exact absurd he2 hc
           ·exact ⟨rfl, Nat.le_succ _, fun _ _ => rfl⟩
           ·cases he2
           ·exact ⟨rfl, Nat.le_refl _, fun e2 => by have e3 : b.st.time + 1 = b.st.time := e2; omega⟩
           ·cases he2
     ·rw [if_neg h4]
      refine .inr ⟨fun e => h4 e.1, ?_⟩
      split
      ·unfold q1M
       cases ofT b o.id <;> exact ⟨rfl, rfl, fun _ => rfl⟩
      ·split
       ·exact ⟨rfl, rfl, fun k => q3q h.ok _ k⟩
       ·exact ⟨rfl, rfl, fun _ => rfl⟩
end
section
variable {F : List Sp → List Sp} {M : Nat}
end
section
variable {F : List Sp → List Sp} {M : Nat}
end
open Go.RowKit
structure TxnO (St : q2p) : Prop where
 read : ∀ (o p : Nat) (F : Nat → Prop) (L : LimT) (b : q08) (id : Int) (key : KeyS) (w : World), St o w p F L b → q0H b → I64 id → key.length ≤ 300 →
  Calls Tryz.prog 38 #[ptrS p, .int .i64 id, .string (bs key)] w fun r w' => ∃ A c F', r = .returned (.tuple #[.slice A (q15 (FT L) b id key).2.b.length c, .bool (q15 (FT L) b id key).2.is, .int .i64 (q15 (FT L) b id key).2.e]) ∧
   ByS w' (fun k => w.heap.size ≤ k ∧ ¬ F' k) A c (q15 (FT L) b id key).2.b ∧ q21 St o w p F L (q15 (FT L) b id key).1 w' F'
 scan : ∀ (o p : Nat) (F : Nat → Prop) (L : LimT) (b : q08) (id : Int) (lo hi : KeyS) (w : World), St o w p F L b → q0H b → I64 id → lo.length ≤ 300 → hi.length ≤ 300 →
  Calls Tryz.prog 39 #[ptrS p, .int .i64 id, .string (bs lo), .string (bs hi)] w fun r w' => ∃ A c F', r = .returned (.tuple #[.slice A (q1E (FT L) b id lo hi).2.scan.length c, .int .i64 (q1E (FT L) b id lo hi).2.e]) ∧
   PaS w' (fun k => w.heap.size ≤ k ∧ ¬ F' k) A c (q1E (FT L) b id lo hi).2.scan ∧ q21 St o w p F L (q1E (FT L) b id lo hi).1 w' F'
 all : ∀ (o p : Nat) (F : Nat → Prop) (L : LimT) (b : q08) (w : World), St o w p F L b → Calls Tryz.prog 33 #[ptrS p] w fun r w' => ∃ A c, r = .returned (.slice A (q1q b.st.K [] [] b.st.time).length c) ∧ PaS w' (fun k => w.heap.size ≤ k) A c (q1q b.st.K [] [] b.st.time) ∧ Below w.heap.size w w'
theorem qbz {St : q2p} (K : TxnC St) (w : World) : ∀ W, Below w.heap.size w W → Calls Tryz.prog 12 #[] W fun r w' => r = .returned (.bool true) ∧ Below w.heap.size w w' := fun W hb =>
 (qd4 K W).mono fun _ _ q => ⟨q.1, hb.trans (q.2.mono hb.size)⟩
theorem qcC {w : World} {l : List OpT} {A : Option Addr} {c : Nat} (h : ChOT w w.heap.size A c l) : ∀ W, Below w.heap.size w W → Calls Tryz.prog 13 #[.slice A l.length c] W fun r w' => r = .returned (.bool (fewT l)) ∧ Below w.heap.size w w' := fun W hb =>
 (qet l A c w.heap.size W (h.below hb (Nat.le_refl _) (Nat.le_refl _)) hb.size).mono fun _ _ q => ⟨q.1, hb.trans (q.2.mono hb.size)⟩
theorem qft {L : LimT} {b : q08} (hf : L.live ≤ (b.live.length : Int)) : q0J L b = (b, errT 5) := by
 unfold q0J
 rw [if_pos hf]
open Go.RowKit
theorem qeI (L : LimT) (w : World) : Calls Tryz.prog 15 #[limT L] w fun r w' => r = .returned (.bool (MayT L)) ∧ Below w.heap.size w w' := by
 obtain ⟨⟨keys, vers, byts, last⟩, marks, recs, live⟩ := L
 obtain ⟨w0, hw0⟩ : ∃ y, w.alloc (.cells #[.int .i64 keys, .int .i64 vers, .int .i64 byts, .int .i64 marks, .int .i64 recs, .int .i64 live, .int .u64 last] 24) = y := ⟨_, rfl⟩
 have b0 : Below w.heap.size w w0 := by rw [← hw0]; exact (Below.refl _ w).alloc (Nat.le_refl _) _
 have x0 : w0.heap[w.heap.size]? = some (.cells #[.int .i64 keys, .int .i64 vers, .int .i64 byts, .int .i64 marks, .int .i64 recs, .int .i64 live, .int .u64 last] 24 (0, 0)) := by rw [← hw0]; exact heap_alloc_new w _
 have HX := qh x0
 have HB0 := qh b0
 have HW0 := qh hw0
 have hm := qfD ⟨keys, vers, byts, last⟩ marks recs live w0
 have hMT : MayT ⟨⟨keys, vers, byts, last⟩, marks, recs, live⟩ = (MayS ⟨keys, vers, byts, last⟩ && decide (1 ≤ marks) && decide (marks ≤ 1048576) && decide (1 ≤ recs) && decide (recs ≤ 1048576) && decide (1 ≤ live) && decide (live ≤ 64)) := by
  unfold MayT
  simp only [Bool.and_assoc]
 rw [hMT]
 unfold limT
 unfold q3A at hm ⊢
 simp only at hm ⊢
 obtain ⟨z0, z1, z2, z3, z4, z5, z6⟩ := q80 HX.out
 have HC := qh (fun (W : World) (h : Below w0.heap.size w0 W) => q80 (q01 HX.out h (q00 HX.out)))
 generalize MayS ⟨keys, vers, byts, last⟩ = q0 at *
 have HM := qh hm
 clear hm hMT x0 b0 hw0
 cases q0
 ·go_enter Tryz.func15, Tryz.ntmps15
  go_upto_region 1 with fail
  rw [HW0.out]
  go_wp2_with fail
  refine HM.out.mono ?_
  rintro r w1 ⟨rfl, hb1⟩
  go_wp2_with fail
  go_ret
  exact ⟨rfl, HB0.out.trans (hb1.mono HB0.out.size)⟩
 ·by_cases h0 : 1 ≤ marks
  ·have d0 : decide (1 ≤ marks) = true := decide_eq_true h0
   rw [d0]
   by_cases h1 : marks ≤ 1048576
   ·have d1 : decide (marks ≤ 1048576) = true := decide_eq_true h1
    rw [d1]
    by_cases h2 : 1 ≤ recs
    ·have d2 : decide (1 ≤ recs) = true := decide_eq_true h2
     rw [d2]
     by_cases h3 : recs ≤ 1048576
     ·have d3 : decide (recs ≤ 1048576) = true := decide_eq_true h3
      rw [d3]
      by_cases h4 : 1 ≤ live
      ·have d4 : decide (1 ≤ live) = true := decide_eq_true h4
       rw [d4]
       by_cases h5 : live ≤ 64
       ·have d5 : decide (live ≤ 64) = true := decide_eq_true h5
        rw [d5]
        go_enter Tryz.func15, Tryz.ntmps15
        go_upto_region 1 with fail
        rw [HW0.out]
        go_wp2_with fail
        refine HM.out.mono ?_
        rintro r w1 ⟨rfl, hb1⟩
        obtain ⟨y0, y1, y2, y3, y4, y5, y6⟩ := HC.out _ hb1
        have HB1 := qh hb1
        clear hb1
        go_wp2_with fail
        go_ret
        exact ⟨rfl, HB0.out.trans (HB1.out.mono HB0.out.size)⟩
       ·have d5 : decide (live ≤ 64) = false := decide_eq_false h5
        rw [d5]
        simp only [Bool.and_false]
        go_enter Tryz.func15, Tryz.ntmps15
        go_upto_region 1 with fail
        rw [HW0.out]
        go_wp2_with fail
        refine HM.out.mono ?_
        rintro r w1 ⟨rfl, hb1⟩
        obtain ⟨y0, y1, y2, y3, y4, y5, y6⟩ := HC.out _ hb1
        have HB1 := qh hb1
        clear hb1
        go_wp2_with fail
        go_ret
        exact ⟨rfl, HB0.out.trans (HB1.out.mono HB0.out.size)⟩
      ·have d4 : decide (1 ≤ live) = false := decide_eq_false h4
       rw [d4]
       simp only [Bool.and_false, Bool.false_and]
       go_enter Tryz.func15, Tryz.ntmps15
       go_upto_region 1 with fail
       rw [HW0.out]
       go_wp2_with fail
       refine HM.out.mono ?_
       rintro r w1 ⟨rfl, hb1⟩
       obtain ⟨y0, y1, y2, y3, y4, y5, y6⟩ := HC.out _ hb1
       have HB1 := qh hb1
       clear hb1
       go_wp2_with fail
       go_ret
       exact ⟨rfl, HB0.out.trans (HB1.out.mono HB0.out.size)⟩
     ·have d3 : decide (recs ≤ 1048576) = false := decide_eq_false h3
      rw [d3]
      simp only [Bool.and_false, Bool.false_and]
      go_enter Tryz.func15, Tryz.ntmps15
      go_upto_region 1 with fail
      rw [HW0.out]
      go_wp2_with fail
      refine HM.out.mono ?_
      rintro r w1 ⟨rfl, hb1⟩
      obtain ⟨y0, y1, y2, y3, y4, y5, y6⟩ := HC.out _ hb1
      have HB1 := qh hb1
      clear hb1
      go_wp2_with fail
      go_ret
      exact ⟨rfl, HB0.out.trans (HB1.out.mono HB0.out.size)⟩
    ·have d2 : decide (1 ≤ recs) = false := decide_eq_false h2
     rw [d2]
     simp only [Bool.and_false, Bool.false_and]
     go_enter Tryz.func15, Tryz.ntmps15
     go_upto_region 1 with fail
     rw [HW0.out]
     go_wp2_with fail
     refine HM.out.mono ?_
     rintro r w1 ⟨rfl, hb1⟩
     obtain ⟨y0, y1, y2, y3, y4, y5, y6⟩ := HC.out _ hb1
     have HB1 := qh hb1
     clear hb1
     go_wp2_with fail
     go_ret
     exact ⟨rfl, HB0.out.trans (HB1.out.mono HB0.out.size)⟩
   ·have d1 : decide (marks ≤ 1048576) = false := decide_eq_false h1
    rw [d1]
    simp only [Bool.and_false, Bool.false_and]
    go_enter Tryz.func15, Tryz.ntmps15
    go_upto_region 1 with fail
    rw [HW0.out]
    go_wp2_with fail
    refine HM.out.mono ?_
    rintro r w1 ⟨rfl, hb1⟩
    obtain ⟨y0, y1, y2, y3, y4, y5, y6⟩ := HC.out _ hb1
    have HB1 := qh hb1
    clear hb1
    go_wp2_with fail
    go_ret
    exact ⟨rfl, HB0.out.trans (HB1.out.mono HB0.out.size)⟩
  ·have d0 : decide (1 ≤ marks) = false := decide_eq_false h0
   rw [d0]
   simp only [Bool.and_false, Bool.false_and]
   go_enter Tryz.func15, Tryz.ntmps15
   go_upto_region 1 with fail
   rw [HW0.out]
   go_wp2_with fail
   refine HM.out.mono ?_
   rintro r w1 ⟨rfl, hb1⟩
   obtain ⟨y0, y1, y2, y3, y4, y5, y6⟩ := HC.out _ hb1
   have HB1 := qh hb1
   clear hb1
   go_wp2_with fail
   go_ret
   exact ⟨rfl, HB0.out.trans (HB1.out.mono HB0.out.size)⟩
open Go
section
variable {P : Program} {md : Region.Mode} {Q : Exit → Act → World → Prop} {S S' : World → Prop} {l : List Oper}
theorem q92 {i fuel : Nat} {oi : Oper} {v : Value} {listed : Array Bool} {a : Act} {w : World} (hi : l[i]? = some oi)
  (hs : Region.noSelect l.toArray = true) (hf : Region.free md l.toArray listed i = true) (hr : (Region.ready md l.toArray listed).contains i = true)
  (hQ : ∀ c a w, Q (.panic c) (a.put oi.dst v) w → Q (.panic c) a w) (hw : Region.wanted oi (yielded l.toArray a.tmps) = true) (hy : ∀ w, S w → (execOp a.eval oi).run P w = .ok (.value v) w) (hS : S w)
  (h : wpAnyH P md l.toArray Q S fuel (listed.setIfInBounds i true) (a.put oi.dst v) w) : wpAnyH P md l.toArray Q S (fuel + 1) listed a w :=
 wpAnyH_take (by simpa using hi) hs hf hr hQ (Or.inl ⟨hw, hy⟩) hS h
theorem qdJ {i fuel : Nat} {o : Oper} {listed : Array Bool} {a : Act} {w : World} (hr : Region.ready md l.toArray listed = [i]) (ho : l[i]? = some o)
  (h : ∀ K' : Act → World → Prop, Shut (∀ a w, S w → (S w → wpAnyH P md l.toArray Q S fuel (listed.setIfInBounds i true) a w) → K' a w) → if Region.wanted o (yielded l.toArray a.tmps) = true then Oper.wp P o a w K' Q else K' (a.put o.dst undef) w) :
  wpAnyH P md l.toArray Q S (fuel + 1) listed a w :=
 wpAnyH_ready hr (by simp) (AllReadyH.cons (by simpa using ho) h AllReadyH.nil)
end
section
variable {P : Program} {md : Region.Mode} {Q : Exit → Act → World → Prop} {S : World → Prop} {l : List Oper}
theorem q27 {i j fuel : Nat} {o o' : Oper} {listed : Array Bool} {a : Act} {w : World} (hr : Region.ready md l.toArray listed = [i, j]) (ho : l[i]? = some o) (ho' : l[j]? = some o')
  (h : ∀ K' : Act → World → Prop, Shut (∀ a w, S w → (S w → wpAnyH P md l.toArray Q S fuel (listed.setIfInBounds i true) a w) → K' a w) → if Region.wanted o (yielded l.toArray a.tmps) = true then Oper.wp P o a w K' Q else K' (a.put o.dst undef) w)
  (h' : ∀ K' : Act → World → Prop, Shut (∀ a w, S w → (S w → wpAnyH P md l.toArray Q S fuel (listed.setIfInBounds j true) a w) → K' a w) → if Region.wanted o' (yielded l.toArray a.tmps) = true then Oper.wp P o' a w K' Q else K' (a.put o'.dst undef) w) :
  wpAnyH P md l.toArray Q S (fuel + 1) listed a w :=
 wpAnyH_ready hr (by simp) (AllReadyH.cons (by simpa using ho) h (AllReadyH.cons (by simpa using ho') h' AllReadyH.nil))
end
section
variable {P : Program} {md : Region.Mode} {Q : Exit → Act → World → Prop} {S : World → Prop} {l : List Oper}
theorem tkH {i fuel : Nat} {oi : Oper} {v : Value} {listed : Array Bool} {a : Act} {w : World} (hy : ∀ w, S w → (execOp a.eval oi).run P w = .ok (.value v) w) (h : wpAnyH P md l.toArray Q S fuel (listed.setIfInBounds i true) (a.put oi.dst v) w)
  (hi : l[i]? = some oi := by rfl) (hs : Region.noSelect l.toArray = true := by kernel_rfl) (hf : Region.free md l.toArray listed i = true := by kernel_rfl) (hr : (Region.ready md l.toArray listed).contains i = true := by kernel_rfl)
  (hQ : ∀ c a w, Q (.panic c) (a.put oi.dst v) w → Q (.panic c) a w := by exact fun _ _ _ h => h) (hw : Region.wanted oi (yielded l.toArray a.tmps) = true := by rfl) (hS : S w := by assumption) : wpAnyH P md l.toArray Q S (fuel + 1) listed a w :=
 q92 hi hs hf hr hQ hw hy hS h
end
section
variable {P : Program} {md : Region.Mode} {Q : Exit → Act → World → Prop} {S : World → Prop} {l : List Oper}
theorem tkS {i fuel : Nat} {oi : Oper} {v : Value} {listed : Array Bool} {a : Act} {w : World} (h : wpAnyH P md l.toArray Q S fuel (listed.setIfInBounds i true) (a.put oi.dst v) w)
  (hi : l[i]? = some oi := by rfl) (hs : Region.noSelect l.toArray = true := by kernel_rfl) (hf : Region.free md l.toArray listed i = true := by kernel_rfl) (hr : (Region.ready md l.toArray listed).contains i = true := by kernel_rfl)
  (hQ : ∀ c a w, Q (.panic c) (a.put oi.dst v) w → Q (.panic c) a w := by exact fun _ _ _ h => h) (hw : Region.wanted oi (yielded l.toArray a.tmps) = true := by rfl) (hS : S w := by assumption)
  (hy : ∀ w, S w → (execOp a.eval oi).run P w = .ok (.value v) w := by intro w _; go_simp <;> with_reducible rfl) : wpAnyH P md l.toArray Q S (fuel + 1) listed a w :=
 q92 hi hs hf hr hQ hw hy hS h
theorem stH {i fuel : Nat} {o : Oper} {listed : Array Bool} {a : Act} {w : World}
  (h : ∀ K' : Act → World → Prop, Shut (∀ a w, S w → (S w → wpAnyH P md l.toArray Q S fuel (listed.setIfInBounds i true) a w) → K' a w) → if Region.wanted o (yielded l.toArray a.tmps) = true then Oper.wp P o a w K' Q else K' (a.put o.dst undef) w)
  (ho : l[i]? = some o := by rfl) (hr : Region.ready md l.toArray listed = [i] := by kernel_rfl) : wpAnyH P md l.toArray Q S (fuel + 1) listed a w := qdJ hr ho h
end
theorem qA {α : Type} (xs : List α) (i : Nat) (a : α) : xs.toArray.setIfInBounds i a = (xs.set i a).toArray := by simp
theorem qB {α : Type} (x : α) (xs : List α) (a : α) : (x :: xs).set 0 a = a :: xs := rfl
theorem qC {α : Type} (x : α) (xs : List α) (n : Nat) (a : α) : (x :: xs).set (n + 1) a = x :: xs.set n a := rfl
end Go.Proofs.YtdpbllacfljmoaaGreat
