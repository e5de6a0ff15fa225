import Derived.Test.YtdpbllacfljmoaaGreatZA09
import Derived.Test.YtdpbllacfljmoaaGreatZA06
import Derived.Test.YtdpbllacfljmoaaGreatZA08
set_option maxRecDepth 100000
set_option maxHeartbeats 16000000
set_option linter.unusedVariables false
namespace Go.Proofs.YtdpbllacfljmoaaGreat
open Go.RowKit
theorem fT_c (L : LimT) : FitC (FT L) (fitN L.marks) :=
 ⟨fun l => qcH (q1C l), fun l k hk => qfB (q1C l) (by rw [q3x]; exact hk), fun l => qfd (q0b l), by
  show fitI L.marks (q0b []) = []
  exact q7t (Nat.zero_le _)⟩
theorem qcF (L : LimT) (l : List Sp) : (FT L l).length ≤ l.length := Nat.le_trans (q3g (q0b l)) (q1r l)
theorem qfz (L : LimT) : q8A (FT L) = fun a b => fitI L.marks (q0b (a ++ b)) := by
 funext a b
 show fitI L.marks (q0b (q0b (a ++ b))) = _
 rw [← q45 (q1C (a ++ b)) fun _ => rfl]
structure RunT (St : q2B) (w W : World) (p : Nat) (F : Nat → Prop) (L : LimT) (b : q06) (k : Nat) : Prop where
 st : St w.heap.size W p F L b
 bel : Below w.heap.size w W
 ok : OkTx L (fitN L.marks) b
 wgt : WgtT b ≤ 5 * k
 small : qal b
section
variable {St : q2B} {w W W' : World} {p : Nat} {F F' : Nat → Prop} {L : LimT} {b : q06} {k : Nat}
theorem RunT.few (h : RunT St w W p F L b k) (hk : k ≤ 198) : q0L b := ⟨by have := h.wgt; omega, h.small⟩
theorem RunT.next (K : TxnC St) (h : RunT St w W p F L b k) (hb : Below W.heap.size W W') : RunT St w W' p F L b k :=
 ⟨K.keep h.st (fun g _ hg => hb.block g hg) hb.size, h.bel.trans (hb.mono h.bel.size), h.ok, h.wgt, h.small⟩
theorem RunT.of (K : TxnC St) (hst : St w.heap.size W p F L q3t) (hb : Below w.heap.size w W) : RunT St w W p F L q3t 0 := by
 have h := (K.okay hst).1
 unfold MayT at h
 simp only [Bool.and_eq_true, decide_eq_true_eq] at h
 exact ⟨hst, hb, qaM h.1.1.1 (by omega), Nat.zero_le _, fun t ht => by cases ht⟩
theorem RunT.aside (K : TxnC St) (h : RunT St w W p F L b k) {G : Nat → Prop} (hm : Mut G W W') (hG : ∀ g, G g → w.heap.size ≤ g ∧ ¬ F g) : RunT St w W' p F L b k :=
 ⟨K.keep h.st (fun g hg hlt => hm.block g hlt (fun hgg => by
  obtain ⟨h1, h2⟩ := hG g hgg
  rcases hg with h3 | h3
  ·exact h2 h3
  ·omega)) hm.size, h.bel.trans (hm.below h.bel.size fun g hg => (hG g hg).1), h.ok, h.wgt, h.small⟩
theorem RunT.turn' (K : TxnC St) (h : RunT St w W p F L b k) (o : OpT) (hw : q1X o.w) (hst : St w.heap.size W' p F' L (q1U (FT L) L b o).1) (hm : Mut F W W') : RunT St w W' p F' L (q1U (FT L) L b o).1 (k + 1) := by
 refine ⟨hst, h.bel.trans (hm.below h.bel.size fun g hg => (K.upto h.st g hg).1), h.ok.does (fT_c L) o, ?_, qa4 h.small hw⟩
 have h1 := qfa (qcF L) h.ok o
 have h2 := h.wgt
 omega
theorem RunT.turn (K : TxnC St) (h : RunT St w W p F L b k) (o : OpT) (hw : q1X o.w) (ht : q2n St w.heap.size W p F L (q1U (FT L) L b o).1 W' F') : RunT St w W' p F' L (q1U (FT L) L b o).1 (k + 1) := h.turn' K o hw ht.1 ht.2.1
theorem qfh : q1X ⟨[], false, []⟩ := ⟨Nat.zero_le _, Nat.zero_le _⟩
theorem RunT.begin_ (K : TxnC St) (h : RunT St w W p F L b k) (ht : q2n St w.heap.size W p F L (q0a L b).1 W' F') : RunT St w W' p F' L (q0a L b).1 (k + 1) := h.turn K ⟨0, 0, ⟨[], false, []⟩, []⟩ qfh ht
theorem RunT.read (K : TxnC St) (h : RunT St w W p F L b k) {id : Int} {key : KeyS} (hk : key.length ≤ 300) (ht : q2n St w.heap.size W p F L (q1s (FT L) b id key).1 W' F') : RunT St w W' p F' L (q1s (FT L) b id key).1 (k + 1) := h.turn K ⟨1, id, ⟨key, false, []⟩, []⟩ ⟨hk, Nat.zero_le _⟩ ht
theorem RunT.scan (K : TxnC St) (h : RunT St w W p F L b k) {id : Int} {lo hi : KeyS} (hk : lo.length ≤ 300) (ht : q2n St w.heap.size W p F L (q21 (FT L) b id lo hi).1 W' F') : RunT St w W' p F' L (q21 (FT L) b id lo hi).1 (k + 1) := h.turn K ⟨2, id, ⟨lo, false, []⟩, hi⟩ ⟨hk, Nat.zero_le _⟩ ht
theorem RunT.write (K : TxnC St) (h : RunT St w W p F L b k) {id : Int} {x : Wr} (hx : q1X x) (hst : St w.heap.size W' p F' L (q0m b id x).1) (hm : Mut F W W') : RunT St w W' p F' L (q0m b id x).1 (k + 1) := h.turn' K ⟨3, id, x, []⟩ hx hst hm
theorem RunT.commit (K : TxnC St) (h : RunT St w W p F L b k) {id : Int} (ht : q2n St w.heap.size W p F L (q0h (FT L) L b id).1 W' F') : RunT St w W' p F' L (q0h (FT L) L b id).1 (k + 1) := h.turn K ⟨4, id, ⟨[], false, []⟩, []⟩ qfh ht
theorem RunT.data (K : TxnC St) (h : RunT St w W p F L b k) {A : Option Addr} {c : Nat} {d : List UInt8} (hd : SlI W' W.heap.size W'.heap.size A c d) : ByS W' (fun k => k < w.heap.size ∨ (w.heap.size ≤ k ∧ ¬ F k)) A c d :=
 ⟨hd.1, hd.2.1, hd.2.2.1, RdS.of_rd hd.2.2.2 fun g h1 _ => .inr ⟨Nat.le_trans h.bel.size h1, fun hf => by have := (K.upto h.st g hf).2; omega⟩⟩
def DidT (St : q2B) (w W : World) (p : Nat) (F : Nat → Prop) (L : LimT) (b : q06) (k : Nat) (o : OpT) (r : Ending) (W' : World) : Prop :=
 ∃ (A B : Option Addr) (c d : Nat) (F' : Nat → Prop), r = .returned (q2a (q1U (FT L) L b o).2 A c B d) ∧ qb7 W' (ResT F' w.heap.size W) (q1U (FT L) L b o).2 A c B d ∧ RunT St w W' p F' L (q1U (FT L) L b o).1 (k + 1) ∧ Mut F W W' ∧ ∀ g, F' g → F g ∨ W.heap.size ≤ g
theorem qaw (K : TxnC St) (h : RunT St w W p F L b k) (hk : k ≤ 198) (o : OpT) (A : Option Addr) (c : Nat) (hw : q1X o.w) (hhi : o.hi.length ≤ 300) (harg : OkOT W w.heap.size ⟨o, A, c⟩) :
  Calls Tryz.prog 18 #[ptrS p, qdt o A c] W (DidT St w W p F L b k o) :=
 (qcC K w.heap.size o A c p F L b W h.st (h.few hk) hw hhi harg h.bel.size).mono fun r W' ⟨A9, B9, c9, d9, F', e, ht, hT⟩ => ⟨A9, B9, c9, d9, F', e, ht, h.turn K o hw hT, hT.2.1, hT.2.2⟩
end
open Go.RowKit
def lvA : q06 := (q0a BigT q3t).1
def lvB : q06 := (q0a BigT lvA).1
def lvC : q06 := (q0m lvB 1 ⟨[98], false, [49]⟩).1
def lvD : q06 := (q0m lvC 2 ⟨[98], false, [50]⟩).1
def lvE : q06 := (q0h (FT BigT) BigT lvD 1).1
def lvF : q06 := (q0h (FT BigT) BigT lvE 2).1
theorem qgh : (q0a BigT q3t).2 = ⟨1, 0, [], false, []⟩ := by kernel_rfl
theorem qgi : (q0a BigT lvA).2 = ⟨2, 0, [], false, []⟩ := by kernel_rfl
theorem qgx : (q0m lvB 1 ⟨[98], false, [49]⟩).2 = ⟨0, 0, [], false, []⟩ := by kernel_rfl
theorem qgy : (q0m lvC 2 ⟨[98], false, [50]⟩).2 = ⟨0, 0, [], false, []⟩ := by kernel_rfl
theorem qgz : (q0h (FT BigT) BigT lvD 1).2 = ⟨1, 0, [], false, []⟩ := by kernel_rfl
theorem qgB : (q0h (FT BigT) BigT lvE 2).2 = ⟨0, 100, [], false, []⟩ := by kernel_rfl
theorem qgA : q1R lvF.st.K [] [] lvF.st.time = [([98], [49])] := by kernel_rfl
def skC : q06 := (q1s (FT BigT) lvB 1 [97]).1
def skD : q06 := (q0m skC 1 ⟨[98], false, [49]⟩).1
def skE : q06 := (q1s (FT BigT) skD 2 [98]).1
def skF : q06 := (q0m skE 2 ⟨[97], false, [49]⟩).1
def skG : q06 := (q0h (FT BigT) BigT skF 1).1
def skH : q06 := (q0h (FT BigT) BigT skG 2).1
theorem qgC : (q1s (FT BigT) lvB 1 [97]).2 = ⟨0, 0, [], false, []⟩ := by kernel_rfl
theorem qgD : (q0m skC 1 ⟨[98], false, [49]⟩).2 = ⟨0, 0, [], false, []⟩ := by kernel_rfl
theorem qgE : (q1s (FT BigT) skD 2 [98]).2 = ⟨0, 0, [], false, []⟩ := by kernel_rfl
theorem qgF : (q0m skE 2 ⟨[97], false, [49]⟩).2 = ⟨0, 0, [], false, []⟩ := by kernel_rfl
theorem qgG : (q0h (FT BigT) BigT skF 1).2 = ⟨1, 0, [], false, []⟩ := by kernel_rfl
theorem qgH : (q0h (FT BigT) BigT skG 2).2 = ⟨0, 101, [], false, []⟩ := by kernel_rfl
theorem q14 {n : Int} (h1 : 0 ≤ n) (h2 : n ≤ 1000) : I64 n := ⟨by omega, by omega⟩
theorem q1S : I64 BigT.s.keys ∧ I64 BigT.s.vers ∧ I64 BigT.s.byts ∧ BigT.s.last < 18446744073709551616 ∧ I64 BigT.marks ∧ I64 BigT.recs ∧ I64 BigT.live := by unfold I64 BigT; simp
theorem qap {St : q2B} (K : TxnC St) {w : World} (W : World) (hb : Below w.heap.size w W) : Calls Tryz.prog 35 #[limT BigT] W fun r W' => ∃ p F, r = .returned (ptrS p) ∧ RunT St w W' p F BigT q3t 0 :=
 (q8H K BigT w.heap.size W hb.size q1S.1 q1S.2.1 q1S.2.2.1 q1S.2.2.2.1 q1S.2.2.2.2.1 q1S.2.2.2.2.2.1 q1S.2.2.2.2.2.2).mono fun r W' ⟨h1, h2⟩ => by
  rw [if_pos qao] at h2
  obtain ⟨p, F, e, h3, h4⟩ := h2
  exact ⟨p, F, e, RunT.of K h3 (hb.trans (h1.mono hb.size))⟩
theorem qf3 {St : q2B} (K : TxnC St) (w : World) : Calls Tryz.prog 52 #[] w fun r w' => r = .returned (.int .i64 101) ∧ Below w.heap.size w w' := by
 go_enter Tryz.func52, Tryz.ntmps52
 go_wp2_with fail
 refine (q7l w).mono ?_
 rintro r w1 ⟨rfl, hb1⟩
 have HM := qh (qap K w1 hb1)
 clear hb1
 go_wp2_with fail
 refine HM.out.mono ?_
 rintro r w2 ⟨p, F0, rfl, hr⟩
 have R0 := qh hr
 clear hr HM
 unfold ptrS
 have HK := qh K
 clear K
 have hT := HK.out.begin_ w.heap.size p F0 BigT q3t w2 R0.out.st (R0.out.few (by omega))
 rw [qgh] at hT
 have HT := qh hT
 clear hT
 unfold ptrS at HT
 go_wp2_with fail
 refine HT.out.mono ?_
 rintro r w3 ⟨rfl, F1, hQ⟩
 have R1 := qh (show RunT _ w w3 p F1 BigT lvA 1 from R0.out.begin_ HK.out hQ)
 clear HT hQ
 have hT := HK.out.begin_ w.heap.size p F1 BigT lvA w3 R1.out.st (R1.out.few (by omega))
 rw [qgi] at hT
 have HT := qh hT
 clear hT
 unfold ptrS at HT
 go_wp2_with fail
 refine HT.out.mono ?_
 rintro r w4 ⟨rfl, F2, hQ⟩
 have R2 := qh (show RunT _ w w4 p F2 BigT lvB 2 from R1.out.begin_ HK.out hQ)
 clear HT hQ
 have hT := HK.out.read w.heap.size p F2 BigT lvB 1 [97] w4 R2.out.st (R2.out.few (by omega)) (q14 (by omega) (by omega)) (by simp)
 rw [qgC] at hT
 have HT := qh hT
 clear hT
 unfold ptrS at HT
 go_wp2_with fail
 refine HT.out.mono ?_
 rintro r w5 ⟨AA, cc, F3, rfl, _, hQ⟩
 have R3 := qh (show RunT _ w w5 p F3 BigT skC 3 from R2.out.read HK.out (by simp) hQ)
 clear HT hQ
 have HT := qh (q5r [98] 49 w5)
 go_wp2_with fail
 refine HT.out.mono ?_
 rintro r w6 ⟨AA, cc, rfl, hs, hb⟩
 have HD := qh (R3.out.data HK.out hs)
 have R3 := qh (R3.out.next HK.out hb)
 clear HT hs hb
 have hT := HK.out.write w.heap.size p F3 BigT skC 1 ⟨[98], false, [49]⟩ AA cc w6 R3.out.st (R3.out.few (by omega)) (q14 (by omega) (by omega)) ⟨by simp, by simp⟩ HD.out
 rw [qgD] at hT
 have HT := qh hT
 clear hT
 unfold ptrS at HT
 go_wp2_with fail
 refine HT.out.mono ?_
 rintro r w7 ⟨rfl, F4, hQ, hm, _⟩
 have R4 := qh (show RunT _ w w7 p F4 BigT skD 4 from R3.out.write HK.out ⟨by simp, by simp⟩ hQ hm)
 clear HT HD hQ hm
 have hT := HK.out.read w.heap.size p F4 BigT skD 2 [98] w7 R4.out.st (R4.out.few (by omega)) (q14 (by omega) (by omega)) (by simp)
 rw [qgE] at hT
 have HT := qh hT
 clear hT
 unfold ptrS at HT
 go_wp2_with fail
 refine HT.out.mono ?_
 rintro r w8 ⟨AA, cc, F5, rfl, _, hQ⟩
 have R5 := qh (show RunT _ w w8 p F5 BigT skE 5 from R4.out.read HK.out (by simp) hQ)
 clear HT hQ
 have HT := qh (q5r [97] 49 w8)
 go_wp2_with fail
 refine HT.out.mono ?_
 rintro r w9 ⟨AA, cc, rfl, hs, hb⟩
 have HD := qh (R5.out.data HK.out hs)
 have R5 := qh (R5.out.next HK.out hb)
 clear HT hs hb
 have hT := HK.out.write w.heap.size p F5 BigT skE 2 ⟨[97], false, [49]⟩ AA cc w9 R5.out.st (R5.out.few (by omega)) (q14 (by omega) (by omega)) ⟨by simp, by simp⟩ HD.out
 rw [qgF] at hT
 have HT := qh hT
 clear hT
 unfold ptrS at HT
 go_wp2_with fail
 refine HT.out.mono ?_
 rintro r w10 ⟨rfl, F6, hQ, hm, _⟩
 have R6 := qh (show RunT _ w w10 p F6 BigT skF 6 from R5.out.write HK.out ⟨by simp, by simp⟩ hQ hm)
 clear HT HD hQ hm
 have hT := HK.out.commit w.heap.size p F6 BigT skF 1 w10 R6.out.st (R6.out.few (by omega)) (q14 (by omega) (by omega))
 rw [qgG] at hT
 have HT := qh hT
 clear hT
 unfold ptrS at HT
 go_wp2_with fail
 refine HT.out.mono ?_
 rintro r w11 ⟨rfl, F7, hQ⟩
 have R7 := qh (show RunT _ w w11 p F7 BigT skG 7 from R6.out.commit HK.out hQ)
 clear HT hQ
 have hT := HK.out.commit w.heap.size p F7 BigT skG 2 w11 R7.out.st (R7.out.few (by omega)) (q14 (by omega) (by omega))
 rw [qgH] at hT
 have HT := qh hT
 clear hT
 unfold ptrS at HT
 go_wp2_with fail
 refine HT.out.mono ?_
 rintro r w12 ⟨rfl, F8, hQ⟩
 have R8 := qh (show RunT _ w w12 p F8 BigT skH 8 from R7.out.commit HK.out hQ)
 clear HT hQ
 go_wp2_with fail
 go_ret
 exact ⟨rfl, R8.out.bel⟩
theorem qd7 {St : q2B} (K : TxnC St) (w : World) : Calls Tryz.prog 12 #[] w fun r w' => r = .returned (.bool true) ∧ Below w.heap.size w w' := by
 go_enter Tryz.func12, Tryz.ntmps12
 go_wp2_with fail
 refine (q7l w).mono ?_
 rintro r w1 ⟨rfl, hb1⟩
 have HM := qh (qap K w1 hb1)
 clear hb1
 go_wp2_with fail
 refine HM.out.mono ?_
 rintro r w2 ⟨p, F0, rfl, hr⟩
 have R0 := qh hr
 clear hr HM
 unfold ptrS
 have HK := qh K
 clear K
 have hT := HK.out.begin_ w.heap.size p F0 BigT q3t w2 R0.out.st (R0.out.few (by omega))
 rw [qgh] at hT
 have HT := qh hT
 clear hT
 unfold ptrS at HT
 go_wp2_with fail
 refine HT.out.mono ?_
 rintro r w3 ⟨rfl, F1, hQ⟩
 have R1 := qh (show RunT _ w w3 p F1 BigT lvA 1 from R0.out.begin_ HK.out hQ)
 clear HT hQ
 have hT := HK.out.begin_ w.heap.size p F1 BigT lvA w3 R1.out.st (R1.out.few (by omega))
 rw [qgi] at hT
 have HT := qh hT
 clear hT
 unfold ptrS at HT
 go_wp2_with fail
 refine HT.out.mono ?_
 rintro r w4 ⟨rfl, F2, hQ⟩
 have R2 := qh (show RunT _ w w4 p F2 BigT lvB 2 from R1.out.begin_ HK.out hQ)
 clear HT hQ
 have HT := qh (q5r [98] 49 w4)
 go_wp2_with fail
 refine HT.out.mono ?_
 rintro r w5 ⟨AA, cc, rfl, hs, hb⟩
 have HD := qh (R2.out.data HK.out hs)
 have R2 := qh (R2.out.next HK.out hb)
 clear HT hs hb
 have hT := HK.out.write w.heap.size p F2 BigT lvB 1 ⟨[98], false, [49]⟩ AA cc w5 R2.out.st (R2.out.few (by omega)) (q14 (by omega) (by omega)) ⟨by simp, by simp⟩ HD.out
 rw [qgx] at hT
 have HT := qh hT
 clear hT
 unfold ptrS at HT
 go_wp2_with fail
 refine HT.out.mono ?_
 rintro r w6 ⟨rfl, F3, hQ, hm, _⟩
 have R3 := qh (show RunT _ w w6 p F3 BigT lvC 3 from R2.out.write HK.out ⟨by simp, by simp⟩ hQ hm)
 clear HT HD hQ hm
 have HT := qh (q5r [98] 50 w6)
 go_wp2_with fail
 refine HT.out.mono ?_
 rintro r w7 ⟨AA, cc, rfl, hs, hb⟩
 have HD := qh (R3.out.data HK.out hs)
 have R3 := qh (R3.out.next HK.out hb)
 clear HT hs hb
 have hT := HK.out.write w.heap.size p F3 BigT lvC 2 ⟨[98], false, [50]⟩ AA cc w7 R3.out.st (R3.out.few (by omega)) (q14 (by omega) (by omega)) ⟨by simp, by simp⟩ HD.out
 rw [qgy] at hT
 have HT := qh hT
 clear hT
 unfold ptrS at HT
 go_wp2_with fail
 refine HT.out.mono ?_
 rintro r w8 ⟨rfl, F4, hQ, hm, _⟩
 have R4 := qh (show RunT _ w w8 p F4 BigT lvD 4 from R3.out.write HK.out ⟨by simp, by simp⟩ hQ hm)
 clear HT HD hQ hm
 have hT := HK.out.commit w.heap.size p F4 BigT lvD 1 w8 R4.out.st (R4.out.few (by omega)) (q14 (by omega) (by omega))
 rw [qgz] at hT
 have HT := qh hT
 clear hT
 unfold ptrS at HT
 go_wp2_with fail
 refine HT.out.mono ?_
 rintro r w9 ⟨rfl, F5, hQ⟩
 have R5 := qh (show RunT _ w w9 p F5 BigT lvE 5 from R4.out.commit HK.out hQ)
 clear HT hQ
 have hT := HK.out.commit w.heap.size p F5 BigT lvE 2 w9 R5.out.st (R5.out.few (by omega)) (q14 (by omega) (by omega))
 rw [qgB] at hT
 have HT := qh hT
 clear hT
 unfold ptrS at HT
 go_wp2_with fail
 refine HT.out.mono ?_
 rintro r w10 ⟨rfl, F6, hQ⟩
 have R6 := qh (show RunT _ w w10 p F6 BigT lvF 6 from R5.out.commit HK.out hQ)
 clear HT hQ
 have hT := HK.out.all w.heap.size p F6 BigT lvF w10 R6.out.st
 rw [qgA] at hT
 have HT := qh hT
 clear hT
 unfold ptrS at HT
 go_wp2_with fail
 refine HT.out.mono ?_
 rintro r w11 ⟨A9, c9, rfl, hs9, hb9⟩
 have HB9 := qh (R6.out.bel.trans (hb9.mono R6.out.bel.size))
 obtain ⟨hl9, hc9, hn9, ms, hms, hrow, hel⟩ := hs9
 have hml : ms.length = 1 := by
  have h := congrArg List.length hms
  rw [List.length_map] at h
  exact h
 obtain ⟨y, rfl⟩ := List.length_eq_one_iff.1 hml
 clear hml
 have hy : y.p = ([98], [49]) := by simpa using hms
 obtain ⟨bb, ob, rfl, _, hcell⟩ := hrow (by simp)
 have q0 := hcell 0 _ rfl
 have q1 := hcell 1 _ rfl
 simp only [Nat.add_zero] at q0
 obtain ⟨yk, yb, yA, yc⟩ := y
 obtain ⟨rfl, rfl⟩ : yk = [98] ∧ yb = [49] := by
  unfold MP.p at hy
  simp only at hy
  injection hy with h1 h2
  exact ⟨h1, h2⟩
 have hby := hel _ (List.mem_singleton.2 rfl)
 have hcv : (convert 35 9 (.slice yA 1 yc)).run Tryz.prog w11 = .ok (.string ⟨#[49]⟩) w11 := qfw (m := [49]) 35 9 5 Tryz.underlying35 Tryz.underlying5 Tryz.underlying9 rfl hby.2.2.2.rd
 have HSk := qh (qf3 HK.out w11)
 clear hb9 hms hrow hel hcell hy hby HT
 go_wp2_with fail
 refine HSk.out.mono ?_
 rintro r w40 ⟨rfl, hb40⟩
 have HB40 := qh (HB9.out.trans (hb40.mono HB9.out.size))
 clear hb40
 go_wp2_with fail
 go_ret
 exact ⟨rfl, HB40.out⟩
theorem qdq {b : q06} {u : TxS} {id : Int} : ofT (setT b u) id = (ofT b id).map fun x => if x.id = u.id then u else x := by
 unfold ofT setT
 simp only
 rw [List.find?_map]
 congr 2
 funext x
 simp only [Function.comp]
 split
 ·rename_i h; rw [h]
 ·rfl
theorem q6l {b : q06} {u t : TxS} {id : Int} (h : ofT b id = some t) (hu : (u.id : Int) ≠ id) : ofT (setT b u) id = some t := by
 rw [qdq, h]
 have := (q0J h).2
 show some (if t.id = u.id then u else t) = some t
 rw [if_neg (by omega)]
theorem qaL {b : q06} {u t : TxS} {id : Int} (h : ofT b id = some t) (hu : u.id = t.id) : ofT (setT b u) id = some u := by
 rw [qdq, h]
 show some (if t.id = u.id then u else t) = some u
 rw [if_pos hu.symm]
section
variable {F : List Sp → List Sp} {M : Nat}
theorem q3Q {L : LimT} {b : q06} {u t : TxS} {id : Int} (h : ofT b id = some t) (hu : (u.id : Int) ≠ id) : ofT (q2p F L b u) id = some t := by
 unfold ofT q2p at *
 simp only
 rw [List.find?_filter]
 rw [← h]
 congr 1
 funext x
 by_cases e : (x.id : Int) = id
 ·have : x.id ≠ u.id := fun h2 => hu (by omega)
  simp [e, this]
 ·simp [e]
structure q4g (b b' : q06) (id : Int) (t t' : TxS) : Prop where
 of : ofT b' id = some t'
 began : t'.began = t.began
 start : t'.start = t.start
 ws : t'.ws = t.ws
 read : ∀ k, q0V b'.st.K k t.began = q0V b.st.K k t.began
theorem q7c {L : LimT} {b : q06} (h : OkTx L M b) {id : Int} {t : TxS} (ht : ofT b id = some t) (o : OpT) (ho : o.id = id → o.what ≠ 3 ∧ o.what ≠ 4 ∧ o.what ≠ 5) :
  ∃ t', q4g b (q1U F L b o).1 id t t' := by
 obtain ⟨hmem, hid⟩ := q0J ht
 have hlow := q8G hmem
 have hbg := h.began t hmem
 have same : ∀ b' : q06, b'.st = b.st → ofT b' id = some t → ∃ t', q4g b b' id t t' := fun b' e1 e2 => ⟨t, e2, rfl, rfl, rfl, fun k => by rw [e1]⟩
 have mark : ∀ (u u' : TxS), ofT b o.id = some u → u'.id = u.id → u'.began = u.began → u'.start = u.start → u'.ws = u.ws → ∃ t', q4g b (setT b u') id t t' := fun u u' hu e1 e2 e3 e4 => by
  obtain ⟨_, hu2⟩ := q0J hu
  by_cases e : o.id = id
  ·rw [e, ht] at hu
   cases hu
   exact ⟨u', qaL ht e1, e2, e3, e4, fun k => rfl⟩
  ·exact same _ rfl (q6l ht (by rw [e1, hu2]; exact e))
 unfold q1U
 split
 ·unfold q0a
  split
  ·exact same _ rfl ht
  ·refine same _ rfl ?_
   unfold ofT at *
   simp only
   rw [List.find?_append, ht]
   rfl
 ·split
  ·unfold q1s
   cases hu : ofT b o.id with
   | none => exact same _ rfl ht
   | some u =>
    simp only
    split
    ·exact same _ rfl ht
    ·exact mark u _ hu rfl rfl rfl rfl
  ·split
   ·unfold q21
    cases hu : ofT b o.id with
    | none => exact same _ rfl ht
    | some u =>
     simp only
     split
     ·exact same _ rfl ht
     ·exact mark u _ hu rfl rfl rfl rfl
   ·split
    ·rename_i h3
     unfold q0m
     cases hu : ofT b o.id with
     | none => exact same _ rfl ht
     | some u =>
      simp only
      obtain ⟨_, hu2⟩ := q0J hu
      split
      ·exact same _ rfl ht
      ·refine same _ rfl (q6l ht ?_)
       show (u.id : Int) ≠ id
       rw [hu2]
       exact fun e => (ho e).1 h3
    ·split
     ·rename_i h4
      unfold q0h
      cases hu : ofT b o.id with
      | none => exact same _ rfl ht
      | some u =>
       obtain ⟨_, hu2⟩ := q0J hu
       have hne : (u.id : Int) ≠ id := by rw [hu2]; exact fun e => (ho e).2.1 h4
       simp only
       split
       ·exact same _ rfl (q3Q ht hne)
       ·split
        ·exact same _ rfl (q3Q ht hne)
        ·split
         ·exact ⟨t, q3Q (b := ⟨_, b.live, b.recs, b.hist, b.last, b.event⟩) ht hne, rfl, rfl, rfl, fun k => q6o h.ok hbg hlow k⟩
         ·exact ⟨t, q3Q (b := ⟨_, b.live, _, _, b.last, b.event + 1⟩) ht hne, rfl, rfl, rfl, fun k => q6o h.ok hbg hlow k⟩
     ·split
      ·rename_i h5
       unfold q1O
       cases hu : ofT b o.id with
       | none => exact same _ rfl ht
       | some u =>
        obtain ⟨_, hu2⟩ := q0J hu
        exact same _ rfl (q3Q ht (by rw [hu2]; exact fun e => (ho e).2.2 h5))
      ·split
       ·exact ⟨t, ht, rfl, rfl, rfl, fun k => q2R h.ok hlow k⟩
       ·exact same _ rfl ht
theorem q4g.trans {b b' b'' : q06} {id : Int} {t t' t'' : TxS} (h : q4g b b' id t t') (g : q4g b' b'' id t' t'') : q4g b b'' id t t'' :=
 ⟨g.of, g.began.trans h.began, g.start.trans h.start, g.ws.trans h.ws, fun k => by
  have := g.read k
  rw [h.began] at this
  rw [this, h.read k]⟩
end
section
variable {F : List Sp → List Sp} {M : Nat}
end
section
variable {F : List Sp → List Sp} {M : Nat}
theorem qeM (l : List Ver) (v : Ver) : q1Z (l ++ [v]) = v.tm := by
 unfold q1Z
 rw [List.getLast?_append]
 rfl
theorem qa2 {st : PS} {t : TxS} {w : Wr} (hw : w ∈ t.ws) (hg : w.gone = false) : w ∈ q05 st t :=
 List.mem_filter.2 ⟨hw, by unfold q1K; rw [hg]; rfl⟩
theorem q9k {L : LimS} {st : PS} (h : OkS st) {l : List Wr} {low : Nat} {w : Wr} (hw : w ∈ l) (hg : w.gone = false) (he : (q09 L st l low).2.2 = 0) : q1Z (q03 (q09 L st l low).1.K w.key) = st.time + 1 := by
 rcases q1j L st l low with ⟨e, hc⟩ | ⟨e, _, hn⟩ | ⟨e, _⟩ | ⟨e, hc, _⟩ | ⟨e, _⟩ <;> rw [e] at he ⊢
 ·exact absurd he hc
 ·rw [hn] at hw; cases hw
 ·cases he
 ·have hr := q5q (L := L) (l := l) (low := low) h
  have hk := (q6z hr hc).2.2 w.key
  obtain ⟨hall, hp⟩ := q0H hc
  have hf : l.find? (fun x => x.key == w.key) = some w := by
   cases hf : l.find? (fun x => x.key == w.key) with
   | none =>
    have := List.find?_eq_none.1 hf w hw
    simp at this
   | some u =>
    have hu := List.mem_of_find?_eq_some hf
    have hke : u.key = w.key := by have := List.find?_some hf; simpa using this
    have key : ∀ {l : List Wr}, l.Pairwise (fun a b => blt a.key b.key = true) → ∀ a ∈ l, ∀ b ∈ l, a.key = b.key → a = b := by
     intro l
     induction l with
     | nil => intro _ a ha; cases ha
     | cons z l ih =>
      intro hp a ha b hb e
      obtain ⟨h1, h2⟩ := List.pairwise_cons.1 hp
      rcases List.mem_cons.1 ha with ea | ha2
      ·rcases List.mem_cons.1 hb with eb | hb2
       ·rw [ea, eb]
       ·exact absurd (by rw [← ea, e]) (q13 (h1 b hb2))
      ·rcases List.mem_cons.1 hb with eb | hb2
       ·exact absurd (by rw [← eb, e]) (q13 (h1 a ha2))
       ·exact ih h2 a ha2 b hb2 e
    rw [key hp u hu w hw hke]
  show q1Z (q03 (q0t (q2x L st l low) l) w.key) = st.time + 1
  rw [hk]
  unfold q7Y
  rw [hf]
  simp only
  rw [qdl hr (hall w hw).2.2.2, if_pos (by unfold q1P; rw [hg]; rfl), qeM]
  show (q2x L st l low).time + 1 = st.time + 1
  rw [q4x]
 ·cases he
theorem qeu {st : PS} {t : TxS} {w : Wr} (hw : w ∈ t.ws) (h : t.began < q1Z (q03 st.K w.key)) : q5J st t = true :=
 List.any_eq_true.2 ⟨w, hw, by simpa using h⟩
theorem q9K {L : LimT} {b : q06} (h : OkTx L M b) {x y : Int} (hxy : x ≠ y) {tx ty : TxS} (hx : ofT b x = some tx) (hy : ofT b y = some ty) {wx wy : Wr} (h1 : wx ∈ tx.ws) (h2 : wy ∈ ty.ws) (hk : wx.key = wy.key) (hg : wx.gone = false)
  (he : (q0h F L b x).2.e = 0) : (q0h F L (q0h F L b x).1 y).2.e = 100 := by
 obtain ⟨_, hxi⟩ := q0J hx
 obtain ⟨hym, hyi⟩ := q0J hy
 have hyb := h.began ty hym
 have key : ∀ b' : q06, ofT b' y = some ty → q1Z (q03 b'.st.K wy.key) = b.st.time + 1 → (q0h F L b' y).2.e = 100 := fun b' e1 e2 => by
  unfold q0h
  rw [e1]
  simp only
  rw [if_pos (qeu h2 (by omega))]
  rfl
 unfold q0h at he
 rw [hx] at he
 simp only at he
 split at he
 ·cases he
 ·split at he
  ·cases he
  ·split at he
   ·rename_i hne
    exact absurd he hne
   ·rename_i hcl _ out hj hne
    have hne2 : (q09 L.s b.st (q05 b.st tx) (lowT b)).2.2 = 0 := Decidable.of_not_not hne
    have hl := q9k h.ok (qa2 h1 hg) hg hne2
    rw [hk] at hl
    have e : (q0h F L b x).1 = q2p F L ⟨(q09 L.s b.st (q05 b.st tx) (lowT b)).1, b.live,
      b.recs ++ [⟨max (q09 L.s b.st (q05 b.st tx) (lowT b)).2.1 1, max (q09 L.s b.st (q05 b.st tx) (lowT b)).2.1 1, tx.began, out, q1F F b.st tx, q1f F (q05 b.st tx)⟩],
      b.hist ++ [⟨tx.id, tx.began, (q09 L.s b.st (q05 b.st tx) (lowT b)).2.1, tx.start, b.event + 1, q1F F b.st tx, q1f F (q05 b.st tx)⟩], b.last, b.event + 1⟩ tx := by
     unfold q0h
     rw [hx]
     simp only
     rw [if_neg hcl, hj]
     simp only
     rw [if_neg hne]
    rw [e]
    exact key _ (q3Q (b := ⟨_, b.live, _, _, _, _⟩) hy (by rw [hxi]; exact hxy)) hl
end
section
variable {F : List Sp → List Sp} {M : Nat}
end
open Go.RowKit
theorem qbD {St : q2B} (K : TxnC St) (w : World) : ∀ W, Below w.heap.size w W → Calls Tryz.prog 12 #[] W fun r w' => r = .returned (.bool true) ∧ Below w.heap.size w w' := fun W hb =>
 (qd7 K W).mono fun _ _ q => ⟨q.1, hb.trans (q.2.mono hb.size)⟩
theorem q8k {w : World} {l : List OpT} {A : Option Addr} {c : Nat} (h : ChOT w w.heap.size A c l) : ∀ W, Below w.heap.size w W → Calls Tryz.prog 13 #[.slice A l.length c] W fun r w' => r = .returned (.bool (fewT l)) ∧ Below w.heap.size w w' := fun W hb =>
 (qeB l A c w.heap.size W (h.below hb (Nat.le_refl _) (Nat.le_refl _)) hb.size).mono fun _ _ q => ⟨q.1, hb.trans (q.2.mono hb.size)⟩
theorem qc7 (w : World) : ∀ W, Below w.heap.size w W → Calls Tryz.prog 36 #[] W fun r w' => r = .returned (limT BigT) ∧ Below w.heap.size w w' := fun W hb =>
 (q7l W).mono fun _ _ q => ⟨q.1, hb.trans (q.2.mono hb.size)⟩
theorem q9O {L : LimT} {b : q06} (hf : L.live ≤ (b.live.length : Int)) : q0a L b = (b, errT 5) := by
 unfold q0a
 rw [if_pos hf]
open Go.RowKit
theorem q6X (l : List Sp) : q0b (q0b l) = q0b l := (q45 (q1C l) fun _ => rfl).symm
def Box6 (w : World) (b : Nat) (t : TypeId) : Prop := ∃ a0 a1 a2 a3 a4 a5, w.heap[b]? = some (.cells #[a0, a1, a2, a3, a4, a5] t (0, 0))
def set6 (w : World) (b : Nat) (v0 v1 v2 v3 v4 v5 : Value) : World := (((((w.setCell ⟨b, 0, none⟩ v0).setCell ⟨b, 1, none⟩ v1).setCell ⟨b, 2, none⟩ v2).setCell ⟨b, 3, none⟩ v3).setCell ⟨b, 4, none⟩ v4).setCell ⟨b, 5, none⟩ v5
section
variable {w w' : World} {b B g : Nat} {t : TypeId} {v0 v1 v2 v3 v4 v5 : Value}
theorem Box6.new (w : World) (v0 v1 v2 v3 v4 v5 : Value) (t : TypeId) : Box6 (w.alloc (.cells #[v0, v1, v2, v3, v4, v5] t)) w.heap.size t := ⟨v0, v1, v2, v3, v4, v5, heap_alloc_new w _⟩
theorem Box6.of (h : w.heap[b]? = some (.cells #[v0, v1, v2, v3, v4, v5] t (0, 0))) : Box6 w b t := ⟨_, _, _, _, _, _, h⟩
theorem Box6.lt (h : Box6 w b t) : b < w.heap.size := by
 obtain ⟨_, _, _, _, _, _, h⟩ := h
 exact q00 h
theorem Box6.below (h : Box6 w b t) (hb : Below B w w') (hB : b < B) : Box6 w' b t := by
 obtain ⟨_, _, _, _, _, _, h⟩ := h
 exact ⟨_, _, _, _, _, _, q01 h hb hB⟩
theorem Box6.frozen (h : Box6 w b t) (o : Nat) : w.frozen? ⟨b, o, none⟩ = false := by
 obtain ⟨_, _, _, _, _, _, h⟩ := h
 exact q02 h o
theorem Box6.cells (h : Box6 w b t) : ∃ a0 a1 a2 a3 a4 a5, w.cell? ⟨b, 0, none⟩ = some a0 ∧ w.cell? ⟨b, 1, none⟩ = some a1 ∧ w.cell? ⟨b, 2, none⟩ = some a2 ∧ w.cell? ⟨b, 3, none⟩ = some a3 ∧ w.cell? ⟨b, 4, none⟩ = some a4 ∧ w.cell? ⟨b, 5, none⟩ = some a5 ∧
  w.frozen? ⟨b, 0, none⟩ = false ∧ w.frozen? ⟨b, 1, none⟩ = false ∧ w.frozen? ⟨b, 2, none⟩ = false ∧ w.frozen? ⟨b, 3, none⟩ = false ∧ w.frozen? ⟨b, 4, none⟩ = false ∧ w.frozen? ⟨b, 5, none⟩ = false := by
 have hf := h.frozen
 obtain ⟨a0, a1, a2, a3, a4, a5, h⟩ := h
 obtain ⟨c0, c1, c2, c3, c4, c5⟩ := q17 h
 exact ⟨a0, a1, a2, a3, a4, a5, c0, c1, c2, c3, c4, c5, hf _, hf _, hf _, hf _, hf _, hf _⟩
theorem q16 {x : Array Value} (h : w.heap[b]? = some (.cells x t (0, 0))) (o : Nat) (v : Value) : (w.setCell ⟨b, o, none⟩ v).heap[b]? = some (.cells (x.setIfInBounds o v) t (0, 0)) := heap_setCell_same w b o x t v h
theorem Box6.set (h : Box6 w b t) : (set6 w b v0 v1 v2 v3 v4 v5).heap[b]? = some (.cells #[v0, v1, v2, v3, v4, v5] t (0, 0)) := by
 obtain ⟨a0, a1, a2, a3, a4, a5, h⟩ := h
 have h0 : (w.setCell ⟨b, 0, none⟩ v0).heap[b]? = some (.cells #[v0, a1, a2, a3, a4, a5] t (0, 0)) := by rw [q16 h 0 v0]; rfl
 have h1 : ((w.setCell ⟨b, 0, none⟩ v0).setCell ⟨b, 1, none⟩ v1).heap[b]? = some (.cells #[v0, v1, a2, a3, a4, a5] t (0, 0)) := by rw [q16 h0 1 v1]; rfl
 have h2 : (((w.setCell ⟨b, 0, none⟩ v0).setCell ⟨b, 1, none⟩ v1).setCell ⟨b, 2, none⟩ v2).heap[b]? = some (.cells #[v0, v1, v2, a3, a4, a5] t (0, 0)) := by rw [q16 h1 2 v2]; rfl
 have h3 : ((((w.setCell ⟨b, 0, none⟩ v0).setCell ⟨b, 1, none⟩ v1).setCell ⟨b, 2, none⟩ v2).setCell ⟨b, 3, none⟩ v3).heap[b]? = some (.cells #[v0, v1, v2, v3, a4, a5] t (0, 0)) := by rw [q16 h2 3 v3]; rfl
 have h4 : (((((w.setCell ⟨b, 0, none⟩ v0).setCell ⟨b, 1, none⟩ v1).setCell ⟨b, 2, none⟩ v2).setCell ⟨b, 3, none⟩ v3).setCell ⟨b, 4, none⟩ v4).heap[b]? = some (.cells #[v0, v1, v2, v3, v4, a5] t (0, 0)) := by rw [q16 h3 4 v4]; rfl
 unfold set6
 rw [q16 h4 5 v5]
 rfl
theorem q1d (hg : g ≠ b) (o : Nat) (v : Value) : (w.setCell ⟨b, o, none⟩ v).heap[g]? = w.heap[g]? := by
 have hg' : b ≠ g := fun e => hg e.symm
 simp [World.setCell, Array.getElem?_modify, hg']
theorem q4y (hg : g ≠ b) : (set6 w b v0 v1 v2 v3 v4 v5).heap[g]? = w.heap[g]? := by
 unfold set6
 rw [q1d hg, q1d hg, q1d hg, q1d hg, q1d hg, q1d hg]
theorem Below.set6 (h : Below B w w') (hb : B ≤ b) : Below B w (set6 w' b v0 v1 v2 v3 v4 v5) := (((((h.setCell hb _).setCell hb _).setCell hb _).setCell hb _).setCell hb _).setCell hb _
theorem _root_.Go.RowKit.Below.set6' {w w' : World} {b B : Nat} {v0 v1 v2 v3 v4 v5 : Value} (h : Below B w w') (hb : B ≤ b) : Below B w (set6 w' b v0 v1 v2 v3 v4 v5) := Below.set6 h hb
theorem q35 : (set6 w b v0 v1 v2 v3 v4 v5).heap.size = w.heap.size := by simp [Go.Proofs.YtdpbllacfljmoaaGreat.set6, World.setCell]
theorem cell_far (h : w'.heap[g]? = w.heap[g]?) (o : Nat) : w'.cell? ⟨g, o, none⟩ = w.cell? ⟨g, o, none⟩ := World.cell?_of_block h
end
theorem ChI.set6 {w : World} {b : Nat} {A : Option Addr} {c : Nat} {l : List Sp} {v0 v1 v2 v3 v4 v5 : Value} (h : ChI w w.heap.size A c l) (hb : ∀ x, A = some x → x.block ≠ b) : ChI (set6 w b v0 v1 v2 v3 v4 v5) (set6 w b v0 v1 v2 v3 v4 v5).heap.size A c l := by
 refine ⟨h.1, h.2.1, h.2.2.1, fun hn => ?_⟩
 obtain ⟨g, o, e, h1, h2, hc⟩ := h.2.2.2 hn
 refine ⟨g, o, e, h1, by rw [q35]; exact h2, fun j u hu => ?_⟩
 rw [cell_far (q4y (hb _ e))]
 exact hc j u hu
theorem q9Z {w : World} {b : Nat} {t : TypeId} {fz : Nat × Nat} {n0 n1 n2 n3 : Int} {A B : Option Addr} {x y c d : Nat} (h : w.heap[b]? = some (.cells #[.int .u64 n0, .int .u64 n1, .int .u64 n2, .int .u64 n3, .slice A x c, .slice B y d] t fz)) (o : Nat) (s : ByteArray) : w.cell? ⟨b, o, none⟩ ≠ some (.string s) := by
 intro e
 simp only [World.cell?, h] at e
 match o with
 | 0 | 1 | 2 | 3 | 4 | 5 => simp at e
 | o + 6 => simp at e
theorem ChI.set6z {w : World} {b : Nat} {A : Option Addr} {c : Nat} {l : List Sp} {v0 v1 v2 v3 v4 v5 : Value} {hi : Nat} (h : ChI w hi A c l) (hs : ∀ o s, w.cell? ⟨b, o, none⟩ ≠ some (.string s)) : ChI (Go.Proofs.YtdpbllacfljmoaaGreat.set6 w b v0 v1 v2 v3 v4 v5) hi A c l := by
 refine ⟨h.1, h.2.1, h.2.2.1, fun hn => ?_⟩
 obtain ⟨g, o, e, h1, h2, hc⟩ := h.2.2.2 hn
 have hg : g ≠ b := by
  rintro rfl
  cases l with
  | nil => simp at hn
  | cons x l => exact hs _ _ (hc 0 (.string (bs x.lo)) rfl)
 refine ⟨g, o, e, h1, h2, fun j u hu => ?_⟩
 rw [cell_far (q4y hg)]
 exact hc j u hu
theorem results6 {f : Func} {k : Nat} {t : TypeId} {tmps : Array Value} {w : World} {h : Nat} {a0 a1 a2 a3 a4 a5 : Value} (hr : f.results = #[.cell k t]) (ht : t = 86) (h4 : tmps[k]? = some (.pointer (some ⟨h, 0, none⟩)))
  (hb : w.heap[h]? = some (.cells #[a0, a1, a2, a3, a4, a5] t (0, 0))) : (results f tmps).run Tryz.prog w = .ok (.agg #[a0, a1, a2, a3, a4, a5]) w := by
 subst ht
 have hl := run_loadCells_list (P := Tryz.prog) w ⟨h, 0, none⟩ [a0, a1, a2, a3, a4, a5] (fun j v hv => by
  have e : (⟨h, 0, none⟩ : Addr).add j = ⟨h, j, none⟩ := by unfold Addr.add; split <;> simp_all
  rw [e]
  simp only [World.cell?, hb]
  simpa using hv)
 rw [show ([a0, a1, a2, a3, a4, a5] : List Value).length = 6 from rfl] at hl
 have ha : (isAgg 86).run Tryz.prog w = .ok true w := by kernel_rfl
 have hz : (sizeOf 86).run Tryz.prog w = .ok 6 w := by kernel_rfl
 simp [results, hr, asAddr, loadVar, ha, hl, h4]
end Go.Proofs.YtdpbllacfljmoaaGreat
