import Derived.Test.YtdpbllacfljmoaaGreatZF10
import Derived.Test.YtdpbllacfljmoaaGreatZF07
import Derived.Deep.RegionHeld3
import Derived.KernelRfl
import Derived.Deep.LoopGhost
import Derived.Deep.DeepCutAuto
import Derived.IntWalk
set_option maxRecDepth 100000
set_option maxHeartbeats 16000000
set_option linter.unusedVariables false
namespace Go.Proofs.YtdpbllacfljmoaaGreat
open Go.RowKit
theorem fT_c (L : LimT) : FitC (FT L) (fitN L.marks) :=
 ⟨fun l => qd4 (q1L l), fun l k hk => qg2 (q1L l) (by rw [q3A]; exact hk), fun l => qfE (q0a l), by
  show fitI L.marks (q0a []) = []
  exact q7G (Nat.zero_le _)⟩
theorem qd1 (L : LimT) (l : List Sp) : (FT L l).length ≤ l.length := Nat.le_trans (q3j (q0a l)) (q1u l)
theorem qg0 (L : LimT) : q8P (FT L) = fun a b => fitI L.marks (q0a (a ++ b)) := by
 funext a b
 show fitI L.marks (q0a (q0a (a ++ b))) = _
 rw [← q4f (q1L (a ++ b)) fun _ => rfl]
structure RunT (St : q2w) (w W : World) (p : Nat) (F : Nat → Prop) (L : LimT) (b : q08) (k : Nat) : Prop where
 st : St w.heap.size W p F L b
 bel : Below w.heap.size w W
 ok : OkTx L (fitN L.marks) b
 wgt : WgtT b ≤ 5 * k
 small : qaB b
section
variable {St : q2w} {w W W' : World} {p : Nat} {F F' : Nat → Prop} {L : LimT} {b : q08} {k : Nat}
theorem RunT.few (h : RunT St w W p F L b k) (hk : k ≤ 198) : q0L b := ⟨by have := h.wgt; omega, h.small⟩
theorem RunT.next (K : TxnC St) (h : RunT St w W p F L b k) (hb : Below W.heap.size W W') : RunT St w W' p F L b k :=
 ⟨K.keep h.st (fun g _ hg => hb.block g hg) hb.size, h.bel.trans (hb.mono h.bel.size), h.ok, h.wgt, h.small⟩
theorem RunT.of (K : TxnC St) (hst : St w.heap.size W p F L q2Z) (hb : Below w.heap.size w W) : RunT St w W p F L q2Z 0 := by
 have h := (K.okay hst).1
 unfold MayT at h
 simp only [Bool.and_eq_true, decide_eq_true_eq] at h
 exact ⟨hst, hb, qb3 h.1.1.1 (by omega), Nat.zero_le _, fun t ht => by cases ht⟩
theorem RunT.aside (K : TxnC St) (h : RunT St w W p F L b k) {G : Nat → Prop} (hm : Mut G W W') (hG : ∀ g, G g → w.heap.size ≤ g ∧ ¬ F g) : RunT St w W' p F L b k :=
 ⟨K.keep h.st (fun g hg hlt => hm.block g hlt (fun hgg => by
  obtain ⟨h1, h2⟩ := hG g hgg
  rcases hg with h3 | h3
  ·exact h2 h3
  ·omega)) hm.size, h.bel.trans (hm.below h.bel.size fun g hg => (hG g hg).1), h.ok, h.wgt, h.small⟩
theorem RunT.turn' (K : TxnC St) (h : RunT St w W p F L b k) (o : OpT) (hw : q2q o.w) (hst : St w.heap.size W' p F' L (q1g (FT L) L b o).1) (hm : Mut F W W') : RunT St w W' p F' L (q1g (FT L) L b o).1 (k + 1) := by
 refine ⟨hst, h.bel.trans (hm.below h.bel.size fun g hg => (K.upto h.st g hg).1), h.ok.does (fT_c L) o, ?_, qam h.small hw⟩
 have h1 := qfC (qd1 L) h.ok o
 have h2 := h.wgt
 omega
theorem RunT.turn (K : TxnC St) (h : RunT St w W p F L b k) (o : OpT) (hw : q2q o.w) (ht : q2b St w.heap.size W p F L (q1g (FT L) L b o).1 W' F') : RunT St w W' p F' L (q1g (FT L) L b o).1 (k + 1) := h.turn' K o hw ht.1 ht.2.1
theorem qfH : q2q ⟨[], false, []⟩ := ⟨Nat.zero_le _, Nat.zero_le _⟩
theorem RunT.begin_ (K : TxnC St) (h : RunT St w W p F L b k) (ht : q2b St w.heap.size W p F L (q0N L b).1 W' F') : RunT St w W' p F' L (q0N L b).1 (k + 1) := h.turn K ⟨0, 0, ⟨[], false, []⟩, []⟩ qfH ht
theorem RunT.read (K : TxnC St) (h : RunT St w W p F L b k) {id : Int} {key : KeyS} (hk : key.length ≤ 300) (ht : q2b St w.heap.size W p F L (q16 (FT L) b id key).1 W' F') : RunT St w W' p F' L (q16 (FT L) b id key).1 (k + 1) := h.turn K ⟨1, id, ⟨key, false, []⟩, []⟩ ⟨hk, Nat.zero_le _⟩ ht
theorem RunT.scan (K : TxnC St) (h : RunT St w W p F L b k) {id : Int} {lo hi : KeyS} (hk : lo.length ≤ 300) (ht : q2b St w.heap.size W p F L (q1P (FT L) b id lo hi).1 W' F') : RunT St w W' p F' L (q1P (FT L) b id lo hi).1 (k + 1) := h.turn K ⟨2, id, ⟨lo, false, []⟩, hi⟩ ⟨hk, Nat.zero_le _⟩ ht
theorem RunT.write (K : TxnC St) (h : RunT St w W p F L b k) {id : Int} {x : Wr} (hx : q2q x) (hst : St w.heap.size W' p F' L (q0J b id x).1) (hm : Mut F W W') : RunT St w W' p F' L (q0J b id x).1 (k + 1) := h.turn' K ⟨3, id, x, []⟩ hx hst hm
theorem RunT.commit (K : TxnC St) (h : RunT St w W p F L b k) {id : Int} (ht : q2b St w.heap.size W p F L (q0r (FT L) L b id).1 W' F') : RunT St w W' p F' L (q0r (FT L) L b id).1 (k + 1) := h.turn K ⟨4, id, ⟨[], false, []⟩, []⟩ qfH ht
theorem RunT.data (K : TxnC St) (h : RunT St w W p F L b k) {A : Option Addr} {c : Nat} {d : List UInt8} (hd : SlI W' W.heap.size W'.heap.size A c d) : ByS W' (fun k => k < w.heap.size ∨ (w.heap.size ≤ k ∧ ¬ F k)) A c d :=
 ⟨hd.1, hd.2.1, hd.2.2.1, RdS.of_rd hd.2.2.2 fun g h1 _ => .inr ⟨Nat.le_trans h.bel.size h1, fun hf => by have := (K.upto h.st g hf).2; omega⟩⟩
def DidT (St : q2w) (w W : World) (p : Nat) (F : Nat → Prop) (L : LimT) (b : q08) (k : Nat) (o : OpT) (r : Ending) (W' : World) : Prop :=
 ∃ (A B : Option Addr) (c d : Nat) (F' : Nat → Prop), r = .returned (q1d (q1g (FT L) L b o).2 A c B d) ∧ q6P W' (ResT F' w.heap.size W) (q1g (FT L) L b o).2 A c B d ∧ RunT St w W' p F' L (q1g (FT L) L b o).1 (k + 1) ∧ Mut F W W' ∧ ∀ g, F' g → F g ∨ W.heap.size ≤ g
theorem qaM (K : TxnC St) (h : RunT St w W p F L b k) (hk : k ≤ 198) (o : OpT) (A : Option Addr) (c : Nat) (hw : q2q o.w) (hhi : o.hi.length ≤ 300) (harg : OkOT W w.heap.size ⟨o, A, c⟩) :
  Calls Tryz.prog 18 #[ptrS p, qfh o A c] W (DidT St w W p F L b k o) :=
 (qcX K w.heap.size o A c p F L b W h.st (h.few hk) hw hhi harg h.bel.size).mono fun r W' ⟨A9, B9, c9, d9, F', e, ht, hT⟩ => ⟨A9, B9, c9, d9, F', e, ht, h.turn K o hw hT, hT.2.1, hT.2.2⟩
end
open Go.RowKit
def lvA : q08 := (q0N BigT q2Z).1
def lvB : q08 := (q0N BigT lvA).1
def lvC : q08 := (q0J lvB 1 ⟨[98], false, [49]⟩).1
def lvD : q08 := (q0J lvC 2 ⟨[98], false, [50]⟩).1
def lvE : q08 := (q0r (FT BigT) BigT lvD 1).1
def lvF : q08 := (q0r (FT BigT) BigT lvE 2).1
theorem qgM : (q0N BigT q2Z).2 = ⟨1, 0, [], false, []⟩ := by kernel_rfl
theorem qgN : (q0N BigT lvA).2 = ⟨2, 0, [], false, []⟩ := by kernel_rfl
theorem qh4 : (q0J lvB 1 ⟨[98], false, [49]⟩).2 = ⟨0, 0, [], false, []⟩ := by kernel_rfl
theorem qh5 : (q0J lvC 2 ⟨[98], false, [50]⟩).2 = ⟨0, 0, [], false, []⟩ := by kernel_rfl
theorem qh6 : (q0r (FT BigT) BigT lvD 1).2 = ⟨1, 0, [], false, []⟩ := by kernel_rfl
theorem qh8 : (q0r (FT BigT) BigT lvE 2).2 = ⟨0, 100, [], false, []⟩ := by kernel_rfl
theorem qh7 : q1w lvF.st.K [] [] lvF.st.time = [([98], [49])] := by kernel_rfl
def skC : q08 := (q16 (FT BigT) lvB 1 [97]).1
def skD : q08 := (q0J skC 1 ⟨[98], false, [49]⟩).1
def skE : q08 := (q16 (FT BigT) skD 2 [98]).1
def skF : q08 := (q0J skE 2 ⟨[97], false, [49]⟩).1
def skG : q08 := (q0r (FT BigT) BigT skF 1).1
def skH : q08 := (q0r (FT BigT) BigT skG 2).1
theorem qh9 : (q16 (FT BigT) lvB 1 [97]).2 = ⟨0, 0, [], false, []⟩ := by kernel_rfl
theorem qha : (q0J skC 1 ⟨[98], false, [49]⟩).2 = ⟨0, 0, [], false, []⟩ := by kernel_rfl
theorem qhb : (q16 (FT BigT) skD 2 [98]).2 = ⟨0, 0, [], false, []⟩ := by kernel_rfl
theorem qhc : (q0J skE 2 ⟨[97], false, [49]⟩).2 = ⟨0, 0, [], false, []⟩ := by kernel_rfl
theorem qhd : (q0r (FT BigT) BigT skF 1).2 = ⟨1, 0, [], false, []⟩ := by kernel_rfl
theorem qhe : (q0r (FT BigT) BigT skG 2).2 = ⟨0, 101, [], false, []⟩ := by kernel_rfl
theorem q1J {n : Int} (h1 : 0 ≤ n) (h2 : n ≤ 1000) : I64 n := ⟨by omega, by omega⟩
theorem q49 : I64 BigT.s.keys ∧ I64 BigT.s.vers ∧ I64 BigT.s.byts ∧ BigT.s.last < 18446744073709551616 ∧ I64 BigT.marks ∧ I64 BigT.recs ∧ I64 BigT.live := by unfold I64 BigT; simp
theorem qaF {St : q2w} (K : TxnC St) {w : World} (W : World) (hb : Below w.heap.size w W) : Calls Tryz.prog 35 #[limT BigT] W fun r W' => ∃ p F, r = .returned (ptrS p) ∧ RunT St w W' p F BigT q2Z 0 :=
 (q6q K BigT w.heap.size W hb.size q49.1 q49.2.1 q49.2.2.1 q49.2.2.2.1 q49.2.2.2.2.1 q49.2.2.2.2.2.1 q49.2.2.2.2.2.2).mono fun r W' ⟨h1, h2⟩ => by
  rw [if_pos qeI] at h2
  obtain ⟨p, F, e, h3, h4⟩ := h2
  exact ⟨p, F, e, RunT.of K h3 (hb.trans (h1.mono hb.size))⟩
theorem qfu {St : q2w} (K : TxnC St) (w : World) : Calls Tryz.prog 52 #[] w fun r w' => r = .returned (.int .i64 101) ∧ Below w.heap.size w w' := by
 go_enter Tryz.func52, Tryz.ntmps52
 go_wp2_with fail
 refine (qaE w).mono ?_
 rintro r w1 ⟨rfl, hb1⟩
 have HM := qh (qaF K w1 hb1)
 clear hb1
 go_wp2_with fail
 refine HM.out.mono ?_
 rintro r w2 ⟨p, F0, rfl, hr⟩
 have R0 := qh hr
 clear hr HM
 unfold ptrS
 have HK := qh K
 clear K
 have hT := HK.out.begin_ w.heap.size p F0 BigT q2Z w2 R0.out.st (R0.out.few (by omega))
 rw [qgM] at hT
 have HT := qh hT
 clear hT
 unfold ptrS at HT
 go_wp2_with fail
 refine HT.out.mono ?_
 rintro r w3 ⟨rfl, F1, hQ⟩
 have R1 := qh (show RunT _ w w3 p F1 BigT lvA 1 from R0.out.begin_ HK.out hQ)
 clear HT hQ
 have hT := HK.out.begin_ w.heap.size p F1 BigT lvA w3 R1.out.st (R1.out.few (by omega))
 rw [qgN] at hT
 have HT := qh hT
 clear hT
 unfold ptrS at HT
 go_wp2_with fail
 refine HT.out.mono ?_
 rintro r w4 ⟨rfl, F2, hQ⟩
 have R2 := qh (show RunT _ w w4 p F2 BigT lvB 2 from R1.out.begin_ HK.out hQ)
 clear HT hQ
 have hT := HK.out.read w.heap.size p F2 BigT lvB 1 [97] w4 R2.out.st (R2.out.few (by omega)) (q1J (by omega) (by omega)) (by simp)
 rw [qh9] at hT
 have HT := qh hT
 clear hT
 unfold ptrS at HT
 go_wp2_with fail
 refine HT.out.mono ?_
 rintro r w5 ⟨AA, cc, F3, rfl, _, hQ⟩
 have R3 := qh (show RunT _ w w5 p F3 BigT skC 3 from R2.out.read HK.out (by simp) hQ)
 clear HT hQ
 have HT := qh (q5G [98] 49 w5)
 go_wp2_with fail
 refine HT.out.mono ?_
 rintro r w6 ⟨AA, cc, rfl, hs, hb⟩
 have HD := qh (R3.out.data HK.out hs)
 have R3 := qh (R3.out.next HK.out hb)
 clear HT hs hb
 have hT := HK.out.write w.heap.size p F3 BigT skC 1 ⟨[98], false, [49]⟩ AA cc w6 R3.out.st (R3.out.few (by omega)) (q1J (by omega) (by omega)) ⟨by simp, by simp⟩ HD.out
 rw [qha] at hT
 have HT := qh hT
 clear hT
 unfold ptrS at HT
 go_wp2_with fail
 refine HT.out.mono ?_
 rintro r w7 ⟨rfl, F4, hQ, hm, _⟩
 have R4 := qh (show RunT _ w w7 p F4 BigT skD 4 from R3.out.write HK.out ⟨by simp, by simp⟩ hQ hm)
 clear HT HD hQ hm
 have hT := HK.out.read w.heap.size p F4 BigT skD 2 [98] w7 R4.out.st (R4.out.few (by omega)) (q1J (by omega) (by omega)) (by simp)
 rw [qhb] at hT
 have HT := qh hT
 clear hT
 unfold ptrS at HT
 go_wp2_with fail
 refine HT.out.mono ?_
 rintro r w8 ⟨AA, cc, F5, rfl, _, hQ⟩
 have R5 := qh (show RunT _ w w8 p F5 BigT skE 5 from R4.out.read HK.out (by simp) hQ)
 clear HT hQ
 have HT := qh (q5G [97] 49 w8)
 go_wp2_with fail
 refine HT.out.mono ?_
 rintro r w9 ⟨AA, cc, rfl, hs, hb⟩
 have HD := qh (R5.out.data HK.out hs)
 have R5 := qh (R5.out.next HK.out hb)
 clear HT hs hb
 have hT := HK.out.write w.heap.size p F5 BigT skE 2 ⟨[97], false, [49]⟩ AA cc w9 R5.out.st (R5.out.few (by omega)) (q1J (by omega) (by omega)) ⟨by simp, by simp⟩ HD.out
 rw [qhc] at hT
 have HT := qh hT
 clear hT
 unfold ptrS at HT
 go_wp2_with fail
 refine HT.out.mono ?_
 rintro r w10 ⟨rfl, F6, hQ, hm, _⟩
 have R6 := qh (show RunT _ w w10 p F6 BigT skF 6 from R5.out.write HK.out ⟨by simp, by simp⟩ hQ hm)
 clear HT HD hQ hm
 have hT := HK.out.commit w.heap.size p F6 BigT skF 1 w10 R6.out.st (R6.out.few (by omega)) (q1J (by omega) (by omega))
 rw [qhd] at hT
 have HT := qh hT
 clear hT
 unfold ptrS at HT
 go_wp2_with fail
 refine HT.out.mono ?_
 rintro r w11 ⟨rfl, F7, hQ⟩
 have R7 := qh (show RunT _ w w11 p F7 BigT skG 7 from R6.out.commit HK.out hQ)
 clear HT hQ
 have hT := HK.out.commit w.heap.size p F7 BigT skG 2 w11 R7.out.st (R7.out.few (by omega)) (q1J (by omega) (by omega))
 rw [qhe] at hT
 have HT := qh hT
 clear hT
 unfold ptrS at HT
 go_wp2_with fail
 refine HT.out.mono ?_
 rintro r w12 ⟨rfl, F8, hQ⟩
 have R8 := qh (show RunT _ w w12 p F8 BigT skH 8 from R7.out.commit HK.out hQ)
 clear HT hQ
 go_wp2_with fail
 go_ret
 exact ⟨rfl, R8.out.bel⟩
theorem qdw {St : q2w} (K : TxnC St) (w : World) : Calls Tryz.prog 12 #[] w fun r w' => r = .returned (.bool true) ∧ Below w.heap.size w w' := by
 go_enter Tryz.func12, Tryz.ntmps12
 go_wp2_with fail
 refine (qaE w).mono ?_
 rintro r w1 ⟨rfl, hb1⟩
 have HM := qh (qaF K w1 hb1)
 clear hb1
 go_wp2_with fail
 refine HM.out.mono ?_
 rintro r w2 ⟨p, F0, rfl, hr⟩
 have R0 := qh hr
 clear hr HM
 unfold ptrS
 have HK := qh K
 clear K
 have hT := HK.out.begin_ w.heap.size p F0 BigT q2Z w2 R0.out.st (R0.out.few (by omega))
 rw [qgM] at hT
 have HT := qh hT
 clear hT
 unfold ptrS at HT
 go_wp2_with fail
 refine HT.out.mono ?_
 rintro r w3 ⟨rfl, F1, hQ⟩
 have R1 := qh (show RunT _ w w3 p F1 BigT lvA 1 from R0.out.begin_ HK.out hQ)
 clear HT hQ
 have hT := HK.out.begin_ w.heap.size p F1 BigT lvA w3 R1.out.st (R1.out.few (by omega))
 rw [qgN] at hT
 have HT := qh hT
 clear hT
 unfold ptrS at HT
 go_wp2_with fail
 refine HT.out.mono ?_
 rintro r w4 ⟨rfl, F2, hQ⟩
 have R2 := qh (show RunT _ w w4 p F2 BigT lvB 2 from R1.out.begin_ HK.out hQ)
 clear HT hQ
 have HT := qh (q5G [98] 49 w4)
 go_wp2_with fail
 refine HT.out.mono ?_
 rintro r w5 ⟨AA, cc, rfl, hs, hb⟩
 have HD := qh (R2.out.data HK.out hs)
 have R2 := qh (R2.out.next HK.out hb)
 clear HT hs hb
 have hT := HK.out.write w.heap.size p F2 BigT lvB 1 ⟨[98], false, [49]⟩ AA cc w5 R2.out.st (R2.out.few (by omega)) (q1J (by omega) (by omega)) ⟨by simp, by simp⟩ HD.out
 rw [qh4] at hT
 have HT := qh hT
 clear hT
 unfold ptrS at HT
 go_wp2_with fail
 refine HT.out.mono ?_
 rintro r w6 ⟨rfl, F3, hQ, hm, _⟩
 have R3 := qh (show RunT _ w w6 p F3 BigT lvC 3 from R2.out.write HK.out ⟨by simp, by simp⟩ hQ hm)
 clear HT HD hQ hm
 have HT := qh (q5G [98] 50 w6)
 go_wp2_with fail
 refine HT.out.mono ?_
 rintro r w7 ⟨AA, cc, rfl, hs, hb⟩
 have HD := qh (R3.out.data HK.out hs)
 have R3 := qh (R3.out.next HK.out hb)
 clear HT hs hb
 have hT := HK.out.write w.heap.size p F3 BigT lvC 2 ⟨[98], false, [50]⟩ AA cc w7 R3.out.st (R3.out.few (by omega)) (q1J (by omega) (by omega)) ⟨by simp, by simp⟩ HD.out
 rw [qh5] at hT
 have HT := qh hT
 clear hT
 unfold ptrS at HT
 go_wp2_with fail
 refine HT.out.mono ?_
 rintro r w8 ⟨rfl, F4, hQ, hm, _⟩
 have R4 := qh (show RunT _ w w8 p F4 BigT lvD 4 from R3.out.write HK.out ⟨by simp, by simp⟩ hQ hm)
 clear HT HD hQ hm
 have hT := HK.out.commit w.heap.size p F4 BigT lvD 1 w8 R4.out.st (R4.out.few (by omega)) (q1J (by omega) (by omega))
 rw [qh6] at hT
 have HT := qh hT
 clear hT
 unfold ptrS at HT
 go_wp2_with fail
 refine HT.out.mono ?_
 rintro r w9 ⟨rfl, F5, hQ⟩
 have R5 := qh (show RunT _ w w9 p F5 BigT lvE 5 from R4.out.commit HK.out hQ)
 clear HT hQ
 have hT := HK.out.commit w.heap.size p F5 BigT lvE 2 w9 R5.out.st (R5.out.few (by omega)) (q1J (by omega) (by omega))
 rw [qh8] at hT
 have HT := qh hT
 clear hT
 unfold ptrS at HT
 go_wp2_with fail
 refine HT.out.mono ?_
 rintro r w10 ⟨rfl, F6, hQ⟩
 have R6 := qh (show RunT _ w w10 p F6 BigT lvF 6 from R5.out.commit HK.out hQ)
 clear HT hQ
 have hT := HK.out.all w.heap.size p F6 BigT lvF w10 R6.out.st
 rw [qh7] at hT
 have HT := qh hT
 clear hT
 unfold ptrS at HT
 go_wp2_with fail
 refine HT.out.mono ?_
 rintro r w11 ⟨A9, c9, rfl, hs9, hb9⟩
 have HB9 := qh (R6.out.bel.trans (hb9.mono R6.out.bel.size))
 obtain ⟨hl9, hc9, hn9, ms, hms, hrow, hel⟩ := hs9
 have hml : ms.length = 1 := by
  have h := congrArg List.length hms
  rw [List.length_map] at h
  exact h
 obtain ⟨y, rfl⟩ := List.length_eq_one_iff.1 hml
 clear hml
 have hy : y.p = ([98], [49]) := by simpa using hms
 obtain ⟨bb, ob, rfl, _, hcell⟩ := hrow (by simp)
 have q0 := hcell 0 _ rfl
 have q1 := hcell 1 _ rfl
 simp only [Nat.add_zero] at q0
 obtain ⟨yk, yb, yA, yc⟩ := y
 obtain ⟨rfl, rfl⟩ : yk = [98] ∧ yb = [49] := by
  unfold MP.p at hy
  simp only at hy
  injection hy with h1 h2
  exact ⟨h1, h2⟩
 have hby := hel _ (List.mem_singleton.2 rfl)
 have hcv : (convert 35 9 (.slice yA 1 yc)).run Tryz.prog w11 = .ok (.string ⟨#[49]⟩) w11 := qcD (m := [49]) 35 9 5 Tryz.underlying35 Tryz.underlying5 Tryz.underlying9 rfl hby.2.2.2.rd
 have HSk := qh (qfu HK.out w11)
 clear hb9 hms hrow hel hcell hy hby HT
 go_wp2_with fail
 refine HSk.out.mono ?_
 rintro r w40 ⟨rfl, hb40⟩
 have HB40 := qh (HB9.out.trans (hb40.mono HB9.out.size))
 clear hb40
 go_wp2_with fail
 go_ret
 exact ⟨rfl, HB40.out⟩
section
variable {F : List Sp → List Sp} {M : Nat}
theorem qaW {l : List Ver} (h : l.Pairwise (fun a b => a.tm < b.tm)) (t : Nat) : t < q24 l ↔ (l.filter fun v => decide (t < v.tm)) ≠ [] := by
 constructor
 ·intro ht hn
  unfold q24 at ht
  split at ht
  ·rename_i v hv
   have hm := List.mem_of_getLast? hv
   have : v ∈ l.filter fun v => decide (t < v.tm) := List.mem_filter.2 ⟨hm, by simpa using ht⟩
   rw [hn] at this
   cases this
  ·omega
 ·intro hn
  rcases Nat.lt_or_ge t (q24 l) with h1 | h1
  ·exact h1
  ·exfalso
   apply hn
   rw [List.filter_eq_nil_iff]
   intro v hv
   have := qdt h (t := t + 1) (by omega) v hv
   simp only [decide_eq_true_eq]
   omega
theorem q8U {l : List Ver} (h : l.Pairwise (fun a b => a.tm < b.tm)) {low t : Nat} (ht : low ≤ t) : decide (t < q24 (q0m l low)) = decide (t < q24 l) := by
 rw [decide_eq_decide, qaW h, qaW (q9o h low), q9n ht]
end
section
variable {F : List Sp → List Sp} {M : Nat}
theorem qdx {b c : q08} (ht : b.st.time = c.st.time) (hl : b.live = c.live) : lowT b = lowT c := by unfold lowT; rw [ht, hl]
theorem qfZ (L : LimT) (s x : PS) (ht : s.time = x.time) (lv : List TxS) (rs : List RecS) (hi : List q47) (la ev : Nat) (t : TxS) :
  q27 F L ⟨x, lv, rs, hi, la, ev⟩ t = ⟨x, (q27 F L ⟨s, lv, rs, hi, la, ev⟩ t).live, (q27 F L ⟨s, lv, rs, hi, la, ev⟩ t).recs, hi, la, ev⟩ := by
 unfold q27 lowT
 simp only [ht]
structure q4T (low : Nat) (b c : q08) : Prop where
 like : q2U low b.st c.st
 began : ∀ t ∈ b.live, low ≤ t.began
 eq : c = ⟨c.st, b.live, b.recs, b.hist, b.last, b.event⟩
theorem q4T.low {low : Nat} {b c : q08} (h : q4T low b c) : low ≤ lowT b := by
 have key : ∀ (l : List TxS) (n : Nat), low ≤ n → (∀ t ∈ l, low ≤ t.began) → low ≤ l.foldl (fun l t => min l t.began) n := by
  intro l
  induction l with
  | nil => intro n hn _; exact hn
  | cons x l ih =>
   intro n hn hl
   rw [List.foldl_cons]
   exact ih _ (by have := hl x (List.mem_cons_self ..); omega) fun t ht => hl t (List.mem_cons_of_mem _ ht)
 exact key _ _ h.like.upto h.began
theorem qdu {low : Nat} {s x : PS} (h : q2U low s x) {t : Nat} (ht : low ≤ t) (k : KeyS) : decide (t < q24 (q03 s.K k)) = decide (t < q24 (q03 x.K k)) := by
 rw [← q8U (h.okS.rise k) ht, ← q8U (h.okX.rise k) ht, ← q0q h.okS.sort, ← q0q h.okX.sort, h.trim]
theorem q8X {low : Nat} {s x : PS} (h : q2U low s x) {t : TxS} (ht : low ≤ t.began) (w : Wr) : q1C s t w = q1C x t w := by
 unfold q1C
 rw [h.read ht]
theorem qbR {low : Nat} {s x : PS} (h : q2U low s x) {t : TxS} (ht : low ≤ t.began) : q4v s t = q4v x t := by
 unfold q4v
 congr 1
 funext w
 exact qdu h ht w.key
theorem q5s {low : Nat} {s x : PS} (h : q2U low s x) {t : TxS} (ht : low ≤ t.began) : q06 s t = q06 x t := by
 unfold q06
 congr 1
 funext w
 rw [q8X h ht]
theorem q7f {low : Nat} {s x : PS} (h : q2U low s x) {t : TxS} (ht : low ≤ t.began) : q1y F s t = q1y F x t := by
 unfold q1y
 congr 1
 funext m w
 rw [q8X h ht]
theorem qf9 {low : Nat} {s x : PS} (h : q2U low s x) {t : TxS} (ht : low ≤ t.began) : askT F s t = askT F x t := by
 unfold askT
 rw [q7f h ht, q5s h ht]
theorem q8W {low : Nat} {b c : q08} (h : q4T low b c) : q4T (lowT b) (q15 b).1 c := by
 have h1 := h.like.up h.low (q4C b)
 exact ⟨h1.collect, fun t ht => q6p ht, h.eq⟩
theorem qbS {L : LimT} {low : Nat} {b c : q08} (h : q4T low b c) (o : OpT) (ho : o.what ≠ 6) : (q1g F L b o).2 = (q1g F L c o).2 ∧ ∃ low', q4T low' (q1g F L b o).1 (q1g F L c o).1 := by
 obtain ⟨hl, hb, he⟩ := h
 have hlow := q4T.low ⟨hl, hb, he⟩
 obtain ⟨x, lv, rs, hi, la, ev⟩ := c
 obtain ⟨s, lv', rs', hi', la', ev'⟩ := b
 simp only [q08.mk.injEq, true_and] at he
 obtain ⟨rfl, rfl, rfl, rfl, rfl⟩ := he
 simp only at hl hb
 have hof : ∀ id, ofT ⟨x, lv, rs, hi, la, ev⟩ id = ofT ⟨s, lv, rs, hi, la, ev⟩ id := fun id => rfl
 have keep : q4T low ⟨s, lv, rs, hi, la, ev⟩ ⟨x, lv, rs, hi, la, ev⟩ := ⟨hl, hb, rfl⟩
 have mark : ∀ (t u : TxS), t ∈ lv → u.began = t.began → q4T low (setT ⟨s, lv, rs, hi, la, ev⟩ u) (setT ⟨x, lv, rs, hi, la, ev⟩ u) := fun t u ht e => ⟨hl, fun y hy => by
  rcases q3X hy with ⟨e2, _⟩ | ⟨hy, _⟩
  ·rw [e2, e]; exact hb t ht
  ·exact hb y hy, rfl⟩
 have ends : ∀ (low' : Nat) (s' x' : PS) (rs' : List RecS) (hi' : List q47) (ev' : Nat) (t : TxS), q2U low' s' x' → (∀ t ∈ lv, low' ≤ t.began) → q4T low' (q27 F L ⟨s', lv, rs', hi', la, ev'⟩ t) (q27 F L ⟨x', lv, rs', hi', la, ev'⟩ t) := fun low' s' x' rs' hi' ev' t h1 h2 =>
  ⟨h1, fun y hy => h2 y (List.mem_filter.1 hy).1, by rw [qfZ L s' x' h1.time]; rfl⟩
 unfold q1g
 split
 ·unfold q0N
  simp only
  split
  ·exact ⟨rfl, low, keep⟩
  ·refine ⟨rfl, low, hl, fun t ht => ?_, by rw [hl.time]⟩
   rcases List.mem_append.1 ht with ht | ht
   ·exact hb t ht
   ·rw [List.mem_singleton] at ht
    subst ht
    exact hl.upto
 ·split
  ·unfold q16
   rw [hof]
   cases ht : ofT ⟨s, lv, rs, hi, la, ev⟩ o.id with
   | none => exact ⟨rfl, low, keep⟩
   | some t =>
    obtain ⟨hm, _⟩ := q1z ht
    simp only
    split
    ·exact ⟨rfl, low, keep⟩
    ·exact ⟨by simp only; rw [hl.read (hb t hm)], low, mark t _ hm rfl⟩
  ·split
   ·unfold q1P
    rw [hof]
    cases ht : ofT ⟨s, lv, rs, hi, la, ev⟩ o.id with
    | none => exact ⟨rfl, low, keep⟩
    | some t =>
     obtain ⟨hm, _⟩ := q1z ht
     simp only
     split
     ·exact ⟨rfl, low, keep⟩
     ·exact ⟨by simp only; rw [hl.scan (hb t hm)], low, mark t _ hm rfl⟩
   ·split
    ·unfold q0J
     rw [hof]
     cases ht : ofT ⟨s, lv, rs, hi, la, ev⟩ o.id with
     | none => exact ⟨rfl, low, keep⟩
     | some t =>
      obtain ⟨hm, _⟩ := q1z ht
      simp only
      split
      ·exact ⟨rfl, low, keep⟩
      ·exact ⟨rfl, low, mark t _ hm rfl⟩
    ·split
     ·unfold q0r
      rw [hof]
      cases ht : ofT ⟨s, lv, rs, hi, la, ev⟩ o.id with
      | none => exact ⟨rfl, low, keep⟩
      | some t =>
       obtain ⟨hm, _⟩ := q1z ht
       have hlt : lowT (⟨x, lv, rs, hi, la, ev⟩ : q08) = lowT ⟨s, lv, rs, hi, la, ev⟩ := qdx hl.time.symm rfl
       have hlb : ∀ t ∈ lv, lowT (⟨s, lv, rs, hi, la, ev⟩ : q08) ≤ t.began := fun t ht => q6p (b := ⟨s, lv, rs, hi, la, ev⟩) ht
       have hup := hl.up hlow (q4C (⟨s, lv, rs, hi, la, ev⟩ : q08))
       simp only
       rw [← qbR hl (hb t hm), ← qf9 hl (hb t hm), ← q5s hl (hb t hm), ← q7f hl (hb t hm), hlt]
       obtain ⟨hc1, hc2⟩ := hup.commit (L := L.s) (q06 s t)
       generalize lowT (⟨s, lv, rs, hi, la, ev⟩ : q08) = lw at *
       generalize q09 L.s s (q06 s t) lw = cs at *
       generalize q09 L.s x (q06 s t) lw = cx at *
       split
       ·exact ⟨rfl, low, ends low s x rs hi ev t hl hb⟩
       ·split
        ·exact ⟨rfl, low, ends low s x rs hi ev t hl hb⟩
        ·rw [← hc1]
         split
         ·exact ⟨rfl, lw, ends lw cs.1 cx.1 rs hi ev t hc2 hlb⟩
         ·exact ⟨rfl, lw, ends lw cs.1 cx.1 _ _ _ t hc2 hlb⟩
     ·split
      ·unfold q1X
       rw [hof]
       cases ht : ofT ⟨s, lv, rs, hi, la, ev⟩ o.id with
       | none => exact ⟨rfl, low, keep⟩
       | some t => exact ⟨rfl, low, ends low s x rs hi ev t hl hb⟩
      ·exact ⟨rfl, low, keep⟩
end
section
variable {F : List Sp → List Sp} {M : Nat}
end
section
variable {F : List Sp → List Sp} {M : Nat}
end
open Go.RowKit
structure TxnO (St : q2w) : Prop where
 read : ∀ (o p : Nat) (F : Nat → Prop) (L : LimT) (b : q08) (id : Int) (key : KeyS) (w : World), St o w p F L b → q0L b → I64 id → key.length ≤ 300 →
  Calls Tryz.prog 38 #[ptrS p, .int .i64 id, .string (bs key)] w fun r w' => ∃ A c F', r = .returned (.tuple #[.slice A (q16 (FT L) b id key).2.b.length c, .bool (q16 (FT L) b id key).2.is, .int .i64 (q16 (FT L) b id key).2.e]) ∧
   ByS w' (fun k => w.heap.size ≤ k ∧ ¬ F' k) A c (q16 (FT L) b id key).2.b ∧ q2b St o w p F L (q16 (FT L) b id key).1 w' F'
 scan : ∀ (o p : Nat) (F : Nat → Prop) (L : LimT) (b : q08) (id : Int) (lo hi : KeyS) (w : World), St o w p F L b → q0L b → I64 id → lo.length ≤ 300 → hi.length ≤ 300 →
  Calls Tryz.prog 39 #[ptrS p, .int .i64 id, .string (bs lo), .string (bs hi)] w fun r w' => ∃ A c F', r = .returned (.tuple #[.slice A (q1P (FT L) b id lo hi).2.scan.length c, .int .i64 (q1P (FT L) b id lo hi).2.e]) ∧
   PaS w' (fun k => w.heap.size ≤ k ∧ ¬ F' k) A c (q1P (FT L) b id lo hi).2.scan ∧ q2b St o w p F L (q1P (FT L) b id lo hi).1 w' F'
 all : ∀ (o p : Nat) (F : Nat → Prop) (L : LimT) (b : q08) (w : World), St o w p F L b → Calls Tryz.prog 33 #[ptrS p] w fun r w' => ∃ A c, r = .returned (.slice A (q1w b.st.K [] [] b.st.time).length c) ∧ PaS w' (fun k => w.heap.size ≤ k) A c (q1w b.st.K [] [] b.st.time) ∧ Below w.heap.size w w'
theorem qbV {St : q2w} (K : TxnC St) (w : World) : ∀ W, Below w.heap.size w W → Calls Tryz.prog 12 #[] W fun r w' => r = .returned (.bool true) ∧ Below w.heap.size w w' := fun W hb =>
 (qdw K W).mono fun _ _ q => ⟨q.1, hb.trans (q.2.mono hb.size)⟩
theorem qd2 {w : World} {l : List OpT} {A : Option Addr} {c : Nat} (h : ChOT w w.heap.size A c l) : ∀ W, Below w.heap.size w W → Calls Tryz.prog 13 #[.slice A l.length c] W fun r w' => r = .returned (.bool (fewT l)) ∧ Below w.heap.size w w' := fun W hb =>
 (qeX l A c w.heap.size W (h.below hb (Nat.le_refl _) (Nat.le_refl _)) hb.size).mono fun _ _ q => ⟨q.1, hb.trans (q.2.mono hb.size)⟩
theorem qg4 {L : LimT} {b : q08} (hf : L.live ≤ (b.live.length : Int)) : q0N L b = (b, errT 5) := by
 unfold q0N
 rw [if_pos hf]
open Go.RowKit
theorem qfe (L : LimT) (w : World) : Calls Tryz.prog 15 #[limT L] w fun r w' => r = .returned (.bool (MayT L)) ∧ Below w.heap.size w w' := by
 obtain ⟨⟨keys, vers, byts, last⟩, marks, recs, live⟩ := L
 obtain ⟨w0, hw0⟩ : ∃ y, w.alloc (.cells #[.int .i64 keys, .int .i64 vers, .int .i64 byts, .int .i64 marks, .int .i64 recs, .int .i64 live, .int .u64 last] 24) = y := ⟨_, rfl⟩
 have b0 : Below w.heap.size w w0 := by rw [← hw0]; exact (Below.refl _ w).alloc (Nat.le_refl _) _
 have x0 : w0.heap[w.heap.size]? = some (.cells #[.int .i64 keys, .int .i64 vers, .int .i64 byts, .int .i64 marks, .int .i64 recs, .int .i64 live, .int .u64 last] 24 (0, 0)) := by rw [← hw0]; exact heap_alloc_new w _
 have HX := qh x0
 have HB0 := qh b0
 have HW0 := qh hw0
 have hm := qgd ⟨keys, vers, byts, last⟩ marks recs live w0
 have hMT : MayT ⟨⟨keys, vers, byts, last⟩, marks, recs, live⟩ = (MayS ⟨keys, vers, byts, last⟩ && decide (1 ≤ marks) && decide (marks ≤ 1048576) && decide (1 ≤ recs) && decide (recs ≤ 1048576) && decide (1 ≤ live) && decide (live ≤ 64)) := by
  unfold MayT
  simp only [Bool.and_assoc]
 rw [hMT]
 unfold limT
 unfold q3B at hm ⊢
 simp only at hm ⊢
 obtain ⟨z0, z1, z2, z3, z4, z5, z6⟩ := q4u HX.out
 have HC := qh (fun (W : World) (h : Below w0.heap.size w0 W) => q4u (q01 HX.out h (q00 HX.out)))
 generalize MayS ⟨keys, vers, byts, last⟩ = q0 at *
 have HM := qh hm
 clear hm hMT x0 b0 hw0
 cases q0
 ·go_enter Tryz.func15, Tryz.ntmps15
  go_upto_region 1 with fail
  rw [HW0.out]
  go_wp2_with fail
  refine HM.out.mono ?_
  rintro r w1 ⟨rfl, hb1⟩
  go_wp2_with fail
  go_ret
  exact ⟨rfl, HB0.out.trans (hb1.mono HB0.out.size)⟩
 ·by_cases h0 : 1 ≤ marks
  ·have d0 : decide (1 ≤ marks) = true := decide_eq_true h0
   rw [d0]
   by_cases h1 : marks ≤ 1048576
   ·have d1 : decide (marks ≤ 1048576) = true := decide_eq_true h1
    rw [d1]
    by_cases h2 : 1 ≤ recs
    ·have d2 : decide (1 ≤ recs) = true := decide_eq_true h2
     rw [d2]
     by_cases h3 : recs ≤ 1048576
     ·have d3 : decide (recs ≤ 1048576) = true := decide_eq_true h3
      rw [d3]
      by_cases h4 : 1 ≤ live
      ·have d4 : decide (1 ≤ live) = true := decide_eq_true h4
       rw [d4]
       by_cases h5 : live ≤ 64
       ·have d5 : decide (live ≤ 64) = true := decide_eq_true h5
        rw [d5]
        go_enter Tryz.func15, Tryz.ntmps15
        go_upto_region 1 with fail
        rw [HW0.out]
        go_wp2_with fail
        refine HM.out.mono ?_
        rintro r w1 ⟨rfl, hb1⟩
        obtain ⟨y0, y1, y2, y3, y4, y5, y6⟩ := HC.out _ hb1
        have HB1 := qh hb1
        clear hb1
        go_wp2_with fail
        go_ret
        exact ⟨rfl, HB0.out.trans (HB1.out.mono HB0.out.size)⟩
       ·have d5 : decide (live ≤ 64) = false := decide_eq_false h5
        rw [d5]
        simp only [Bool.and_false]
        go_enter Tryz.func15, Tryz.ntmps15
        go_upto_region 1 with fail
        rw [HW0.out]
        go_wp2_with fail
        refine HM.out.mono ?_
        rintro r w1 ⟨rfl, hb1⟩
        obtain ⟨y0, y1, y2, y3, y4, y5, y6⟩ := HC.out _ hb1
        have HB1 := qh hb1
        clear hb1
        go_wp2_with fail
        go_ret
        exact ⟨rfl, HB0.out.trans (HB1.out.mono HB0.out.size)⟩
      ·have d4 : decide (1 ≤ live) = false := decide_eq_false h4
       rw [d4]
       simp only [Bool.and_false, Bool.false_and]
       go_enter Tryz.func15, Tryz.ntmps15
       go_upto_region 1 with fail
       rw [HW0.out]
       go_wp2_with fail
       refine HM.out.mono ?_
       rintro r w1 ⟨rfl, hb1⟩
       obtain ⟨y0, y1, y2, y3, y4, y5, y6⟩ := HC.out _ hb1
       have HB1 := qh hb1
       clear hb1
       go_wp2_with fail
       go_ret
       exact ⟨rfl, HB0.out.trans (HB1.out.mono HB0.out.size)⟩
     ·have d3 : decide (recs ≤ 1048576) = false := decide_eq_false h3
      rw [d3]
      simp only [Bool.and_false, Bool.false_and]
      go_enter Tryz.func15, Tryz.ntmps15
      go_upto_region 1 with fail
      rw [HW0.out]
      go_wp2_with fail
      refine HM.out.mono ?_
      rintro r w1 ⟨rfl, hb1⟩
      obtain ⟨y0, y1, y2, y3, y4, y5, y6⟩ := HC.out _ hb1
      have HB1 := qh hb1
      clear hb1
      go_wp2_with fail
      go_ret
      exact ⟨rfl, HB0.out.trans (HB1.out.mono HB0.out.size)⟩
    ·have d2 : decide (1 ≤ recs) = false := decide_eq_false h2
     rw [d2]
     simp only [Bool.and_false, Bool.false_and]
     go_enter Tryz.func15, Tryz.ntmps15
     go_upto_region 1 with fail
     rw [HW0.out]
     go_wp2_with fail
     refine HM.out.mono ?_
     rintro r w1 ⟨rfl, hb1⟩
     obtain ⟨y0, y1, y2, y3, y4, y5, y6⟩ := HC.out _ hb1
     have HB1 := qh hb1
     clear hb1
     go_wp2_with fail
     go_ret
     exact ⟨rfl, HB0.out.trans (HB1.out.mono HB0.out.size)⟩
   ·have d1 : decide (marks ≤ 1048576) = false := decide_eq_false h1
    rw [d1]
    simp only [Bool.and_false, Bool.false_and]
    go_enter Tryz.func15, Tryz.ntmps15
    go_upto_region 1 with fail
    rw [HW0.out]
    go_wp2_with fail
    refine HM.out.mono ?_
    rintro r w1 ⟨rfl, hb1⟩
    obtain ⟨y0, y1, y2, y3, y4, y5, y6⟩ := HC.out _ hb1
    have HB1 := qh hb1
    clear hb1
    go_wp2_with fail
    go_ret
    exact ⟨rfl, HB0.out.trans (HB1.out.mono HB0.out.size)⟩
  ·have d0 : decide (1 ≤ marks) = false := decide_eq_false h0
   rw [d0]
   simp only [Bool.and_false, Bool.false_and]
   go_enter Tryz.func15, Tryz.ntmps15
   go_upto_region 1 with fail
   rw [HW0.out]
   go_wp2_with fail
   refine HM.out.mono ?_
   rintro r w1 ⟨rfl, hb1⟩
   obtain ⟨y0, y1, y2, y3, y4, y5, y6⟩ := HC.out _ hb1
   have HB1 := qh hb1
   clear hb1
   go_wp2_with fail
   go_ret
   exact ⟨rfl, HB0.out.trans (HB1.out.mono HB0.out.size)⟩
open Go
section
variable {P : Program} {md : Region.Mode} {Q : Exit → Act → World → Prop} {S S' : World → Prop} {l : List Oper}
theorem q9m {i fuel : Nat} {oi : Oper} {v : Value} {listed : Array Bool} {a : Act} {w : World} (hi : l[i]? = some oi)
  (hs : Region.noSelect l.toArray = true) (hf : Region.free md l.toArray listed i = true) (hr : (Region.ready md l.toArray listed).contains i = true)
  (hQ : ∀ c a w, Q (.panic c) (a.put oi.dst v) w → Q (.panic c) a w) (hw : Region.wanted oi (yielded l.toArray a.tmps) = true) (hy : ∀ w, S w → (execOp a.eval oi).run P w = .ok (.value v) w) (hS : S w)
  (h : wpAnyH P md l.toArray Q S fuel (listed.setIfInBounds i true) (a.put oi.dst v) w) : wpAnyH P md l.toArray Q S (fuel + 1) listed a w :=
 wpAnyH_take (by simpa using hi) hs hf hr hQ (Or.inl ⟨hw, hy⟩) hS h
theorem qeh {i fuel : Nat} {o : Oper} {listed : Array Bool} {a : Act} {w : World} (hr : Region.ready md l.toArray listed = [i]) (ho : l[i]? = some o)
  (h : ∀ K' : Act → World → Prop, Shut (∀ a w, S w → (S w → wpAnyH P md l.toArray Q S fuel (listed.setIfInBounds i true) a w) → K' a w) → if Region.wanted o (yielded l.toArray a.tmps) = true then Oper.wp P o a w K' Q else K' (a.put o.dst undef) w) :
  wpAnyH P md l.toArray Q S (fuel + 1) listed a w :=
 wpAnyH_ready hr (by simp) (AllReadyH.cons (by simpa using ho) h AllReadyH.nil)
end
section
variable {P : Program} {md : Region.Mode} {Q : Exit → Act → World → Prop} {S : World → Prop} {l : List Oper}
theorem q2g {i j fuel : Nat} {o o' : Oper} {listed : Array Bool} {a : Act} {w : World} (hr : Region.ready md l.toArray listed = [i, j]) (ho : l[i]? = some o) (ho' : l[j]? = some o')
  (h : ∀ K' : Act → World → Prop, Shut (∀ a w, S w → (S w → wpAnyH P md l.toArray Q S fuel (listed.setIfInBounds i true) a w) → K' a w) → if Region.wanted o (yielded l.toArray a.tmps) = true then Oper.wp P o a w K' Q else K' (a.put o.dst undef) w)
  (h' : ∀ K' : Act → World → Prop, Shut (∀ a w, S w → (S w → wpAnyH P md l.toArray Q S fuel (listed.setIfInBounds j true) a w) → K' a w) → if Region.wanted o' (yielded l.toArray a.tmps) = true then Oper.wp P o' a w K' Q else K' (a.put o'.dst undef) w) :
  wpAnyH P md l.toArray Q S (fuel + 1) listed a w :=
 wpAnyH_ready hr (by simp) (AllReadyH.cons (by simpa using ho) h (AllReadyH.cons (by simpa using ho') h' AllReadyH.nil))
end
section
variable {P : Program} {md : Region.Mode} {Q : Exit → Act → World → Prop} {S : World → Prop} {l : List Oper}
theorem tkH {i fuel : Nat} {oi : Oper} {v : Value} {listed : Array Bool} {a : Act} {w : World} (hy : ∀ w, S w → (execOp a.eval oi).run P w = .ok (.value v) w) (h : wpAnyH P md l.toArray Q S fuel (listed.setIfInBounds i true) (a.put oi.dst v) w)
  (hi : l[i]? = some oi := by rfl) (hs : Region.noSelect l.toArray = true := by kernel_rfl) (hf : Region.free md l.toArray listed i = true := by kernel_rfl) (hr : (Region.ready md l.toArray listed).contains i = true := by kernel_rfl)
  (hQ : ∀ c a w, Q (.panic c) (a.put oi.dst v) w → Q (.panic c) a w := by exact fun _ _ _ h => h) (hw : Region.wanted oi (yielded l.toArray a.tmps) = true := by rfl) (hS : S w := by assumption) : wpAnyH P md l.toArray Q S (fuel + 1) listed a w :=
 q9m hi hs hf hr hQ hw hy hS h
end
section
variable {P : Program} {md : Region.Mode} {Q : Exit → Act → World → Prop} {S : World → Prop} {l : List Oper}
theorem tkS {i fuel : Nat} {oi : Oper} {v : Value} {listed : Array Bool} {a : Act} {w : World} (h : wpAnyH P md l.toArray Q S fuel (listed.setIfInBounds i true) (a.put oi.dst v) w)
  (hi : l[i]? = some oi := by rfl) (hs : Region.noSelect l.toArray = true := by kernel_rfl) (hf : Region.free md l.toArray listed i = true := by kernel_rfl) (hr : (Region.ready md l.toArray listed).contains i = true := by kernel_rfl)
  (hQ : ∀ c a w, Q (.panic c) (a.put oi.dst v) w → Q (.panic c) a w := by exact fun _ _ _ h => h) (hw : Region.wanted oi (yielded l.toArray a.tmps) = true := by rfl) (hS : S w := by assumption)
  (hy : ∀ w, S w → (execOp a.eval oi).run P w = .ok (.value v) w := by intro w _; go_simp <;> with_reducible rfl) : wpAnyH P md l.toArray Q S (fuel + 1) listed a w :=
 q9m hi hs hf hr hQ hw hy hS h
theorem stH {i fuel : Nat} {o : Oper} {listed : Array Bool} {a : Act} {w : World}
  (h : ∀ K' : Act → World → Prop, Shut (∀ a w, S w → (S w → wpAnyH P md l.toArray Q S fuel (listed.setIfInBounds i true) a w) → K' a w) → if Region.wanted o (yielded l.toArray a.tmps) = true then Oper.wp P o a w K' Q else K' (a.put o.dst undef) w)
  (ho : l[i]? = some o := by rfl) (hr : Region.ready md l.toArray listed = [i] := by kernel_rfl) : wpAnyH P md l.toArray Q S (fuel + 1) listed a w := qeh hr ho h
end
theorem qA {α : Type} (xs : List α) (i : Nat) (a : α) : xs.toArray.setIfInBounds i a = (xs.set i a).toArray := by simp
theorem qB {α : Type} (x : α) (xs : List α) (a : α) : (x :: xs).set 0 a = a :: xs := rfl
theorem qC {α : Type} (x : α) (xs : List α) (n : Nat) (a : α) : (x :: xs).set (n + 1) a = x :: xs.set n a := rfl
open Go.RowKit
theorem qd9 {w : World} {h : Nat} {t : TypeId} {a0 a1 a2 a3 a4 : Value} (hb : w.heap[h]? = some (.cells #[a0, a1, a2, a3, a4] t (0, 0))) : w.cell? ⟨h, 0, none⟩ = some a0 ∧ w.cell? ⟨h, 1, none⟩ = some a1 ∧ w.cell? ⟨h, 2, none⟩ = some a2 ∧ w.cell? ⟨h, 3, none⟩ = some a3 ∧ w.cell? ⟨h, 4, none⟩ = some a4 :=
 ⟨cell_of_row w h 0 _ _ _ hb, cell_of_row w h 1 _ _ _ hb, cell_of_row w h 2 _ _ _ hb, cell_of_row w h 3 _ _ _ hb, cell_of_row w h 4 _ _ _ hb⟩
namespace txnNoEffect
end txnNoEffect
open Go.RowKit
theorem qe5 (s t : q2X) (A B A' B' : Option Addr) (c d c' d' lo1 hi1 lo2 hi2 : Nat) (w : World) (h1 : qcn w lo1 hi1 s A c B d) (h2 : qcn w lo2 hi2 t A' c' B' d') (hh1 : hi1 ≤ w.heap.size) (hh2 : hi2 ≤ w.heap.size) :
  Calls Tryz.prog 17 #[q1d s A c B d, q1d t A' c' B' d'] w fun r w' => r = .returned (.bool (qe8 s t)) ∧ Below w.heap.size w w' := by
 obtain ⟨n1, e1, b1, i1, p1⟩ := s
 obtain ⟨n2, e2, b2, i2, p2⟩ := t
 obtain ⟨hb1, hp1⟩ := h1
 obtain ⟨hb2, hp2⟩ := h2
 simp only at hb1 hp1 hb2 hp2
 have hba : Below w.heap.size w ((w.alloc (.cells #[.int .u64 n1, .int .i64 e1, .slice A b1.length c, .bool i1, .slice B p1.length d] 43)).alloc (.cells #[.int .u64 n2, .int .i64 e2, .slice A' b2.length c', .bool i2, .slice B' p2.length d'] 43)) :=
  ((Below.refl _ w).alloc (Nat.le_refl _) _).alloc (by simp) _
 have hl1 : p1.length ≤ 9223372036854775807 := by have := hp1.1; have := hp1.2.1; unfold maxLen at *; omega
 have hl2 : p2.length ≤ 9223372036854775807 := by have := hp2.1; have := hp2.2.1; unfold maxLen at *; omega
 have HE := qh (qfW b1 b2 A A' c c' _ (hb1.below hba hh1 (Nat.le_refl _)) (hb2.below hba hh2 (Nat.le_refl _)))
 have HP := qh (q4K p1 p2 B B' d d' lo1 hi1 lo2 hi2 _ hl1 hl2 (by obtain ⟨_, _, _, ms, e, g1, g2⟩ := hp1; exact ⟨ms, e, (g1.below hba hh1).wide (Nat.le_refl _) (Nat.le_refl _), fun x hx => (g2 x hx).below hba hh1 (Nat.le_refl _)⟩) (by obtain ⟨_, _, _, ms, e, g1, g2⟩ := hp2; exact ⟨ms, e, (g1.below hba hh2).wide (Nat.le_refl _) (Nat.le_refl _), fun x hx => (g2 x hx).below hba hh2 (Nat.le_refl _)⟩))
 have HB := qh hba
 have q1 := qgV n1 n2
 have q2 := qgF e1 e2
 have HF : Hid (qe8 ⟨n1, e1, b1, i1, p1⟩ ⟨n2, e2, b2, i2, p2⟩ = (decide (n1 = n2) && decide (e1 = e2) && (b1 == b2) && (i1 == i2) && q5a p1 p2)) := qh rfl
 clear hb1 hp1 hb2 hp2 hba
 rw [HF.out]
 clear HF
 unfold q1d
 simp only
 generalize decide (n1 = n2) = k1 at *
 generalize decide (e1 = e2) = k2 at *
 generalize (b1 == b2) = k3 at *
 have q4 : (i1 == i2) = (i1 == i2) := rfl
 generalize hk4 : (i1 == i2) = k4 at *
 generalize q5a p1 p2 = k5 at *
 cases k1
 ·go_enter Tryz.func17, Tryz.ntmps17
  go_wp2_with fail
  go_ret
  exact ⟨rfl, HB.out⟩
 ·cases k2
  ·go_enter Tryz.func17, Tryz.ntmps17
   go_wp2_with fail
   go_ret
   exact ⟨rfl, HB.out⟩
  ·go_enter Tryz.func17, Tryz.ntmps17
   go_wp2_with fail
   refine HE.out.mono ?_
   rintro r w2 ⟨rfl, rfl⟩
   cases k3
   ·go_wp2_with fail
    go_ret
    exact ⟨rfl, HB.out⟩
   ·cases k4
    ·go_wp2_with fail
     go_ret
     exact ⟨rfl, HB.out⟩
    ·go_wp2_with fail
     refine HP.out.mono ?_
     rintro r w3 ⟨rfl, hb3⟩
     have HB3 := qh (HB.out.trans (hb3.mono HB.out.size))
     clear hb3
     go_wp2_with fail
     go_ret
     exact ⟨by simp, HB3.out⟩
end Go.Proofs.YtdpbllacfljmoaaGreat
