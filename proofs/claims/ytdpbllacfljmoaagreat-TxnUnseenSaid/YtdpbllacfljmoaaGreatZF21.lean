import Derived.Test.YtdpbllacfljmoaaGreatZF20
import Derived.Test.YtdpbllacfljmoaaGreatZF19
import Derived.Test.YtdpbllacfljmoaaGreatZF18
import Derived.Test.YtdpbllacfljmoaaGreatZF15
set_option maxRecDepth 100000
set_option maxHeartbeats 16000000
set_option linter.unusedVariables false
namespace Go.Proofs.YtdpbllacfljmoaaGreat
open Go.RowKit
theorem qgu (w : World) : (zeroValue 9).run Tryz.prog w = .ok (.string ⟨#[]⟩) w := by kernel_rfl
theorem q6T (w : World) (ty : TypeId) (X : Option Addr) (c : Nat) : (Builtin.clear_ #[163] ty #[.slice X 0 c]).run Tryz.prog w = .ok (.tuple #[]) w := by
 cases X <;> simp [Builtin.clear_, run_underlying Tryz.underlying163, Result.andThen]
def q2P (K : KsS) (low j : Nat) : List KeyS := (q05 (K.take j) low).map Prod.fst
theorem q5D (K : KsS) (low j : Nat) : (q2P K low j).length ≤ j := by
 unfold q2P
 rw [List.length_map]
 have := q9E (K.take j) low
 rw [List.length_take] at this
 omega
def q2R (K : KsS) (low j : Nat) : List KeyS := q2P K low j ++ (K.map Prod.fst).drop (q2P K low j).length
theorem q1a {K : KsS} {low j : Nat} (hj : j ≤ K.length) : (q2R K low j).length = K.length := by
 have := q5D K low j
 unfold q2R
 rw [List.length_append, List.length_drop, List.length_map]
 omega
theorem qdp {K : KsS} {low j : Nat} (hj : j < K.length) : (q2R K low j)[j]? = some (K[j]'hj).1 := by
 have := q5D K low j
 unfold q2R
 rw [List.getElem?_append_right this, List.getElem?_drop, Nat.add_sub_cancel' this, List.getElem?_map, List.getElem?_eq_getElem hj]
 rfl
theorem q5m {w : World} {p : Nat} {F D : Nat → Prop} {B : Nat} {kv : Value} {cv : KeyS → Value} {L : LimS} {m r v : Int} (st : PS) (low : Nat)
  (h : RawS w p F D B kv cv L m r v st.time (q03 st.K) (st.K.map Prod.fst) (szS st.K)) (ho : OkS st) (hs : q5g st) (ha : AltS st.K) (hk : q7x st.K) :
  Calls Tryz.prog 89 #[ptrS p, .int .u64 low] w fun e w' => e = .returned (.int .i64 ((q1q st.K - q1q (q05 st.K low) : Nat) : Int)) ∧ qgz w p F B L m r v st.time (q05 st.K low) w' := by
 have c9 := h.keys_
 have c11 := h.sz1
 have HM := qh (q2k h)
 obtain ⟨A, c, hkv, f1, f2, f3, _⟩ := OwnG.form h.keys
 rw [List.length_map] at hkv f1
 subst hkv
 have HH := qh h
 have HO := qh ho
 have HS := qh hs
 have HA := qh ha
 have HK := qh hk
 have HF := qh (And.intro f1 (And.intro f2 f3))
 have hnl := hs.len
 have hvl := hs.vers
 have hve : (szS st.K).v = q1q st.K := rfl
 rw [hve] at c11
 have hc0 : (0 : Int) ≤ (0 : Int) := by omega
 have hcc : (0 : Int) ≤ (c : Int) := by omega
 clear h ho hs ha hk f1 f2 f3 hve
 unfold ptrS at HM ⊢
 go_enter Tryz.func89, Tryz.ntmps89
 go_wp2_with fail
 refine HM.out.mono ?_
 rintro e w9 ⟨rfl, hw9⟩
 rw [hw9]
 clear HM hw9 w9
 go_wp2_with fail
 go_loopg [6, 29] st.K.length (fun q u i wr => ∃ (j : Nat) (F' D' : Nat → Prop) (cv' : KeyS → Value), j + q = st.K.length ∧ i = .int .i64 j ∧ u = .slice A (q2P st.K low j).length c ∧ RawS wr p F' D' B (.slice A st.K.length c) cv' L m r v st.time (q03 (upT st.K low j)) (q2R st.K low j) (szS (upT st.K low j)) ∧ Mut F w wr ∧ ∀ b, F' b → F b ∨ w.heap.size ≤ b)
 case atStart =>
  refine ⟨0, F, D, cv, by omega, rfl, ?_, ?_, Mut.refl _ _, fun _ h => .inl h⟩
  ·unfold q2P; simp [q05]
  ·have e : q2R st.K low 0 = st.K.map Prod.fst := by unfold q2R q2P; simp [q05]
   rw [e, qbk]
   exact HH.out
 case round =>
  obtain ⟨j, F1, D1, cv1, hk, rfl, rfl, hraw, hmut, hF1⟩ := hrel
  have HKk := qh hk
  have HRaw := qh hraw
  have HMut := qh hmut
  have HF1 := qh hF1
  clear hk hraw hmut hF1
  by_cases hj : j < st.K.length
  ·have hlt : decide ((j : Int) < (st.K.length : Int)) = true := by simpa using hj
   have hlt2 : decide (j < st.K.length) = true := by simpa using hj
   have hkl := q5D st.K low j
   obtain ⟨g, cap, cur, hv1, hg1, hc1, hc2, hc3, hc4⟩ := q3G HRaw.out.keys (by rw [q1a (by omega)]; omega)
   rw [q1a (by omega)] at hv1 hc1 hc4
   injection hv1 with hA _ hcap
   subst hcap
   subst hA
   have hkey : wr.cell? ⟨g, j, none⟩ = some (.string (bs (st.K[j]'hj).1)) := by
    rw [cell_of_row wr g j _ _ _ hg1]
    have h1 : (cur.toList.take st.K.length)[j]? = some (keyV (st.K[j]'hj).1) := by rw [hc4, List.getElem?_map, qdp hj]; rfl
    rw [List.getElem?_take_of_lt hj, Array.getElem?_toList] at h1
    exact h1
   have hmem := List.getElem_mem hj
   have hch := qer (low := low) HO.out.sort hj
   have hch0 := q0K HO.out.sort hmem
   have hle := qgW (low := low) HO.out.full hj
   have hzz : (szS (upT st.K low j)).k ≤ 1099511627776 ∧ (szS (upT st.K low j)).v ≤ 1099511627776 ∧ (szS (upT st.K low j)).b ≤ 1099511627776 := by
    have hsm := q9q (low := low) HO.out.full j (by omega)
    have := HS.out.byts
    omega
   have HTrim : Hid (Calls Tryz.prog 142 #[ptrS p, .string (bs (st.K[j]'hj).1), .int .u64 low] wr fun e w' => e = .returned (.tuple #[]) ∧ qfQ wr p F1 B (.slice (some ⟨g, 0, none⟩) st.K.length c) L m r v st.time (q03 (upT st.K low (j + 1))) (q2R st.K low j) (szS (upT st.K low (j + 1))) w') := qh (by
    have hT := qbH HRaw.out (st.K[j]'hj).1 low (by rw [hch, ← hch0]; exact HS.out.ok _) (by rw [hch]; exact HO.out.right _ hmem) (by rw [hch, ← hch0]; exact HA.out _) (by rw [hch]; exact hle.1) (by rw [hch]; exact hle.2.1) (by rw [hch]; exact hle.2.2) hzz (by have := (HK.out _ hmem).2; omega)
    rw [hch, ← qbj HO.out.sort hj, ← qfJ HO.out.full hj] at hT
    exact hT)
   have HNew := qh (show q03 (upT st.K low (j + 1)) (st.K[j]'hj).1 = q0m (st.K[j]'hj).2 low by rw [qbj HO.out.sort hj, q2r])
   have HKeys := qh (show q2P st.K low (j + 1) = q2P st.K low j ++ (if (q0m (st.K[j]'hj).2 low).isEmpty = true then [] else [(st.K[j]'hj).1]) from qfA hj)
   clear hch hch0 hle hzz hmem
   generalize hT0 : q0m (st.K[j]'hj).2 low = T at *
   generalize hK0 : (st.K[j]'hj).1 = key at *
   clear hT0 hK0
   unfold ptrS at HTrim
   go_wp2_with fail
   refine HTrim.out.mono ?_
   rintro e w3 ⟨rfl, F3, D3, cv3, hraw3, hmut3, hF3⟩
   have c8 := hraw3.map_
   have hlk := hraw3.look2 key
   rw [HNew.out] at hlk
   have HRaw3 := qh hraw3
   have HMut3 := qh (HMut.out.trans hmut3 HF1.out)
   have HF3 := qh (show ∀ b, F3 b → F b ∨ w.heap.size ≤ b from fun b hb => by
    rcases hF3 b hb with h1 | h1
    ·exact HF1.out b h1
    ·exact .inr (Nat.le_trans HMut.out.size h1))
   clear hraw3 hmut3 hF3 HTrim
   cases hE : T.isEmpty
   ·rw [hE] at hlk HKeys
    have HKe := qh (show q2P st.K low (j + 1) = q2P st.K low j ++ [key] from HKeys.out.trans (by rw [if_neg (by simp)]))
    obtain ⟨g', cap', cur3, hv3, hg3, _, hm3, hs3, ht3⟩ := q3G HRaw3.out.keys (by rw [q1a (by omega)]; omega)
    rw [q1a (by omega)] at hv3 ht3
    injection hv3 with hA3 _ hcap3
    injection hA3 with hA3
    injection hA3 with hA3
    subst hcap3
    subst hA3
    obtain ⟨w4, hw4⟩ : ∃ y, w3.alloc (.cells #[.string (bs key)] 9) = y := ⟨_, rfl⟩
    have hglt := q00 hg3
    have hg4 : w4.heap[g]? = some (.cells cur3 9 (0, 0)) := by rw [← hw4]; exact q0G hg3 _
    have hn4 : w4.heap[w3.heap.size]? = some (.cells #[.string (bs key)] 9 (0, 0)) := by rw [← hw4]; exact heap_alloc_new w3 _
    have hs4 : w4.heap.size = w3.heap.size + 1 := by rw [← hw4]; simp
    have hk4 : ∀ b, b < w3.heap.size → w4.heap[b]? = w3.heap[b]? := fun b hb => by rw [← hw4]; exact ((Below.refl _ w3).alloc (Nat.le_refl _) _).block b hb
    obtain ⟨kl, hkl0⟩ : ∃ x, (q2P st.K low j).length = x := ⟨_, rfl⟩
    rw [hkl0] at hkl
    obtain ⟨ii, zz, hi0, _, _, hi2, _⟩ := qdo
    obtain ⟨arr, harr⟩ : ∃ y, (cur3.toList.take kl ++ [keyV key] ++ cur3.toList.drop (kl + 1)).toArray = y := ⟨_, rfl⟩
    have happ : ∀ ty, (Builtin.append_ #[163, 163] ty #[.slice (some ⟨g, 0, none⟩) kl c, .slice (some ⟨w3.heap.size, 0, none⟩) 1 1]).run Tryz.prog w4 = .ok (.slice (some ⟨g, 0, none⟩) (kl + 1) c) (w4.setRow g arr) := fun ty => by
     have h := run_append_room (P := Tryz.prog) w4 163 ty 9 ii Tryz.underlying163 hi0 g kl c cur3 hg4 ⟨w3.heap.size, 0, none⟩ 1 1 [keyV key] (by rw [hi2]; rfl) (fun i u hu => by
      cases i with
      | zero =>
       rw [q0Q, cell_of_row w4 _ _ _ _ _ hn4]
       simpa [keyV] using hu
      | succ i => simp at hu) (fun u hu => by rw [List.mem_singleton] at hu; subst hu; rfl) (by omega) (by rw [hi2, hs3]; simp; omega)
     rw [hi2, Nat.mul_one, List.length_singleton] at h
     rw [h, harr]
    have hrn := qfo (key := key) (q1a (K := st.K) (low := low) (j := j) (by omega)) (by rw [hkl0]; omega) ht3 (by rw [hs3]; omega)
    rw [hkl0] at hrn
    obtain ⟨w5, hw5⟩ : ∃ y, w4.setRow g arr = y := ⟨_, rfl⟩
    have hg5 : w5.heap[g]? = some (.cells arr 9 (0, 0)) := by rw [← hw5]; exact setRow_heap w4 g cur3 _ _ _ hg4
    have hs5 : w5.heap.size = w3.heap.size + 1 := by rw [← hw5]; simp [hs4]
    have hk5 : ∀ b, b < w3.heap.size → b ≠ g → w5.heap[b]? = w3.heap[b]? := fun b hb hne => by rw [← hw5, setRow_other _ _ _ _ hne]; exact hk4 b hb
    have harl : arr.size = c := by
     rw [← harr]
     simp only [List.size_toArray, List.length_append, List.length_take, List.length_drop, List.length_singleton, Array.length_toList, hs3]
     omega
    have hkp := HRaw3.out.kvp g rfl
    have hraw5 : RawS w5 p (fun b => F3 b ∨ (w3.heap.size ≤ b ∧ b < w5.heap.size)) D3 B (.slice (some ⟨g, 0, none⟩) st.K.length c) cv3 L m r v st.time (q03 (upT st.K low (j + 1))) (q2R st.K low (j + 1)) (szS (upT st.K low (j + 1))) := by
     refine HRaw3.out.keysNew HRaw3.out.lt ((hk5 p (HRaw3.out.lt p HRaw3.out.Fp) (Ne.symm hkp.1)).trans HRaw3.out.box) ?_ (by omega) (fun b hb => .inl hb) (fun b hb hne hne2 => hk5 b (HRaw3.out.lt b hb) (fun e => hne2 (by rw [e]; rfl)))
     refine qdS (cur := arr) (cap := c) (by rw [q1a (by omega)]) hg5 (by rw [q1a (by omega)]; omega) hm3 harl ?_
     rw [q1a (by omega)]
     unfold q2R
     rw [HKe.out, ← harr]
     exact hrn.1
    have hmut5 : Mut F w w5 := HMut3.out.trans (G := F3) ⟨by rw [← hw5, ← hw4]; rfl, by rw [← hw5, ← hw4]; rfl, by rw [← hw5, ← hw4]; rfl, by omega, fun b hb hf => hk5 b hb (fun e => hf (by rw [e]; exact HRaw3.out.Fk g rfl))⟩ HF3.out
    have HRaw5 := qh hraw5
    have HMut5 := qh hmut5
    have HF5 := qh (show ∀ b, (F3 b ∨ (w3.heap.size ≤ b ∧ b < w5.heap.size)) → F b ∨ w.heap.size ≤ b from fun b hb => by
     rcases hb with h1 | h1
     ·exact HF3.out b h1
     ·exact .inr (Nat.le_trans HMut3.out.size h1.1))
    have HW4 := qh hw4
    have HW5 := qh hw5
    have HApp := qh happ
    have HKl := qh (show (q2P st.K low (j + 1)).length = kl + 1 by rw [HKe.out, List.length_append, hkl0]; rfl)
    clear hg3 hm3 hs3 ht3 hglt hg4 hn4 hs4 hk4 hi0 hi2 harr happ hrn hw5 hg5 hs5 hk5 harl hkp hraw5 hmut5 hw4 hg1 hc1 hc2 hc3 hc4
    rw [hkl0]
    have happ := HApp.out
    rw [← HW4.out] at happ
    have HApp2 := qh happ
    clear happ
    go_wp2_with (at_builtin; refine q5y rfl _ _ 163 rfl _ _ _ rfl rfl (HApp2.out _) ?_)
    rw [HW4.out, HW5.out]
    go_roundg (gk - 1)
    case measure => have := HKk.out; omega
    case rel => exact ⟨j + 1, _, D3, cv3, by have := HKk.out; omega, by go_num, by rw [HKl.out], HRaw5.out, HMut5.out, HF5.out⟩
   ·rw [hE] at hlk HKeys
    have HKe := qh (show q2P st.K low (j + 1) = q2P st.K low j from HKeys.out.trans (by rw [if_pos rfl, List.append_nil]))
    go_wp2_with fail
    go_roundg (gk - 1)
    case measure => have := HKk.out; omega
    case rel => exact ⟨j + 1, F3, D3, cv3, by have := HKk.out; omega, by go_num, by rw [HKe.out], by have h := HRaw3.out; unfold q2R at h ⊢; rw [HKe.out]; exact h, HMut3.out, HF3.out⟩
  ·have hj' : j = st.K.length := by have := HKk.out; omega
   subst hj'
   have hlt : decide ((st.K.length : Int) < (st.K.length : Int)) = false := by simp
   have hlt2 : decide (st.K.length < st.K.length) = false := by simp
   have HUp : Hid (upT st.K low st.K.length = q05 st.K low) := qh qgr
   have HKs : Hid (q2P st.K low st.K.length = (q05 st.K low).map Prod.fst) := qh (by unfold q2P; rw [List.take_length])
   have hkl := q5D st.K low st.K.length
   have hraw := HRaw.out
   rw [HUp.out] at hraw
   have hvc := q9r HO.out low
   have hclr := q6T
   have d9 := hraw.keys_
   have d11 : wr.cell? ⟨p, 11, none⟩ = some (.int .i64 (q1q (q05 st.K low) : Int)) := hraw.sz1
   have g9 := hraw.frozen 9
   have hbox := hraw.box
   have hFp := hraw.Fp
   have hplt := q00 hbox
   have HRaw2 := qh hraw
   have HVC : Hid (∀ x : Nat, x = q1q st.K - q1q (q05 st.K low) → (x : Int) = ((q1q st.K - q1q (q05 st.K low) : Nat) : Int)) := qh fun x hx => by rw [hx]
   generalize hvcc : q1q (q05 st.K low) = vc at *
   obtain ⟨df, hdf⟩ : ∃ x, q1q st.K - vc = x := ⟨_, rfl⟩
   have qa : (q1q st.K : Int) - (vc : Int) = (df : Int) := by omega
   have hvcb : vc ≤ 1048576 := by omega
   have hdfb : df ≤ 1048576 := by omega
   have HVcc := qh hvcc
   have HDf := qh (show (df : Int) = ((q1q st.K - q1q (q05 st.K low) : Nat) : Int) by rw [hvcc, hdf])
   obtain ⟨kl, hkl0⟩ : ∃ x, (q2P st.K low st.K.length).length = x := ⟨_, rfl⟩
   rw [hkl0] at hkl ⊢
   clear hraw hvcc
   have fin : ∀ (w7 : World) (kv' : Value), (w7.heap[p]? = some (.cells (boxS L m r v st.time B kv' (szS (q05 st.K low))) 165 (0, 0))) → OwnG 9 1 q0w w7 0 kv' (q2P st.K low st.K.length) → wr.heap.size ≤ w7.heap.size →
     (∀ b, kv'.ownBlock = some b → (Value.slice A st.K.length c).ownBlock = some b) → (∀ b, F1 b → b ≠ p → (Value.slice A st.K.length c).ownBlock ≠ some b → w7.heap[b]? = wr.heap[b]?) → (w7.os = wr.os ∧ w7.tape = wr.tape ∧ w7.output = wr.output ∧ ∀ b, b < wr.heap.size → b ≠ p → (Value.slice A st.K.length c).ownBlock ≠ some b → w7.heap[b]? = wr.heap[b]?) →
     qgz w p F B L m r v st.time (q05 st.K low) w7 := fun w7 kv' h1 h2 h3 h4 h5 h6 => by
    have hr := HRaw2.out.keysNew HRaw2.out.lt h1 h2 h3 (fun b hb => .inl (h4 b hb)) h5
    rw [HKs.out] at hr
    refine ⟨_, D1, kv', cv1, hr, HMut.out.trans (G := F1) ⟨h6.1, h6.2.1, h6.2.2.1, h3, fun b hb hf => h6.2.2.2 b hb (fun e => hf (by rw [e]; exact HRaw2.out.Fp)) fun e => hf (HRaw2.out.Fk b e)⟩ HF1.out, fun b hb => ?_⟩
    rcases hb with h7 | h7
    ·exact HF1.out b h7
    ·exact .inr (Nat.le_trans HMut.out.size h7.1)
   have FIN := qh fin
   clear fin
   by_cases hkn : kl = st.K.length
   ·subst hkn
    have hlist : q2R st.K low st.K.length = q2P st.K low st.K.length := by
     unfold q2R
     rw [List.drop_of_length_le (by rw [List.length_map]; omega), List.append_nil]
    have HFin := qh (FIN.out (wr.setCell ⟨p, 9, none⟩ (.slice A st.K.length c)) (.slice A st.K.length c) (q2f hbox 9 _) (by
      have h := HRaw2.out.keys
      rw [hlist] at h
      exact OwnG.keep h (fun b hb _ => q0b (HRaw2.out.kvp b hb).1 _ _) (Nat.le_refl _)) (by simp [World.setCell]) (fun b hb => hb) (fun b hb hne _ => q0b hne _ _) ⟨rfl, rfl, rfl, fun b _ hne _ => q0b hne _ _⟩)
    have k1 : (0 : Int) ≤ (st.K.length : Int) := by omega
    have k3 : (st.K.length : Int) ≤ (c : Int) := by have := HF.out.1; omega
    have hself : st.K.length - st.K.length = 0 := Nat.sub_self _
    clear FIN hlist hkl0 hbox
    by_cases hcn : c = st.K.length
    ·subst hcn
     go_wp2
     go_ret
     exact ⟨congrArg (fun i => Ending.returned (.int .i64 i)) HDf.out, HFin.out⟩
    ·go_wp2
     go_ret
     exact ⟨congrArg (fun i => Ending.returned (.int .i64 i)) HDf.out, HFin.out⟩
   ·have hkn2 : kl < st.K.length := by omega
    obtain ⟨g, cap, cur, hv1, hg1, hc1, hc2, hc3, hc4⟩ := q3G HRaw2.out.keys (by rw [q1a (Nat.le_refl _)]; omega)
    rw [q1a (Nat.le_refl _)] at hv1 hc1 hc4
    injection hv1 with hA _ hcap
    subst hcap
    subst hA
    have hkp := HRaw2.out.kvp g rfl
    have hclr2 : ∀ ty, (Builtin.clear_ #[163] ty #[.slice (some ⟨g, kl, none⟩) (st.K.length - kl) (c - kl)]).run Tryz.prog wr = .ok (.tuple #[]) (wr.setCells g kl (List.replicate (st.K.length - kl) (.string ⟨#[]⟩))) := fun ty =>
     Lib.run_clear_slice wr 163 9 ty (.string ⟨#[]⟩) Tryz.underlying163 qgu rfl rfl g kl (st.K.length - kl) (c - kl) (by omega)
      (fun i hi => by rw [cell_of_row wr g _ _ _ _ hg1, Array.getElem?_eq_getElem (by omega)]; rfl) (fun i hi => q02 hg1 _)
    obtain ⟨cur', m1', m2, m3', m4, m5, m6, m7, m8⟩ := q5u g 9 (List.replicate (st.K.length - kl) (.string ⟨#[]⟩)) kl wr cur hg1
    obtain ⟨w6, hw6⟩ : ∃ y, wr.setCells g kl (List.replicate (st.K.length - kl) (.string ⟨#[]⟩)) = y := ⟨_, rfl⟩
    rw [hw6] at hclr2 m1' m4 m5 m6 m7 m8
    have hbox6 : w6.heap[p]? = some (.cells (boxS L m r v st.time B (.slice (some ⟨g, 0, none⟩) st.K.length c) (szS (q05 st.K low))) 165 (0, 0)) := (m4 p (Ne.symm hkp.1)).trans hbox
    have e9 := cell_of_row w6 p 9 _ _ _ hbox6
    have e11 : w6.cell? ⟨p, 11, none⟩ = some (.int .i64 (vc : Int)) := by rw [cell_of_row w6 p 11 _ _ _ hbox6, ← HVcc.out]; rfl
    have f9 := q02 hbox6 9
    have htk : cur'.toList.take kl = (q2P st.K low st.K.length).map keyV := by
     have h1 : cur.toList.take kl = (q2P st.K low st.K.length).map keyV := by
      have h2 := congrArg (List.take kl) hc4
      rw [List.take_take, Nat.min_eq_left hkl] at h2
      rw [h2]
      unfold q2R
      rw [List.map_append, List.take_append_of_le_length (by rw [List.length_map]; omega), List.take_of_length_le (by rw [List.length_map]; omega)]
     rw [← h1]
     apply List.ext_getElem?
     intro i
     rw [List.getElem?_take, List.getElem?_take]
     split
     ·next hi => rw [Array.getElem?_toList, Array.getElem?_toList, m3' i hi]
     ·rfl
    have HFin := qh (FIN.out (w6.setCell ⟨p, 9, none⟩ (.slice (some ⟨g, 0, none⟩) kl c)) (.slice (some ⟨g, 0, none⟩) kl c) (q2f hbox6 9 _)
     (qdS (cur := cur') (cap := c) (by rw [hkl0]) ((q0b hkp.1 _ _).trans m1') (by omega) hc2 (by omega) (by rw [hkl0]; exact htk)) (by simp [World.setCell, m5]) (fun b hb => hb)
     (fun b hb hne hne2 => (q0b hne _ _).trans (m4 b (fun e => hne2 (by rw [e]; rfl)))) ⟨m6, m7, m8, fun b _ hne hne2 => (q0b hne _ _).trans (m4 b (fun e => hne2 (by rw [e]; rfl)))⟩)
    have k1 : (0 : Int) ≤ (kl : Int) := by omega
    have k2 : (kl : Int) ≤ (st.K.length : Int) := by omega
    have k3 : (st.K.length : Int) ≤ (c : Int) := by omega
    have k4 : ¬ c = kl := by omega
    have HW6 := qh hw6
    have HClr := qh hclr2
    clear FIN hkl0 hbox hg1 hc4 m1' m2 m3' m4 m5 m6 m7 m8 hw6 hbox6 htk hclr hclr2
    have hclr2 := HClr.out
    go_wp2
    go_ret
    exact ⟨congrArg (fun i => Ending.returned (.int .i64 i)) HDf.out, HFin.out⟩
open Go.RowKit
def q7M (st : PS) (w : Wr) : Bool := q1x st w && (q03 st.K w.key).isEmpty
def q0U (st : PS) (l : List Wr) (j : Nat) : List KeyS := ((l.take j).filter (q7M st)).map Wr.key
section
variable {st : PS} {l : List Wr} {j : Nat}
theorem q8L (hj : j < l.length) (h : q7M st (l[j]'hj) = true) : q0U st l (j + 1) = q0U st l j ++ [(l[j]'hj).key] := by
 unfold q0U
 rw [List.take_succ_eq_append_getElem hj, List.filter_append, List.filter_cons, if_pos h, List.map_append]
 rfl
theorem q7I (hj : j < l.length) (h : q7M st (l[j]'hj) = false) : q0U st l (j + 1) = q0U st l j := by
 unfold q0U
 rw [List.take_succ_eq_append_getElem hj, List.filter_append, List.filter_cons, if_neg (by rw [h]; simp)]
 simp
theorem q8K (st : PS) (l : List Wr) (j : Nat) : (q0U st l j).length ≤ j := by
 unfold q0U
 rw [List.length_map]
 have := List.length_filter_le (q7M st) (l.take j)
 rw [List.length_take] at this
 omega
theorem qbK (hc : q0h [] l = 0) (j : Nat) : q2s (q0U st l j) := by
 have h := (q0M hc).2
 unfold q0U q2s
 rw [List.pairwise_map]
 exact List.Pairwise.filter _ (List.Pairwise.sublist (List.take_sublist _ _) h)
theorem qa6 (h : OkS st) : ∀ x ∈ st.K.map Prod.fst, ∀ y ∈ q0U st l j, x ≠ y := fun x hx y hy e => by
 subst e
 unfold q0U at hy
 obtain ⟨w, hw, e⟩ := List.mem_map.1 hy
 obtain ⟨u, hu, rfl⟩ := List.mem_map.1 hx
 have h1 := (List.mem_filter.1 hw).2
 unfold q7M at h1
 rw [Bool.and_eq_true] at h1
 have h2 : q03 st.K w.key = [] := by simpa using h1.2
 rw [e, q0K h.sort hu] at h2
 exact h.full u hu h2
theorem qfl {K : KsS} {k : KeyS} {c : List Ver} (hc : c ≠ []) (x : KeyS) : x ∈ (putS K k c).map Prod.fst ↔ x ∈ K.map Prod.fst ∨ x = k := by
 rw [List.mem_map, List.mem_map]
 constructor
 ·rintro ⟨y, hy, rfl⟩
  rcases q1R.1 hy with ⟨h1, _⟩ | ⟨rfl, _⟩ | ⟨h1, _⟩
  ·exact .inl ⟨y, h1, rfl⟩
  ·exact .inr rfl
  ·exact .inl ⟨y, h1, rfl⟩
 ·rintro (⟨y, hy, rfl⟩ | rfl)
  ·rcases q2c y.1 k with g | g | g
   ·exact ⟨y, q1R.2 (.inl ⟨hy, g⟩), rfl⟩
   ·exact ⟨(k, c), q1R.2 (.inr (.inl ⟨rfl, hc⟩)), g.symm⟩
   ·exact ⟨y, q1R.2 (.inr (.inr ⟨hy, g⟩)), rfl⟩
  ·exact ⟨(x, c), q1R.2 (.inr (.inl ⟨rfl, hc⟩)), rfl⟩
theorem qes (h : OkS st) (hc : q0h [] l = 0) : ∀ (j : Nat), j ≤ l.length → ∀ x, x ∈ (upG st l j).map Prod.fst ↔ x ∈ st.K.map Prod.fst ∨ x ∈ q0U st l j
 | 0, _, x => by simp [upG, q0U]
 | j + 1, hj, x => by
  have ih := qes h hc j (by omega) x
  have hjl : j < l.length := by omega
  cases hcm : q1x st (l[j]'hjl)
  ·rw [qbf hjl hcm, q7I hjl (by unfold q7M; rw [hcm]; rfl)]
   exact ih
  ·rw [q86 h hc hjl hcm, qfl (by simp), ih]
   cases he : (q03 st.K (l[j]'hjl).key).isEmpty
   ·rw [q7I hjl (by unfold q7M; rw [he, Bool.and_false])]
    constructor
    ·rintro (h1 | rfl)
     ·exact h1
     ·exact .inl (List.mem_map.2 ⟨_, q14 (by simpa using he), rfl⟩)
    ·exact fun h1 => .inl h1
   ·rw [q8L hjl (by unfold q7M; rw [he, hcm]; rfl), List.mem_append, List.mem_singleton, or_assoc]
theorem qeu (h : OkS st) (hc : q0h [] l = 0) {out : List KeyS} (hr : q2s out) (hm : ∀ x, x ∈ out ↔ x ∈ st.K.map Prod.fst ∨ x ∈ q0U st l l.length) : out = (q0n st l).map Prod.fst := by
 refine q5I id hr ?_ fun x => ?_
 ·have := (q5f h hc).1
  unfold q0F at this
  rw [List.pairwise_map]
  exact this
 ·rw [hm, ← qay]
  exact (qes h hc l.length (Nat.le_refl _) x).symm
theorem q4N {K : KsS} (h : q0F K) : q2s (K.map Prod.fst) := by
 unfold q2s
 rw [List.pairwise_map]
 exact h
theorem qfB (h : OkS st) (hc : q0h [] l = 0) (hj : j < l.length) (hcm : q1x st (l[j]'hj) = true) : q03 (upG st l (j + 1)) = updG (q03 (upG st l j)) (l[j]'hj).key (q03 st.K (l[j]'hj).key ++ [verW st (l[j]'hj)]) := funext fun k => by
 obtain ⟨k1, k2, _⟩ := qbg h hc j
 rw [q86 h hc hj hcm, q3w k1 k2]
 rfl
end
open Go.RowKit
def q0E (T : Int) (gone : Bool) (A : Option Addr) (n c : Nat) : Array Value := #[.int .u64 T, .bool gone, .slice A n c]
theorem RawS.own_val {w : World} {p : Nat} {F D : Nat → Prop} {B : Nat} {kv : Value} {cv : KeyS → Value} {L : LimS} {m r v : Int} {now : Nat} {g : KeyS → List Ver} {ks : List KeyS} {z : Sz} (h : RawS w p F D B kv cv L m r v now g ks z) (k : KeyS) :
  ∃ ms : List MV, ms.map MV.v = g k ∧ OwnG 182 3 q1D w 0 (valS g cv k) ms ∧ (∀ x ∈ ms, OkD w D x) ∧ ∀ b, (valS g cv k).ownBlock = some b → g k ≠ [] ∧ (cv k).ownBlock = some b := by
 unfold valS
 cases hg : g k with
 | nil => exact ⟨[], rfl, OwnG.none_ _ _ _ _ _, by simp, fun b hb => by simp [Value.ownBlock] at hb⟩
 | cons x l =>
  obtain ⟨ms, h1, h2, h3⟩ := h.chain k (by rw [hg]; simp)
  exact ⟨ms, by rw [h1, hg], h2, h3, fun b hb => ⟨by simp, hb⟩⟩
theorem q5E {W : World} {p : Nat} {F D : Nat → Prop} {B : Nat} {kv : Value} {cv : KeyS → Value} {L : LimS} {m r v : Int} {now : Nat} {g : KeyS → List Ver} {ks : List KeyS} {z : Sz} (h : RawS W p F D B kv cv L m r v now g ks z)
  (n4 : Nat) (hn4 : ∀ b, F b → b < n4) (hle : n4 ≤ W.heap.size) (vb : Nat) (T : Nat) (gone : Bool) (dat : List UInt8) (A : Option Addr) (c : Nat) (hT : T < 18446744073709551616) (hd : SlD W (fun b => n4 ≤ b ∧ b < W.heap.size ∧ b ≠ vb) A c dat) (k : KeyS) (hlen : (g k).length ≤ 4294967296) :
  ∃ v9 w9 w10, (∀ ty, (Builtin.append_ #[123, 123] ty #[valS g cv k, .slice (some ⟨W.heap.size, 0, none⟩) 1 1]).run Tryz.prog (W.drew.alloc (.cells (q0E (T : Int) gone A dat.length c) 182)) = .ok v9 w9) ∧
   (Instr.mapUpdate 162 (.map (some B)) (.string (bs k)) v9).run Tryz.prog w9 = .ok () w10 ∧
   (∀ b, b < W.heap.size → ¬ F b → w9.heap[b]? = W.heap[b]? ∧ w10.heap[b]? = W.heap[b]?) ∧ (w9.heap[p]? = W.heap[p]? ∧ w10.heap[p]? = W.heap[p]?) ∧ W.heap.size ≤ w10.heap.size ∧ (w10.os = W.os ∧ w10.tape = W.tape ∧ w10.output = W.output) ∧
   RawS w10 p (fun b => F b ∨ (n4 ≤ b ∧ b < w10.heap.size)) (fun b => D b ∨ (n4 ≤ b ∧ b < W.heap.size ∧ b ≠ vb)) B kv (updC cv k v9) L m r v now (updG g k (g k ++ [⟨T, gone, dat⟩])) ks z := by
 obtain ⟨ms, hms, hown, hokd, hblk⟩ := h.own_val k
 obtain ⟨Wa, hWa⟩ : ∃ y, W.drew.alloc (.cells (q0E (T : Int) gone A dat.length c) 182) = y := ⟨_, rfl⟩
 have hba : Below W.heap.size W Wa := by rw [← hWa]; exact (Below.refl _ W).drew.alloc (Nat.le_refl _) _
 have hsa : Wa.heap.size = W.heap.size + 1 := by rw [← hWa]; show (W.drew.alloc _).heap.size = _; simp
 have hna : Wa.heap[W.heap.size]? = some (.cells (q1D ⟨⟨T, gone, dat⟩, A, c⟩).toArray 182 (0, 0)) := by rw [← hWa]; exact heap_alloc_new W.drew _
 have hmsl : ms.length = (g k).length := by rw [← hms, List.length_map]
 obtain ⟨i, zz, hi0, hz0, hz1, hz2, hz3⟩ := q91
 have happ : ∃ v9 w9, (∀ ty, (Builtin.append_ #[123, 123] ty #[valS g cv k, .slice (some ⟨W.heap.size, 0, none⟩) 1 1]).run Tryz.prog Wa = .ok v9 w9) ∧ OwnG 182 3 q1D w9 0 v9 (ms ++ [⟨⟨T, gone, dat⟩, A, c⟩]) ∧ Wa.grownBy w9 (valS g cv k).ownBlock ∧ (v9.ownBlock = (valS g cv k).ownBlock ∨ v9.ownBlock = some Wa.heap.size) := by
  obtain ⟨v9, w9, e1, e2, e3, e4⟩ := q7X (P := Tryz.prog) Wa 123 0 182 40 mvF q91 Tryz.underlying123 0 (valS g cv k) ms (OwnG.below hown hba) W.heap.size (W.heap.size + 1) ⟨W.heap.size, 0, none⟩ 1 [⟨⟨T, gone, dat⟩, A, c⟩] (RowG.one hna) (by rw [hmsl]; simp only [List.length_singleton]; unfold maxLen; omega) (by rw [hmsl]; simp only [List.length_singleton]; omega) (Nat.zero_le _)
  exact ⟨v9, w9, fun _ => e1, e2, e3, e4⟩
 obtain ⟨v9, w9, happ, hown9, hgr9, hat9⟩ := happ
 have hBne : ∀ b, (valS g cv k).ownBlock = some b → b ≠ B ∧ b ≠ p ∧ ¬ D b ∧ F b := fun b hb => by
  obtain ⟨h1, h2⟩ := hblk b hb
  obtain ⟨k1, k2, k3, _⟩ := h.cvp k h1 b h2
  exact ⟨k2, k1, k3, h.Fc k h1 b h2⟩
 have h9 : ∀ b, b < W.heap.size → (valS g cv k).ownBlock ≠ some b → w9.heap[b]? = W.heap[b]? := fun b hb hne => (hgr9.block b (by omega) (fun e => hne e.symm)).trans (hba.block b hb)
 have hm9 : MapS w9 B (mapG g cv) := h.map.keep (h9 B (h.lt B h.FB) (fun e => (hBne B e).1 rfl))
 obtain ⟨w10, hupd, hmp, hgr10, hs10⟩ := MapS.store (P := Tryz.prog) hm9 Tryz.underlying162 Tryz.underlying9 k v9
 unfold keyV at hupd
 have hs9 := hgr9.size
 have h10 : ∀ b, b < W.heap.size → b ≠ B → (valS g cv k).ownBlock ≠ some b → w10.heap[b]? = W.heap[b]? := fun b hb hB hne => (hgr10.block b (by omega) (fun e => hB (by injection e))).trans (h9 b hb hne)
 have hap : g k ++ [(⟨T, gone, dat⟩ : Ver)] ≠ [] := by simp
 refine ⟨v9, w9, w10, fun ty => by rw [hWa]; exact happ ty, hupd, fun b hb hf => ⟨h9 b hb (fun e => hf (hBne b e).2.2.2), h10 b hb (fun e => hf (e ▸ h.FB)) (fun e => hf (hBne b e).2.2.2)⟩, ⟨h9 p (h.lt p h.Fp) (fun e => (hBne p e).2.1 rfl), h10 p (h.lt p h.Fp) h.pB (fun e => (hBne p e).2.1 rfl)⟩, by omega,
  ⟨by rw [hgr10.os, hgr9.os, hba.os], by rw [hgr10.tape, hgr9.tape, hba.tape], by rw [hgr10.output, hgr9.output, hba.output]⟩, ?_⟩
 have hown10 : OwnG 182 3 q1D w10 0 v9 (ms ++ [⟨⟨T, gone, dat⟩, A, c⟩]) := OwnG.keep hown9 (fun b hb hlt => hgr10.block b hlt (fun e => by
  injection e with e
  subst e
  rcases hat9 with h1 | h1
  ·exact (hBne b (h1 ▸ hb)).1 rfl
  ·rw [h1] at hb
   injection hb with hb
   have := h.lt b h.FB
   omega)) (Nat.le_refl _)
 refine h.putC (N := fun b => n4 ≤ b ∧ b < w10.heap.size) (fun b hb => ⟨fun hf => by have := hn4 b hf; omega, hb.2⟩) hap (by rw [q7R hap]; exact hmp) ⟨ms ++ [⟨⟨T, gone, dat⟩, A, c⟩], by rw [List.map_append, hms]; rfl, hown10, fun x hx => ?_⟩ (by omega) (fun b hb => .inl hb) (fun b hb => ?_) (fun b hb => ?_) (fun b hb hne hne2 => h10 b (h.lt b hb) hne (fun e => (hne2 (hblk b e).1) (hblk b e).2))
 ·rcases List.mem_append.1 hx with hx | hx
  ·exact (hokd x hx).keep (fun b hb => h10 b (h.lt b (h.FD b hb)) (fun e => h.DB (e ▸ hb)) (fun e => (hBne b e).2.2.1 hb)) (fun b hb => .inl hb)
  ·rw [List.mem_singleton] at hx
   subst hx
   have h2 := hd.step (w' := w10) (D' := fun b => D b ∨ (n4 ≤ b ∧ b < W.heap.size ∧ b ≠ vb)) fun b hb => ⟨h10 b hb.2.1 (fun e => by have := hn4 B h.FB; omega) (fun e => by have := hn4 b (hBne b e).2.2.2; omega), .inr hb⟩
   exact ⟨hT, h2⟩
 ·rcases hb with h1 | h1
  ·exact .inl h1
  ·exact .inr ⟨h1.1, by omega⟩
 ·rcases hat9 with h1 | h1
  ·rw [h1] at hb
   obtain ⟨_, _, k3, k4⟩ := hBne b hb
   refine ⟨.inr (hblk b hb), fun hd => ?_⟩
   rcases hd with h2 | h2
   ·exact k3 h2
   ·have := hn4 b k4
    omega
  ·rw [h1] at hb
   injection hb with hb
   refine ⟨.inl ⟨by omega, ?_⟩, fun hd => ?_⟩
   ·have := (OwnG.lt hown10 b (by rw [h1, hb])).2
    exact this
   ·rcases hd with h2 | h2
    ·have := h.lt b (h.FD b h2)
     omega
    ·omega
theorem midA {w4 w6 : World} {A9 : Option Addr} {c9 : Nat} {dat : List UInt8} (T : Int) (gone : Bool) (hx : w6.heap[w4.heap.size]? = some (.cells #[.int .u64 0, .bool false, .slice none 0 0] 182 (0, 0))) (hb : Below w4.heap.size w4 w6) (hs : SlI w6 (w4.heap.size + 1) w6.heap.size A9 c9 dat) :
  ∃ W vb, (((w6.setCell ⟨w4.heap.size, 0, none⟩ (.int .u64 T)).setCell ⟨w4.heap.size, 1, none⟩ (.bool gone)).setCell ⟨w4.heap.size, 2, none⟩ (.slice A9 dat.length c9)) = W ∧ w4.heap.size = vb ∧ w4.heap.size ≤ vb ∧ Below w4.heap.size w4 W ∧
   W.heap[vb]? = some (.cells (q0E T gone A9 dat.length c9) 182 (0, 0)) ∧ SlD W (fun b => w4.heap.size ≤ b ∧ b < W.heap.size ∧ b ≠ vb) A9 c9 dat := by
 refine ⟨_, _, rfl, rfl, Nat.le_refl _, Below.box3 hb (Nat.le_refl _) _ _ _, q2z hx _ _ _, ?_⟩
 exact (hs.slD (D := fun b => w4.heap.size + 1 ≤ b ∧ b < w6.heap.size) fun b h1 h2 => ⟨h1, h2⟩).step fun b hb => ⟨q30 (by omega) _ _ _, by omega, by simp [World.setCell]; omega, by omega⟩
theorem midB {w4 w6 : World} {A9 : Option Addr} {c9 : Nat} {dat : List UInt8} (T : Int) (gone : Bool) (hb : Below w4.heap.size w4 w6) (hs : SlI w6 w4.heap.size w6.heap.size A9 c9 dat) :
  ∃ W vb, w6.alloc (.cells #[.int .u64 T, .bool gone, .slice A9 dat.length c9] 182) = W ∧ w6.heap.size = vb ∧ w4.heap.size ≤ vb ∧ Below w4.heap.size w4 W ∧
   W.heap[vb]? = some (.cells (q0E T gone A9 dat.length c9) 182 (0, 0)) ∧ SlD W (fun b => w4.heap.size ≤ b ∧ b < W.heap.size ∧ b ≠ vb) A9 c9 dat := by
 refine ⟨_, _, rfl, rfl, hb.size, hb.alloc hb.size _, heap_alloc_new w6 _, ?_⟩
 exact (hs.slD (D := fun b => w4.heap.size ≤ b ∧ b < w6.heap.size) fun b h1 h2 => ⟨h1, h2⟩).step fun b hb => ⟨((Below.refl _ w6).alloc (Nat.le_refl _) _).block b hb.2, by omega, by simp; omega, by omega⟩
open Go.RowKit
theorem q2h {P : Program} {w w' : World} {ops : Array Oper} {o : Oper} {a : Act} {K : Act → World → Prop} {Q : Exit → Act → World → Prop} {E : Prop} (hgd : o.guard = none) (s x : Operand) (t : TypeId)
  (ho : o.op = .call { callee := .builtin .append, args := #[s, x], argTypes := #[t, t] }) (va vx v' : Value) (hs : a.eval s = va) (hx : a.eval x = vx) (hr : (Builtin.append_ #[t, t] o.type #[va, vx]).run P w = .ok v' w')
  (h : K (a.put o.dst v') w') : if Region.wanted o (yielded ops a.tmps) = true then Oper.wp P o a w K Q else E := by
 have hw : Region.wanted o (yielded ops a.tmps) = true := by simp [Region.wanted, hgd]
 rw [if_pos hw]
 unfold Oper.wp execOp
 simp only [ho, resolve, invoke, builtin, Sem.run_bind, Sem.run_pure, Result.andThen_ok, List.map_toArray, List.map_cons, List.map_nil, hs, hx, hr]
 exact h
end Go.Proofs.YtdpbllacfljmoaaGreat
