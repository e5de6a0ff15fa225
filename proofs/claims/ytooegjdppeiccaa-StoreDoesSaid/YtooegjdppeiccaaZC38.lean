import Derived.Test.YtooegjdppeiccaaZC37
/-
  The developers' store: Collect.
-/
namespace Go.Proofs.Ytooegjdppeiccaa
open Go.RowKit

theorem zeroStr (w : World) : (zeroValue 9).run Try.prog w = .ok (.string ⟨#[]⟩) w := by kernel_rfl
theorem run_clear_none (w : World) (ty : TypeId) (X : Option Addr) (c : Nat) : (Builtin.clear_ #[53] ty #[.slice X 0 c]).run Try.prog w = .ok (.tuple #[]) w := by
  cases X <;> simp [Builtin.clear_, run_underlying Try.underlying53, Result.andThen]
/-- The keys that are kept, at key j. -/
def keptS (K : KsS) (low j : Nat) : List KeyS := (collectS (K.take j) low).map Prod.fst
theorem kept_len (K : KsS) (low j : Nat) : (keptS K low j).length ≤ j := by
  unfold keptS
  rw [List.length_map]
  have := collect_len (K.take j) low
  rw [List.length_take] at this
  omega
def keysAt (K : KsS) (low j : Nat) : List KeyS := keptS K low j ++ (K.map Prod.fst).drop (keptS K low j).length
theorem keysAt_len {K : KsS} {low j : Nat} (hj : j ≤ K.length) : (keysAt K low j).length = K.length := by
  have := kept_len K low j
  unfold keysAt
  rw [List.length_append, List.length_drop, List.length_map]
  omega
theorem keysAt_at {K : KsS} {low j : Nat} (hj : j < K.length) : (keysAt K low j)[j]? = some (K[j]'hj).1 := by
  have := kept_len K low j
  unfold keysAt
  rw [List.getElem?_append_right this, List.getElem?_drop, Nat.add_sub_cancel' this, List.getElem?_map, List.getElem?_eq_getElem hj]
  rfl
set_option maxRecDepth 100000 in
set_option maxHeartbeats 4000000 in
theorem dCollect_any {w : World} {p : Nat} {F D : Nat → Prop} {B : Nat} {kv : Value} {cv : KeyS → Value} {L : LimS} {m r v : Int} (st : PS) (low : Nat)
    (h : RawS w p F D B kv cv L m r v st.time (chainS st.K) (st.K.map Prod.fst) (szS st.K)) (ho : OkS st) (hs : SmallS st) (ha : AltS st.K) (hk : KeysS st.K) :
    Calls Try.prog 57 #[ptrS p, .int .u64 low] w fun e w' => e = .returned (.int .i64 ((versS st.K - versS (collectS st.K low) : Nat) : Int)) ∧ TurnK w p F B L m r v st.time (collectS st.K low) w' := by
  have c9 := h.keys_
  have c11 := h.sz1
  have HM := Lib.hid (dMade_any h)
  obtain ⟨A, c, hkv, f1, f2, f3, _⟩ := OwnG.form h.keys
  rw [List.length_map] at hkv f1
  subst hkv
  have HH := Lib.hid h
  have HO := Lib.hid ho
  have HS := Lib.hid hs
  have HA := Lib.hid ha
  have HK := Lib.hid hk
  have HF := Lib.hid (And.intro f1 (And.intro f2 f3))
  have hnl := hs.len
  have hvl := hs.vers
  have hve : (szS st.K).v = versS st.K := rfl
  rw [hve] at c11
  have hc0 : (0 : Int) ≤ (0 : Int) := by omega
  have hcc : (0 : Int) ≤ (c : Int) := by omega
  clear h ho hs ha hk f1 f2 f3 hve
  unfold ptrS at HM ⊢
  go_enter Try.func57, Try.ntmps57
  go_wp2_with fail
  refine HM.out.mono ?_
  rintro e w9 ⟨rfl, hw9⟩
  rw [hw9]
  clear HM hw9 w9
  go_wp2_with fail
  go_loopg [6, 29] st.K.length (fun q u i wr => ∃ (j : Nat) (F' D' : Nat → Prop) (cv' : KeyS → Value), j + q = st.K.length ∧ i = .int .i64 j ∧ u = .slice A (keptS st.K low j).length c ∧ RawS wr p F' D' B (.slice A st.K.length c) cv' L m r v st.time (chainS (upT st.K low j)) (keysAt st.K low j) (szS (upT st.K low j)) ∧ Mut F w wr ∧ ∀ b, F' b → F b ∨ w.heap.size ≤ b)
  case atStart =>
    refine ⟨0, F, D, cv, by omega, rfl, ?_, ?_, Mut.refl _ _, fun _ h => .inl h⟩
    · unfold keptS; simp [collectS]
    · have e : keysAt st.K low 0 = st.K.map Prod.fst := by unfold keysAt keptS; simp [collectS]
      rw [e, upT_zero]
      exact HH.out
  case round =>
    obtain ⟨j, F1, D1, cv1, hk, rfl, rfl, hraw, hmut, hF1⟩ := hrel
    have HKk := Lib.hid hk
    have HRaw := Lib.hid hraw
    have HMut := Lib.hid hmut
    have HF1 := Lib.hid hF1
    clear hk hraw hmut hF1
    by_cases hj : j < st.K.length
    · have hlt : decide ((j : Int) < (st.K.length : Int)) = true := by simpa using hj
      have hlt2 : decide (j < st.K.length) = true := by simpa using hj
      have hkl := kept_len st.K low j
      obtain ⟨g, cap, cur, hv1, hg1, hc1, hc2, hc3, hc4⟩ := own_block HRaw.out.keys (by rw [keysAt_len (by omega)]; omega)
      rw [keysAt_len (by omega)] at hv1 hc1 hc4
      injection hv1 with hA _ hcap
      subst hcap
      subst hA
      have hkey : wr.cell? ⟨g, j, none⟩ = some (.string (bs (st.K[j]'hj).1)) := by
        rw [cell_of_row wr g j _ _ _ hg1]
        have h1 : (cur.toList.take st.K.length)[j]? = some (keyV (st.K[j]'hj).1) := by rw [hc4, List.getElem?_map, keysAt_at hj]; rfl
        rw [List.getElem?_take_of_lt hj, Array.getElem?_toList] at h1
        exact h1
      have hmem := List.getElem_mem hj
      have hch := upT_chain (low := low) HO.out.sort hj
      have hch0 := chainS_mem HO.out.sort hmem
      have hle := upT_le (low := low) HO.out.full hj
      have hzz : (szS (upT st.K low j)).k ≤ 1099511627776 ∧ (szS (upT st.K low j)).v ≤ 1099511627776 ∧ (szS (upT st.K low j)).b ≤ 1099511627776 := by
        have hsm := upT_small (low := low) HO.out.full j (by omega)
        have := HS.out.byts
        omega
      have HTrim : Hid (Calls Try.prog 89 #[ptrS p, .string (bs (st.K[j]'hj).1), .int .u64 low] wr fun e w' => e = .returned (.tuple #[]) ∧ TurnR wr p F1 B (.slice (some ⟨g, 0, none⟩) st.K.length c) L m r v st.time (chainS (upT st.K low (j + 1))) (keysAt st.K low j) (szS (upT st.K low (j + 1))) w') := Lib.hid (by
        have hT := dTrimK_any HRaw.out (st.K[j]'hj).1 low (by rw [hch, ← hch0]; exact HS.out.ok _) (by rw [hch]; exact HO.out.right _ hmem) (by rw [hch, ← hch0]; exact HA.out _) (by rw [hch]; exact hle.1) (by rw [hch]; exact hle.2.1) (by rw [hch]; exact hle.2.2) hzz (by have := (HK.out _ hmem).2; omega)
        rw [hch, ← upT_succ HO.out.sort hj, ← upT_sz HO.out.full hj] at hT
        exact hT)
      have HNew := Lib.hid (show chainS (upT st.K low (j + 1)) (st.K[j]'hj).1 = trimH (st.K[j]'hj).2 low by rw [upT_succ HO.out.sort hj, updG_self])
      have HKeys := Lib.hid (show keptS st.K low (j + 1) = keptS st.K low j ++ (if (trimH (st.K[j]'hj).2 low).isEmpty = true then [] else [(st.K[j]'hj).1]) from upT_keys hj)
      clear hch hch0 hle hzz hmem
      generalize hT0 : trimH (st.K[j]'hj).2 low = T at *
      generalize hK0 : (st.K[j]'hj).1 = key at *
      clear hT0 hK0
      unfold ptrS at HTrim
      go_wp2_with fail
      refine HTrim.out.mono ?_
      rintro e w3 ⟨rfl, F3, D3, cv3, hraw3, hmut3, hF3⟩
      have c8 := hraw3.map_
      have hlk := hraw3.look2 key
      rw [HNew.out] at hlk
      have HRaw3 := Lib.hid hraw3
      have HMut3 := Lib.hid (HMut.out.trans hmut3 HF1.out)
      have HF3 := Lib.hid (show ∀ b, F3 b → F b ∨ w.heap.size ≤ b from fun b hb => by
        rcases hF3 b hb with h1 | h1
        · exact HF1.out b h1
        · exact .inr (Nat.le_trans HMut.out.size h1))
      clear hraw3 hmut3 hF3 HTrim
      cases hE : T.isEmpty
      · rw [hE] at hlk HKeys
        have HKe := Lib.hid (show keptS st.K low (j + 1) = keptS st.K low j ++ [key] from HKeys.out.trans (by rw [if_neg (by simp)]))
        obtain ⟨g', cap', cur3, hv3, hg3, _, hm3, hs3, ht3⟩ := own_block HRaw3.out.keys (by rw [keysAt_len (by omega)]; omega)
        rw [keysAt_len (by omega)] at hv3 ht3
        injection hv3 with hA3 _ hcap3
        injection hA3 with hA3
        injection hA3 with hA3
        subst hcap3
        subst hA3
        obtain ⟨w4, hw4⟩ : ∃ y, w3.alloc (.cells #[.string (bs key)] 9) = y := ⟨_, rfl⟩
        have hglt := lt_of_heap hg3
        have hg4 : w4.heap[g]? = some (.cells cur3 9 (0, 0)) := by rw [← hw4]; exact heap_allocs hg3 _
        have hn4 : w4.heap[w3.heap.size]? = some (.cells #[.string (bs key)] 9 (0, 0)) := by rw [← hw4]; exact heap_alloc_new w3 _
        have hs4 : w4.heap.size = w3.heap.size + 1 := by rw [← hw4]; simp
        have hk4 : ∀ b, b < w3.heap.size → w4.heap[b]? = w3.heap[b]? := fun b hb => by rw [← hw4]; exact ((Below.refl _ w3).alloc (Nat.le_refl _) _).block b hb
        obtain ⟨kl, hkl0⟩ : ∃ x, (keptS st.K low j).length = x := ⟨_, rfl⟩
        rw [hkl0] at hkl
        obtain ⟨ii, zz, hi0, _, _, hi2, _⟩ := kInfo
        obtain ⟨arr, harr⟩ : ∃ y, (cur3.toList.take kl ++ [keyV key] ++ cur3.toList.drop (kl + 1)).toArray = y := ⟨_, rfl⟩
        have happ : ∀ ty, (Builtin.append_ #[53, 53] ty #[.slice (some ⟨g, 0, none⟩) kl c, .slice (some ⟨w3.heap.size, 0, none⟩) 1 1]).run Try.prog w4 = .ok (.slice (some ⟨g, 0, none⟩) (kl + 1) c) (w4.setRow g arr) := fun ty => by
          have h := run_append_room (P := Try.prog) w4 53 ty 9 ii Try.underlying53 hi0 g kl c cur3 hg4 ⟨w3.heap.size, 0, none⟩ 1 1 [keyV key] (by rw [hi2]; rfl) (fun i u hu => by
            cases i with
            | zero =>
              rw [addr_add, cell_of_row w4 _ _ _ _ _ hn4]
              simpa [keyV] using hu
            | succ i => simp at hu) (fun u hu => by rw [List.mem_singleton] at hu; subst hu; rfl) (by omega) (by rw [hi2, hs3]; simp; omega)
          rw [hi2, Nat.mul_one, List.length_singleton] at h
          rw [h, harr]
        have hrn := row_next (key := key) (keysAt_len (K := st.K) (low := low) (j := j) (by omega)) (by rw [hkl0]; omega) ht3 (by rw [hs3]; omega)
        rw [hkl0] at hrn
        obtain ⟨w5, hw5⟩ : ∃ y, w4.setRow g arr = y := ⟨_, rfl⟩
        have hg5 : w5.heap[g]? = some (.cells arr 9 (0, 0)) := by rw [← hw5]; exact setRow_heap w4 g cur3 _ _ _ hg4
        have hs5 : w5.heap.size = w3.heap.size + 1 := by rw [← hw5]; simp [hs4]
        have hk5 : ∀ b, b < w3.heap.size → b ≠ g → w5.heap[b]? = w3.heap[b]? := fun b hb hne => by rw [← hw5, setRow_other _ _ _ _ hne]; exact hk4 b hb
        have harl : arr.size = c := by
          rw [← harr]
          simp only [List.size_toArray, List.length_append, List.length_take, List.length_drop, List.length_singleton, Array.length_toList, hs3]
          omega
        have hkp := HRaw3.out.kvp g rfl
        have hraw5 : RawS w5 p (fun b => F3 b ∨ (w3.heap.size ≤ b ∧ b < w5.heap.size)) D3 B (.slice (some ⟨g, 0, none⟩) st.K.length c) cv3 L m r v st.time (chainS (upT st.K low (j + 1))) (keysAt st.K low (j + 1)) (szS (upT st.K low (j + 1))) := by
          refine HRaw3.out.keysNew HRaw3.out.lt ((hk5 p (HRaw3.out.lt p HRaw3.out.Fp) (Ne.symm hkp.1)).trans HRaw3.out.box) ?_ (by omega) (fun b hb => .inl hb) (fun b hb hne hne2 => hk5 b (HRaw3.out.lt b hb) (fun e => hne2 (by rw [e]; rfl)))
          refine own_mk (cur := arr) (cap := c) (by rw [keysAt_len (by omega)]) hg5 (by rw [keysAt_len (by omega)]; omega) hm3 harl ?_
          rw [keysAt_len (by omega)]
          unfold keysAt
          rw [HKe.out, ← harr]
          exact hrn.1
        have hmut5 : Mut F w w5 := HMut3.out.trans (G := F3) ⟨by rw [← hw5, ← hw4]; rfl, by rw [← hw5, ← hw4]; rfl, by rw [← hw5, ← hw4]; rfl, by omega, fun b hb hf => hk5 b hb (fun e => hf (by rw [e]; exact HRaw3.out.Fk g rfl))⟩ HF3.out
        have HRaw5 := Lib.hid hraw5
        have HMut5 := Lib.hid hmut5
        have HF5 := Lib.hid (show ∀ b, (F3 b ∨ (w3.heap.size ≤ b ∧ b < w5.heap.size)) → F b ∨ w.heap.size ≤ b from fun b hb => by
          rcases hb with h1 | h1
          · exact HF3.out b h1
          · exact .inr (Nat.le_trans HMut3.out.size h1.1))
        have HW4 := Lib.hid hw4
        have HW5 := Lib.hid hw5
        have HApp := Lib.hid happ
        have HKl := Lib.hid (show (keptS st.K low (j + 1)).length = kl + 1 by rw [HKe.out, List.length_append, hkl0]; rfl)
        clear hg3 hm3 hs3 ht3 hglt hg4 hn4 hs4 hk4 hi0 hi2 harr happ hrn hw5 hg5 hs5 hk5 harl hkp hraw5 hmut5 hw4 hg1 hc1 hc2 hc3 hc4
        rw [hkl0]
        have happ := HApp.out
        rw [← HW4.out] at happ
        have HApp2 := Lib.hid happ
        clear happ
        go_wp2_with (at_builtin; refine wpList_append_eq rfl _ _ 53 rfl _ _ _ rfl rfl (HApp2.out _) ?_)
        rw [HW4.out, HW5.out]
        go_roundg (gk - 1)
        case measure => have := HKk.out; omega
        case rel => exact ⟨j + 1, _, D3, cv3, by have := HKk.out; omega, by go_num, by rw [HKl.out], HRaw5.out, HMut5.out, HF5.out⟩
      · rw [hE] at hlk HKeys
        have HKe := Lib.hid (show keptS st.K low (j + 1) = keptS st.K low j from HKeys.out.trans (by rw [if_pos rfl, List.append_nil]))
        go_wp2_with fail
        go_roundg (gk - 1)
        case measure => have := HKk.out; omega
        case rel => exact ⟨j + 1, F3, D3, cv3, by have := HKk.out; omega, by go_num, by rw [HKe.out], by have h := HRaw3.out; unfold keysAt at h ⊢; rw [HKe.out]; exact h, HMut3.out, HF3.out⟩
    · have hj' : j = st.K.length := by have := HKk.out; omega
      subst hj'
      have hlt : decide ((st.K.length : Int) < (st.K.length : Int)) = false := by simp
      have hlt2 : decide (st.K.length < st.K.length) = false := by simp
      have HUp : Hid (upT st.K low st.K.length = collectS st.K low) := Lib.hid upT_len
      have HKs : Hid (keptS st.K low st.K.length = (collectS st.K low).map Prod.fst) := Lib.hid (by unfold keptS; rw [List.take_length])
      have hkl := kept_len st.K low st.K.length
      have hraw := HRaw.out
      rw [HUp.out] at hraw
      have hvc := vers_collect HO.out low
      have hclr := run_clear_none
      have d9 := hraw.keys_
      have d11 : wr.cell? ⟨p, 11, none⟩ = some (.int .i64 (versS (collectS st.K low) : Int)) := hraw.sz1
      have g9 := hraw.frozen 9
      have hbox := hraw.box
      have hFp := hraw.Fp
      have hplt := lt_of_heap hbox
      have HRaw2 := Lib.hid hraw
      have HVC : Hid (∀ x : Nat, x = versS st.K - versS (collectS st.K low) → (x : Int) = ((versS st.K - versS (collectS st.K low) : Nat) : Int)) := Lib.hid fun x hx => by rw [hx]
      generalize hvcc : versS (collectS st.K low) = vc at *
      obtain ⟨df, hdf⟩ : ∃ x, versS st.K - vc = x := ⟨_, rfl⟩
      have qa : (versS st.K : Int) - (vc : Int) = (df : Int) := by omega
      have hvcb : vc ≤ 1048576 := by omega
      have hdfb : df ≤ 1048576 := by omega
      have HVcc := Lib.hid hvcc
      have HDf := Lib.hid (show (df : Int) = ((versS st.K - versS (collectS st.K low) : Nat) : Int) by rw [hvcc, hdf])
      obtain ⟨kl, hkl0⟩ : ∃ x, (keptS st.K low st.K.length).length = x := ⟨_, rfl⟩
      rw [hkl0] at hkl ⊢
      clear hraw hvcc
      have fin : ∀ (w7 : World) (kv' : Value), (w7.heap[p]? = some (.cells (boxS L m r v st.time B kv' (szS (collectS st.K low))) 92 (0, 0))) → OwnG 9 1 kCells w7 0 kv' (keptS st.K low st.K.length) → wr.heap.size ≤ w7.heap.size →
          (∀ b, kv'.ownBlock = some b → (Value.slice A st.K.length c).ownBlock = some b) → (∀ b, F1 b → b ≠ p → (Value.slice A st.K.length c).ownBlock ≠ some b → w7.heap[b]? = wr.heap[b]?) → (w7.os = wr.os ∧ w7.tape = wr.tape ∧ w7.output = wr.output ∧ ∀ b, b < wr.heap.size → b ≠ p → (Value.slice A st.K.length c).ownBlock ≠ some b → w7.heap[b]? = wr.heap[b]?) →
          TurnK w p F B L m r v st.time (collectS st.K low) w7 := fun w7 kv' h1 h2 h3 h4 h5 h6 => by
        have hr := HRaw2.out.keysNew HRaw2.out.lt h1 h2 h3 (fun b hb => .inl (h4 b hb)) h5
        rw [HKs.out] at hr
        refine ⟨_, D1, kv', cv1, hr, HMut.out.trans (G := F1) ⟨h6.1, h6.2.1, h6.2.2.1, h3, fun b hb hf => h6.2.2.2 b hb (fun e => hf (by rw [e]; exact HRaw2.out.Fp)) fun e => hf (HRaw2.out.Fk b e)⟩ HF1.out, fun b hb => ?_⟩
        rcases hb with h7 | h7
        · exact HF1.out b h7
        · exact .inr (Nat.le_trans HMut.out.size h7.1)
      have FIN := Lib.hid fin
      clear fin
      by_cases hkn : kl = st.K.length
      · subst hkn
        have hlist : keysAt st.K low st.K.length = keptS st.K low st.K.length := by
          unfold keysAt
          rw [List.drop_of_length_le (by rw [List.length_map]; omega), List.append_nil]
        have HFin := Lib.hid (FIN.out (wr.setCell ⟨p, 9, none⟩ (.slice A st.K.length c)) (.slice A st.K.length c) (setCell_box hbox 9 _) (by
            have h := HRaw2.out.keys
            rw [hlist] at h
            exact OwnG.keep h (fun b hb _ => box_farJ (HRaw2.out.kvp b hb).1 _ _) (Nat.le_refl _)) (by simp [World.setCell]) (fun b hb => hb) (fun b hb hne _ => box_farJ hne _ _) ⟨rfl, rfl, rfl, fun b _ hne _ => box_farJ hne _ _⟩)
        have k1 : (0 : Int) ≤ (st.K.length : Int) := by omega
        have k3 : (st.K.length : Int) ≤ (c : Int) := by have := HF.out.1; omega
        have hself : st.K.length - st.K.length = 0 := Nat.sub_self _
        clear FIN hlist hkl0 hbox
        by_cases hcn : c = st.K.length
        · subst hcn
          go_wp2
          go_ret
          exact ⟨congrArg (fun i => Ending.returned (.int .i64 i)) HDf.out, HFin.out⟩
        · go_wp2
          go_ret
          exact ⟨congrArg (fun i => Ending.returned (.int .i64 i)) HDf.out, HFin.out⟩
      · have hkn2 : kl < st.K.length := by omega
        obtain ⟨g, cap, cur, hv1, hg1, hc1, hc2, hc3, hc4⟩ := own_block HRaw2.out.keys (by rw [keysAt_len (Nat.le_refl _)]; omega)
        rw [keysAt_len (Nat.le_refl _)] at hv1 hc1 hc4
        injection hv1 with hA _ hcap
        subst hcap
        subst hA
        have hkp := HRaw2.out.kvp g rfl
        have hclr2 : ∀ ty, (Builtin.clear_ #[53] ty #[.slice (some ⟨g, kl, none⟩) (st.K.length - kl) (c - kl)]).run Try.prog wr = .ok (.tuple #[]) (wr.setCells g kl (List.replicate (st.K.length - kl) (.string ⟨#[]⟩))) := fun ty =>
          Lib.run_clear_slice wr 53 9 ty (.string ⟨#[]⟩) Try.underlying53 zeroStr rfl rfl g kl (st.K.length - kl) (c - kl) (by omega)
            (fun i hi => by rw [cell_of_row wr g _ _ _ _ hg1, Array.getElem?_eq_getElem (by omega)]; rfl) (fun i hi => frozen_of hg1 _)
        obtain ⟨cur', m1', m2, m3', m4, m5, m6, m7, m8⟩ := setCells_row g 9 (List.replicate (st.K.length - kl) (.string ⟨#[]⟩)) kl wr cur hg1
        obtain ⟨w6, hw6⟩ : ∃ y, wr.setCells g kl (List.replicate (st.K.length - kl) (.string ⟨#[]⟩)) = y := ⟨_, rfl⟩
        rw [hw6] at hclr2 m1' m4 m5 m6 m7 m8
        have hbox6 : w6.heap[p]? = some (.cells (boxS L m r v st.time B (.slice (some ⟨g, 0, none⟩) st.K.length c) (szS (collectS st.K low))) 92 (0, 0)) := (m4 p (Ne.symm hkp.1)).trans hbox
        have e9 := cell_of_row w6 p 9 _ _ _ hbox6
        have e11 : w6.cell? ⟨p, 11, none⟩ = some (.int .i64 (vc : Int)) := by rw [cell_of_row w6 p 11 _ _ _ hbox6, ← HVcc.out]; rfl
        have f9 := frozen_of hbox6 9
        have htk : cur'.toList.take kl = (keptS st.K low st.K.length).map keyV := by
          have h1 : cur.toList.take kl = (keptS st.K low st.K.length).map keyV := by
            have h2 := congrArg (List.take kl) hc4
            rw [List.take_take, Nat.min_eq_left hkl] at h2
            rw [h2]
            unfold keysAt
            rw [List.map_append, List.take_append_of_le_length (by rw [List.length_map]; omega), List.take_of_length_le (by rw [List.length_map]; omega)]
          rw [← h1]
          apply List.ext_getElem?
          intro i
          rw [List.getElem?_take, List.getElem?_take]
          split
          · next hi => rw [Array.getElem?_toList, Array.getElem?_toList, m3' i hi]
          · rfl
        have HFin := Lib.hid (FIN.out (w6.setCell ⟨p, 9, none⟩ (.slice (some ⟨g, 0, none⟩) kl c)) (.slice (some ⟨g, 0, none⟩) kl c) (setCell_box hbox6 9 _)
          (own_mk (cur := cur') (cap := c) (by rw [hkl0]) ((box_farJ hkp.1 _ _).trans m1') (by omega) hc2 (by omega) (by rw [hkl0]; exact htk)) (by simp [World.setCell, m5]) (fun b hb => hb)
          (fun b hb hne hne2 => (box_farJ hne _ _).trans (m4 b (fun e => hne2 (by rw [e]; rfl)))) ⟨m6, m7, m8, fun b _ hne hne2 => (box_farJ hne _ _).trans (m4 b (fun e => hne2 (by rw [e]; rfl)))⟩)
        have k1 : (0 : Int) ≤ (kl : Int) := by omega
        have k2 : (kl : Int) ≤ (st.K.length : Int) := by omega
        have k3 : (st.K.length : Int) ≤ (c : Int) := by omega
        have k4 : ¬ c = kl := by omega
        have HW6 := Lib.hid hw6
        have HClr := Lib.hid hclr2
        clear FIN hkl0 hbox hg1 hc4 m1' m2 m3' m4 m5 m6 m7 m8 hw6 hbox6 htk hclr hclr2
        have hclr2 := HClr.out
        go_wp2
        go_ret
        exact ⟨congrArg (fun i => Ending.returned (.int .i64 i)) HDf.out, HFin.out⟩
end Go.Proofs.Ytooegjdppeiccaa
