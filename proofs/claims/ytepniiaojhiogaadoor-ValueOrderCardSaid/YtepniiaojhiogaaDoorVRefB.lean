/-
  The document's own answers on values: Put of conductorref04.
-/
import Derived.Test.YtepniiaojhiogaaDoorVRefA
import Derived.Test.YtepniiaojhiogaaDoorVBack
import Derived.Test.YtepniiaojhiogaaDoorRefW
import Derived.Deep.RegionHeld3
import Derived.Deep.DeepCutAuto
namespace Go.Proofs.YtepniiaojhiogaaDoor
open Go.RowKit

theorem fInt_from (n : Int) (h0 : -9223372036854775808 ≤ n) (h1 : n ≤ 9223372036854775807) {W wy : World} (h : Below W.heap.size W wy) :
    Calls Tryd.prog 43 #[.int .i64 n] wy fun r w' => ∃ A c, r = .returned (.slice A (unInt n).length c) ∧ (A = none → c = 0) ∧ Rd w' wy.heap.size w'.heap.size A (unInt n) ∧ Below wy.heap.size wy w' ∧ Below W.heap.size W w' := by
  refine (fInt_any n h0 h1 wy).mono ?_
  rintro r w' ⟨A, c, rfl, _, _, hz, hr, hb⟩
  exact ⟨A, c, rfl, hz, hr, hb, h.trans (hb.mono h.size)⟩

theorem Rd.drawn {w : World} {lo hi : Nat} {A : Option Addr} {l : List UInt8} (h : Rd w lo hi A l) : Rd w.drew lo hi A l := h
theorem wrap_u8_1 : IntKind.u8.wrap 1 = ((1 : UInt8).toNat : Int) := by decide
theorem wrap_u8_2 : IntKind.u8.wrap 2 = ((2 : UInt8).toNat : Int) := by decide
/-- A byte that was laid ahead of a call, or behind it, and what the call made. -/
theorem Rd.ahead {w w' : World} {e : TypeId} {x : Int} {b : UInt8} (hx : x = (b.toNat : Int)) (hb : Below (w.alloc (.cells #[.int .u8 x] e)).drew.heap.size (w.alloc (.cells #[.int .u8 x] e)).drew w') : Rd w' 0 w'.heap.size (some ⟨w.heap.size, 0, none⟩) [b] :=
  ((Rd.drawn (Rd.one w e x b hx)).below hb (by simp)).wide (Nat.zero_le _) (by have := hb.size; simp at this; omega)
theorem Rd.kept {w : World} {o : Obj} {lo : Nat} {A : Option Addr} {l : List UInt8} (h : Rd w lo w.heap.size A l) : Rd (w.alloc o) 0 (w.alloc o).heap.size A l :=
  (h.below ((Below.refl _ w).alloc (Nat.le_refl _) _) (Nat.le_refl _)).wide (Nat.zero_le _) (by simp)

theorem fJoin_head (w : World) (g : Nat) (hg : g = w.heap.size) (A1 A2 : Option Addr) (c2 : Nat) (b : UInt8) (l2 : List UInt8) (z1 : A1 = none → 1 = 0) (z2 : A2 = none → c2 = 0) (h1 : Rd w 0 w.heap.size A1 [b]) (h2 : Rd w 0 w.heap.size A2 l2) (hs : (b :: l2).length ≤ 140737488355328) :
    Calls Tryd.prog 21 #[.slice (some ⟨g, 0, none⟩) 2 2] (w.alloc (.cells #[.slice A1 1 1, .slice A2 l2.length c2] 24)) (Ret (b :: l2) w) := by
  subst hg
  exact fJoin_pair w A1 A2 1 c2 [b] l2 (b :: l2) rfl z1 z2 h1 h2 hs

theorem unInt_len (n : Int) (h0 : -9223372036854775808 ≤ n) (h1 : n ≤ 9223372036854775807) : (unInt n).length ≤ 10 := by
  unfold unInt
  exact un_ten (zig_lt n h0 h1)

/-- The fields of a value that was boxed. -/
def Boxed (w : World) (b : Nat) (v : V) : Prop := w.heap[b]? = some (.cells #[.int .i64 v.k, .int .i64 v.n, .string v.s] 23 (0, 0))
theorem Boxed.new (w : World) (k n : Int) (s : ByteArray) : Boxed (w.alloc (.cells #[.int .i64 k, .int .i64 n, .string s] 23)) w.heap.size ⟨k, n, s⟩ := heap_alloc_new w _
theorem Boxed.below {w w' : World} {b : Nat} {v : V} (h : Boxed w b v) (hb : Below w.heap.size w w') : Boxed w' b v := (hb.block b (Array.getElem?_eq_some_iff.1 h).1).trans h
theorem Boxed.lt {w : World} {b : Nat} {v : V} (h : Boxed w b v) : b < w.heap.size := (Array.getElem?_eq_some_iff.1 h).1
theorem Boxed.cells {w : World} {b : Nat} {v : V} (h : Boxed w b v) : w.cell? ⟨b, 0, none⟩ = some (.int .i64 v.k) ∧ w.cell? ⟨b, 1, none⟩ = some (.int .i64 v.n) ∧ w.cell? ⟨b, 2, none⟩ = some (.string v.s) :=
  ⟨cell_of_row _ _ 0 _ _ _ h, cell_of_row _ _ 1 _ _ _ h, cell_of_row _ _ 2 _ _ _ h⟩

set_option maxRecDepth 100000 in
set_option maxHeartbeats 2000000 in
theorem fPut_num (k n : Int) (s : ByteArray) (kb : UInt8) (hkw : IntKind.u8.wrap k = (kb.toNat : Int)) (h3 : (k == 3) = false) (hr : rightV ⟨k, n, s⟩ = 0) (hp : putV ⟨k, n, s⟩ = kb :: unInt n) (h0 : -9223372036854775808 ≤ n) (h1 : n ≤ 9223372036854775807) (w : World) :
    Calls Tryd.prog 17 #[.agg #[.int .i64 k, .int .i64 n, .string s]] w (Ret (putV ⟨k, n, s⟩) w) := by
  have HR := Lib.hid hp
  have HQ := Lib.hid hr
  have HW := Lib.hid hkw
  have HV := Lib.hid (fun w' => fRight_any ⟨k, n, s⟩ w')
  have hl := unInt_len n h0 h1
  have hlen : (kb :: unInt n).length ≤ 140737488355328 := by rw [List.length_cons]; omega
  have HLen := Lib.hid hlen
  clear hlen hp hr hkw
  go_enter Tryd.func17, Tryd.ntmps17
  go_wp2_with fail
  refine (HV.out _).mono ?_
  rw [HQ.out]
  rintro r w2 ⟨rfl, hb⟩
  have HX := Lib.hid ((Boxed.new w k n s).below hb)
  have HB := Lib.hid ((box_below w #[.int .i64 k, .int .i64 n, .string s] 23).trans (hb.mono (by simp)))
  clear hb
  have keep : ∀ w', Below w2.heap.size w2 w' → w'.cell? ⟨w.heap.size, 0, none⟩ = some (.int .i64 k) ∧ w'.cell? ⟨w.heap.size, 1, none⟩ = some (.int .i64 n) ∧ w'.cell? ⟨w.heap.size, 2, none⟩ = some (.string s) ∧ Below w2.heap.size w2 w' := fun w' h =>
    have m := (HX.out.below h).cells
    ⟨m.1, m.2.1, m.2.2, h⟩
  have KEEP := Lib.hid keep
  obtain ⟨c0, c1, c2, _⟩ := keep _ (Below.refl _ _)
  clear keep
  go_upto_region 5 with fail
  go_region_held3 (fun w' => w'.cell? ⟨w.heap.size, 0, none⟩ = some (.int .i64 k) ∧ w'.cell? ⟨w.heap.size, 1, none⟩ = some (.int .i64 n) ∧ w'.cell? ⟨w.heap.size, 2, none⟩ = some (.string s) ∧ Below w2.heap.size w2 w')
    (first | with_reducible exact KEEP.out _ hb4 | with_reducible exact KEEP.out _ (Below.alloc (Below.alloc hb2 (Below.size hb2) _) (by have := Below.size hb2; simp; omega) _) | with_reducible exact KEEP.out _ (Below.alloc hb2 (Below.size hb2) _) | with_reducible exact KEEP.out _ hb2 | with_reducible exact KEEP.out _ (Below.refl _ _).drew | with_reducible exact KEEP.out _ ((Below.refl _ _).drew.alloc (by simp) _))
    (first
      | (go_at_call 43; refine (fInt_from n h0 h1 (by go_split_ands; assumption)).mono ?_; rintro r w' ⟨A2, c2, rfl, z2, hr2, hb1, hb2⟩; (try have hy := Rd.ahead HW.out hb1))
      | (go_at_call 21; (first
          | (with_reducible refine (fJoin_head w' w'.heap.size rfl (some ⟨w2.heap.size, 0, none⟩) A2 c2 kb (unInt n) (by intro h; cases h) z2 hy (hr2.wide (Nat.zero_le _) (Nat.le_refl _)) HLen.out).mono ?_); rintro r w3 ⟨A3, c3, rfl, hc3, hm3, z3, hr3, hb3⟩; have hb4 := hb2.trans (hb3.mono hb2.size); have hr4 := hr3.wide hb2.size (Nat.le_refl _)
          | (with_reducible refine (fJoin_head (w'.alloc (.cells #[.int .u8 (IntKind.u8.wrap k)] 5)) (w'.heap.size + 1) (by simp) (some ⟨w'.heap.size, 0, none⟩) A2 c2 kb (unInt n) (by intro h; cases h) z2 ((Rd.one w' 5 _ kb HW.out).wide (Nat.zero_le _) (by simp)) (Rd.kept hr2) HLen.out).mono ?_); rintro r w3 ⟨A3, c3, rfl, hc3, hm3, z3, hr3, hb3⟩; have hb4 := (hb2.alloc hb2.size _).trans (hb3.mono (by have := hb2.size; simp; omega)); have hr4 := hr3.wide (show w2.heap.size ≤ _ by have := hb2.size; simp; omega) (Nat.le_refl _))))
  all_goals
    go_wp2
    go_ret
    rw [HR.out]
    exact Ret.of rfl hc3 hm3 z3 (hr4.wide HB.out.size (Nat.le_refl _)) (HB.out.trans (hb4.mono HB.out.size))

set_option maxRecDepth 100000 in
set_option maxHeartbeats 2000000 in
theorem fPut_text (n : Int) (s : ByteArray) (hr : rightV ⟨3, n, s⟩ = 0) (w : World) :
    Calls Tryd.prog 17 #[.agg #[.int .i64 3, .int .i64 n, .string s]] w (Ret (putV ⟨3, n, s⟩) w) := by
  have hs := (right_text hr rfl).1
  simp only at hs
  have HR := Lib.hid (show putV ⟨3, n, s⟩ = 3 :: unText s.data.toList by rw [put_right hr]; rfl)
  have HQ := Lib.hid hr
  have HV := Lib.hid (fun w' => fRight_any ⟨3, n, s⟩ w')
  have hlen : (3 :: unText s.data.toList).length ≤ 140737488355328 := by
    have h1 := un_ten (n := s.size) (by omega)
    have h2 : s.data.toList.length = s.size := rfl
    rw [List.length_cons, unText, List.length_append, h2]
    omega
  have HLen := Lib.hid hlen
  clear hlen hr
  go_enter Tryd.func17, Tryd.ntmps17
  go_wp2_with fail
  refine (HV.out _).mono ?_
  rw [HQ.out]
  rintro r w2 ⟨rfl, hb⟩
  have HX := Lib.hid ((Boxed.new w 3 n s).below hb)
  have HB := Lib.hid ((box_below w #[.int .i64 3, .int .i64 n, .string s] 23).trans (hb.mono (by simp)))
  obtain ⟨c0, c1, c2⟩ := HX.out.cells
  have hlt : w.heap.size < w2.heap.size := HX.out.lt
  clear hb
  go_wp2_with fail
  refine (fText_any s (by omega) _).mono ?_
  rintro r w' ⟨A2, c2, rfl, hc2, hm2, z2, hr2, hb1⟩
  have hy : Rd w' 0 w'.heap.size (some ⟨w2.heap.size, 0, none⟩) [3] := ((Rd.one w2 5 3 3 rfl).below hb1 (by simp)).wide (Nat.zero_le _) (by have := hb1.size; simp at this; omega)
  have HY := Lib.hid hy
  have HR2 := Lib.hid (hr2.wide (Nat.zero_le _) (Nat.le_refl _))
  have HB2 := Lib.hid (((Below.refl _ w2).alloc (Nat.le_refl _) (.cells #[.int .u8 3] 5)).trans (hb1.mono (by simp)))
  clear hb1 hy hr2 c0 c1
  go_wp2_with fail
  refine (fJoin_head w' w'.heap.size rfl (some ⟨w2.heap.size, 0, none⟩) A2 c2 3 (unText s.data.toList) (by intro h; cases h) z2 HY.out HR2.out HLen.out).mono ?_
  rintro r w3 ⟨A3, c3, rfl, hc3, hm3, z3, hr3, hb3⟩
  have HB4 := Lib.hid (HB2.out.trans (hb3.mono HB2.out.size))
  have HR4 := Lib.hid (hr3.wide HB2.out.size (Nat.le_refl _))
  clear hb3 hr3
  go_wp2_with fail
  go_ret
  rw [HR.out]
  exact Ret.of rfl hc3 hm3 z3 (HR4.out.wide HB.out.size (Nat.le_refl _)) (HB.out.trans (HB4.out.mono HB.out.size))

set_option maxHeartbeats 1000000 in
theorem fPut_wrong (v : V) (hr : rightV v ≠ 0) (w : World) : Calls Tryd.prog 17 #[v.val] w (Ret (putV v) w) := by
  have HR := Lib.hid (put_wrong hr)
  have HV := Lib.hid (fun w' => fRight_any v w')
  have hn : (rightV v != 0) = true := by simpa using hr
  generalize rightV v = e at *
  obtain ⟨k, n, s⟩ := v
  have HV2 : Hid (∀ w', Calls Tryd.prog 14 #[.agg #[.int .i64 k, .int .i64 n, .string s]] w' fun r w'' => r = .returned (.int .i64 e) ∧ Below w'.heap.size w' w'') := Lib.hid HV.out
  clear hr HV
  show Calls Tryd.prog 17 #[.agg #[.int .i64 k, .int .i64 n, .string s]] w _
  go_enter Tryd.func17, Tryd.ntmps17
  go_wp2_with fail
  refine (HV2.out _).mono ?_
  rintro r w2 ⟨rfl, hb⟩
  have HB := Lib.hid ((box_below w #[.int .i64 k, .int .i64 n, .string s] 23).trans (hb.mono (by simp)))
  clear hb
  go_wp2_with fail
  go_ret
  rw [HR.out]
  exact ⟨none, 0, rfl, Nat.le_refl _, Nat.zero_le _, fun _ => rfl, Rd.nil_, HB.out⟩

theorem fPut_any (v : V) (w : World) (h0 : -9223372036854775808 ≤ v.n) (h1 : v.n ≤ 9223372036854775807) :
    Calls Tryd.prog 17 #[v.val] w (Ret (putV v) w) := by
  by_cases hr : rightV v = 0
  · obtain ⟨k, n, s⟩ := v
    rcases right_kind hr with hk | hk | hk
    · simp only at hk
      subst hk
      exact fPut_num 1 n s 1 wrap_u8_1 rfl hr (by rw [put_right hr]; rfl) h0 h1 w
    · simp only at hk
      subst hk
      exact fPut_num 2 n s 2 wrap_u8_2 rfl hr (by rw [put_right hr]; rfl) h0 h1 w
    · simp only at hk
      subst hk
      exact fPut_text n s hr w
  · exact fPut_wrong v hr w
end Go.Proofs.YtepniiaojhiogaaDoor
