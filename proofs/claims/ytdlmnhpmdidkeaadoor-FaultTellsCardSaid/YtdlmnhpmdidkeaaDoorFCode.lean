/-
  safely of package fault (a call under a deferred recover), and Code, Needed and Is, of any error that is made of places around an end.
-/
import Derived.Test.YtdlmnhpmdidkeaaDoorFAs2
import Derived.Defers
import Derived.Recover
import Derived.Laws.Pointers
namespace Go.Proofs.YtdlmnhpmdidkeaaDoor
open Go.RowKit

theorem catch_idle (w : World) : CallsD Tryd.prog 38 #[] .returning w fun e u' w' => e = .returned (.tuple #[]) ∧ u' = .returning ∧ w' = w := by
  refine callsD_of_wpS Tryd.func38 rfl fun c₀ cs hu => ?_
  apply wpS_region
  simp [wpOpsS, go_sem, recoverD, hu, Tryd.ntmps38]
  cases c₀
  simp_all [bodyPostS, results, Tryd.results38]

theorem safely_of (k : FuncId) (caps : Array Value) (w : World) (R : World → Prop) (hk : (callFunc k caps).run Tryd.prog w = .ok (.enter k caps) w)
    (H : Calls Tryd.prog k caps w fun e w' => e = .returned (.tuple #[]) ∧ R w') :
    Calls Tryd.prog 28 #[.func (.func k) #[] caps] w fun e w' => e = .returned (.tuple #[]) ∧ R w' := by
  have H' := Lib.hid H
  clear H
  go_enter_defers Tryd.func28, Tryd.ntmps28
  go_wp2_with (refine (H'.out).mono ?_; rintro e w' ⟨rfl, hq⟩)
  refine leaves_cons (f := 38) (args := #[]) (by simp) (by simp [go_sem]) ?_
  refine (catch_idle _).mono ?_
  rintro e u' w'' ⟨rfl, rfl, rfl⟩
  exact ⟨_, results_none rfl _ _ _, rfl, hq⟩

/-- The number of an error that is one. -/
def codeOf : End → Int
  | none => 20
  | some (.inl n) => n
  | some (.inr _) => 20

theorem bcell {B : Nat} {w w1 : World} (hb : Below B w w1) {b k : Nat} {v : Value} (hB : b < B) (h : w.cell? ⟨b, k, none⟩ = some v) : w1.cell? ⟨b, k, none⟩ = some v := (hb.cell (p := ⟨b, k, none⟩) hB).trans h
theorem bfrozen {B : Nat} {w w1 : World} (hb : Below B w w1) {b k : Nat} (hB : b < B) (h : w.frozen? ⟨b, k, none⟩ = false) : w1.frozen? ⟨b, k, none⟩ = false := (hb.frozen (p := ⟨b, k, none⟩) hB).trans h

set_option maxHeartbeats 1000000 in
theorem code1_num (ps : List ByteArray) (v : Value) (n : Int) (hi pe pc : Nat) (o : Value) (w : World) (he : Err w hi (End.num n) ps v) (hhi : hi ≤ w.heap.size) (hG : Glob w)
    (hv : w.cell? ⟨pe, 0, none⟩ = some v) (hc : w.cell? ⟨pc, 0, none⟩ = some o) (hf : w.frozen? ⟨pc, 0, none⟩ = false) :
    Calls Tryd.prog 31 #[.pointer (some ⟨pe, 0, none⟩), .pointer (some ⟨pc, 0, none⟩)] w fun e w' => e = .returned (.tuple #[]) ∧ Below w.heap.size (w.setCell ⟨pc, 0, none⟩ (.int .i64 n)) w' := by
  have hv1 := cell_alloc hv (.cells #[.int .i64 0] 29)
  have hc1 := Lib.hid (cell_alloc hc (.cells #[.int .i64 n] 29))
  have hf1 := Lib.hid (frozen_alloc hc (.cells #[.int .i64 n] 29) hf)
  have hlt : pc < w.heap.size := World.block_lt_of_cell? w _ hc
  have HB : Below w.heap.size w (w.alloc (.cells #[.int .i64 0] 29)) := (Below.refl _ w).alloc (Nat.le_refl _) _
  have HE := Lib.hid (he.below HB hhi)
  have HG := Lib.hid (hG.below HB hG.big)
  clear he hG hv hc hf HB
  go_enter Tryd.func31, Tryd.ntmps31
  go_wp2_with fail
  refine (AsE_num ps v n hi w.heap.size (.int .i64 0) _ HE.out (by simp; omega) HG.out (by simp) (by simp)).mono ?_
  rintro e w' ⟨rfl, hb⟩
  have h1 : Below (w.heap.size + 1) (w.alloc (.cells #[.int .i64 n] 29)) w' := by simpa [World.setCell_alloc_at] using hb
  clear hb
  have c1 := bcell h1 (by omega) (show (w.alloc (.cells #[.int .i64 n] 29)).cell? ⟨w.heap.size, 0, none⟩ = some (.int .i64 n) by simp)
  have c2 := bcell h1 (by omega) hc1.out
  have c3 := bfrozen h1 (by omega) hf1.out
  have H1 := Lib.hid (((Below.refl _ w).alloc (Nat.le_refl _) _).trans (h1.mono (by omega)))
  clear h1 hv1
  go_wp2_with fail
  go_end0
  exact ⟨rfl, below_set H1.out _ _⟩

set_option maxHeartbeats 1000000 in
theorem code1_need (ps : List ByteArray) (v : Value) (a b : ByteArray) (hi pe pc : Nat) (o : Value) (w : World) (he : Err w hi (End.need a b) ps v) (hhi : hi ≤ w.heap.size) (hG : Glob w)
    (hv : w.cell? ⟨pe, 0, none⟩ = some v) (hc : w.cell? ⟨pc, 0, none⟩ = some o) (hf : w.frozen? ⟨pc, 0, none⟩ = false) :
    Calls Tryd.prog 31 #[.pointer (some ⟨pe, 0, none⟩), .pointer (some ⟨pc, 0, none⟩)] w fun e w' => e = .returned (.tuple #[]) ∧ Below w.heap.size w w' := by
  have hv1 := cell_alloc hv (.cells #[.int .i64 0] 29)
  have hc1 := Lib.hid (cell_alloc hc (.cells #[.int .i64 0] 29))
  have hf1 := Lib.hid (frozen_alloc hc (.cells #[.int .i64 0] 29) hf)
  have hlt : pc < w.heap.size := World.block_lt_of_cell? w _ hc
  have HB : Below w.heap.size w (w.alloc (.cells #[.int .i64 0] 29)) := (Below.refl _ w).alloc (Nat.le_refl _) _
  have HE := Lib.hid (he.below HB hhi)
  have HG := Lib.hid (hG.below HB hG.big)
  clear he hG hv hc hf HB
  go_enter Tryd.func31, Tryd.ntmps31
  go_wp2_with fail
  refine (AsE_need ps v a b hi w.heap.size _ HE.out (by simp; omega) HG.out).mono ?_
  rintro e w' ⟨rfl, hb⟩
  have H1 := Lib.hid (((Below.refl _ w).alloc (Nat.le_refl _) _).trans (hb.mono (by simp)))
  clear hb hv1
  go_wp2_with fail
  go_end0
  exact ⟨rfl, H1.out⟩

set_option maxHeartbeats 1000000 in
theorem code1_nil (ps : List ByteArray) (v : Value) (hi pe pc : Nat) (o : Value) (w : World) (he : Err w hi End.nil ps v) (hs : some? End.nil ps) (hhi : hi ≤ w.heap.size) (hG : Glob w)
    (hv : w.cell? ⟨pe, 0, none⟩ = some v) (hc : w.cell? ⟨pc, 0, none⟩ = some o) (hf : w.frozen? ⟨pc, 0, none⟩ = false) :
    Calls Tryd.prog 31 #[.pointer (some ⟨pe, 0, none⟩), .pointer (some ⟨pc, 0, none⟩)] w fun e w' => e = .returned (.tuple #[]) ∧ Below w.heap.size w w' := by
  have hv1 := cell_alloc hv (.cells #[.int .i64 0] 29)
  have hc1 := Lib.hid (cell_alloc hc (.cells #[.int .i64 0] 29))
  have hf1 := Lib.hid (frozen_alloc hc (.cells #[.int .i64 0] 29) hf)
  have hlt : pc < w.heap.size := World.block_lt_of_cell? w _ hc
  have HB : Below w.heap.size w (w.alloc (.cells #[.int .i64 0] 29)) := (Below.refl _ w).alloc (Nat.le_refl _) _
  have HE := Lib.hid (he.below HB hhi)
  have HG := Lib.hid (hG.below HB hG.big)
  clear he hG hv hc hf HB
  go_enter Tryd.func31, Tryd.ntmps31
  go_wp2_with fail
  refine (AsE_nil ps v hi w.heap.size _ HE.out hs (by simp; omega) HG.out).mono ?_
  rintro e w' ⟨rfl, hb⟩
  have H1 := Lib.hid (((Below.refl _ w).alloc (Nat.le_refl _) _).trans (hb.mono (by simp)))
  clear hb hv1
  go_wp2_with fail
  go_end0
  exact ⟨rfl, H1.out⟩

theorem code_none (w : World) : Calls Tryd.prog 13 #[.nilIface] w fun e w' => e = .returned (.int .i64 0) ∧ Below w.heap.size w w' := by
  go_enter Tryd.func13, Tryd.ntmps13
  go_wp2
  go_ret
  exact ⟨rfl, (Below.refl _ w).alloc (Nat.le_refl _) _⟩

set_option maxHeartbeats 1000000 in
theorem code_any (ps : List ByteArray) (v : Value) (e : End) (hi : Nat) (w : World) (he : Err w hi e ps v) (hs : some? e ps) (hhi : hi ≤ w.heap.size) (hG : Glob w) :
    Calls Tryd.prog 13 #[v] w fun r w' => r = .returned (.int .i64 (codeOf e)) ∧ Below w.heap.size w w' := by
  have hmf : ∀ (fn : Fn) (first cap : Array Value) (w : World), (Instr.makeFunc fn first cap).run Tryd.prog w = .ok (.func fn first cap) w := fun _ _ _ _ => rfl
  have HB : Below w.heap.size w ((w.alloc (.cells #[v] 27)).alloc (.cells #[.int .i64 20] 29)) := ((Below.refl _ w).alloc (Nat.le_refl _) _).alloc (by simp) _
  have HE := he.below HB hhi
  have HG := hG.below HB hG.big
  have H := Lib.hid (show Calls Tryd.prog 31 #[.pointer (some ⟨w.heap.size, 0, none⟩), .pointer (some ⟨w.heap.size + 1, 0, none⟩)] ((w.alloc (.cells #[v] 27)).alloc (.cells #[.int .i64 20] 29))
      fun r w' => r = .returned (.tuple #[]) ∧ Below (w.heap.size + 2) ((w.alloc (.cells #[v] 27)).alloc (.cells #[.int .i64 (codeOf e)] 29)) w' from by
    rcases e with _ | n | ⟨a, b⟩
    · refine (code1_nil ps v hi _ _ (.int .i64 20) _ HE hs (by simp; omega) HG (by simp) (by simp) (by simp)).mono ?_
      rintro r w' ⟨rfl, hb⟩
      exact ⟨rfl, by simpa [codeOf] using hb⟩
    · refine (code1_num ps v n hi _ _ (.int .i64 20) _ HE (by simp; omega) HG (by simp) (by simp) (by simp)).mono ?_
      rintro r w' ⟨rfl, hb⟩
      refine ⟨rfl, ?_⟩
      simpa [World.setCell_alloc_at, codeOf] using hb
    · refine (code1_need ps v a b hi _ _ (.int .i64 20) _ HE (by simp; omega) HG (by simp) (by simp) (by simp)).mono ?_
      rintro r w' ⟨rfl, hb⟩
      exact ⟨rfl, by simpa [codeOf] using hb⟩)
  obtain ⟨T, y, rfl⟩ := he.iface hs
  clear he hG HB HE HG hs
  go_enter Tryd.func13, Tryd.ntmps13
  go_wp2_with fail
  refine (safely_of 31 _ _ (fun w' => Below (w.heap.size + 2) ((w.alloc (.cells #[.iface T y] 27)).alloc (.cells #[.int .i64 (codeOf e)] 29)) w') (by kernel_rfl) (H.out)).mono ?_
  rintro r w' ⟨rfl, hb⟩
  have c1 := bcell hb (by omega) (show ((w.alloc (.cells #[.iface T y] 27)).alloc (.cells #[.int .i64 (codeOf e)] 29)).cell? ⟨w.heap.size + 1, 0, none⟩ = some (.int .i64 (codeOf e)) by simp)
  have H1 := Lib.hid ((((Below.refl _ w).alloc (Nat.le_refl _) _).alloc (by simp) _).trans (hb.mono (by omega)))
  clear hb H
  go_wp2_with fail
  go_ret
  exact ⟨rfl, H1.out⟩
end Go.Proofs.YtdlmnhpmdidkeaaDoor
