import Derived.Test.YtidomoibhjgkjaaGreatDoorZC10
import Derived.RegionTactic
/-
  Needed of package fault, of any error that is made of places around an end.
-/
namespace Go.Proofs.YtidomoibhjgkjaaGreatDoor
open Go.RowKit

/-- What must be read first, as an error asks for it. -/
def needOf : End → ByteArray × ByteArray × Bool
  | none => (⟨#[]⟩, ⟨#[]⟩, false)
  | some (.inl _) => (⟨#[]⟩, ⟨#[]⟩, false)
  | some (.inr (a, b)) => (a, b, true)

set_option maxHeartbeats 1000000 in
theorem needed1_need (ps : List ByteArray) (v : Value) (a b : ByteArray) (hi pe pn pa : Nat) (o1 o2 o3 : Value) (w : World) (he : Err w hi (End.need a b) ps v) (hhi : hi ≤ w.heap.size) (hG : GlobW w)
    (hv : w.cell? ⟨pe, 0, none⟩ = some v) (hn : w.cell? ⟨pn, 0, none⟩ = some o1) (hn' : w.cell? ⟨pn, 1, none⟩ = some o2) (ha : w.cell? ⟨pa, 0, none⟩ = some o3)
    (fn : w.frozen? ⟨pn, 0, none⟩ = false) (fn' : w.frozen? ⟨pn, 1, none⟩ = false) (fa : w.frozen? ⟨pa, 0, none⟩ = false) (hne : pn ≠ pa) :
    Calls Tryz.prog 55 #[.pointer (some ⟨pe, 0, none⟩), .pointer (some ⟨pn, 0, none⟩), .pointer (some ⟨pa, 0, none⟩)] w
      fun e w' => e = .returned (.tuple #[]) ∧ Below w.heap.size (((w.setCell ⟨pn, 0, none⟩ (.string a)).setCell ⟨pn, 1, none⟩ (.string b)).setCell ⟨pa, 0, none⟩ (.bool true)) w' := by
  have hv1 := cell_alloc hv (.cells #[.string ⟨#[]⟩, .string ⟨#[]⟩] 35)
  have HB : Below w.heap.size w (w.alloc (.cells #[.string ⟨#[]⟩, .string ⟨#[]⟩] 35)) := (Below.refl _ w).alloc (Nat.le_refl _) _
  have l1 : pn < w.heap.size := World.block_lt_of_cell? w _ hn
  have l2 : pa < w.heap.size := World.block_lt_of_cell? w _ ha
  have HE := Lib.hid (he.below HB hhi)
  have HG := Lib.hid (hG.below HB hG.big)
  have HN := Lib.hid (And.intro (And.intro hn hn') (And.intro fn fn'))
  have HA := Lib.hid (And.intro ha fa)
  clear he hG hv HB hn hn' ha fn fn' fa
  go_enter Tryz.func55, Tryz.ntmps55
  go_wp2_with fail
  refine (AsN_need ps v a b hi w.heap.size (.string ⟨#[]⟩) (.string ⟨#[]⟩) _ HE.out (by simp; omega) HG.out (by simp) (by simp) (by simp) (by simp)).mono ?_
  rintro e w' ⟨rfl, hb⟩
  have h1 : Below (w.heap.size + 1) (w.alloc (.cells #[.string a, .string b] 35)) w' := by simpa [World.setCell_alloc_at] using hb
  clear hb hv1
  have H1 : Below w.heap.size w w' := ((Below.refl _ w).alloc (Nat.le_refl _) _).trans (h1.mono (by omega))
  have c1 := bcell h1 (by omega) (show (w.alloc (.cells #[.string a, .string b] 35)).cell? ⟨w.heap.size, 0, none⟩ = some (.string a) by simp)
  have c2 := bcell h1 (by omega) (show (w.alloc (.cells #[.string a, .string b] 35)).cell? ⟨w.heap.size, 1, none⟩ = some (.string b) by simp)
  have c3 := bcell H1 l1 HN.out.1.1
  have c4 := bcell H1 l1 HN.out.1.2
  have c5 := bfrozen H1 l1 HN.out.2.1
  have c6 := bfrozen H1 l1 HN.out.2.2
  have c7 := bcell H1 l2 HA.out.1
  have c8 := bfrozen H1 l2 HA.out.2
  have H2 := Lib.hid H1
  clear h1 H1
  go_wp2_with fail
  go_end0
  exact ⟨rfl, below_set (below_set (below_set H2.out _ _) _ _) _ _⟩

set_option maxHeartbeats 1000000 in
theorem needed1_not (v : Value) (pe pn pa : Nat) (w : World) (hv : w.cell? ⟨pe, 0, none⟩ = some v)
    (H : ∀ W t, Below w.heap.size w W → Calls Tryz.prog 41 #[v, .iface 96 (.pointer (some ⟨t, 0, none⟩))] W fun e w' => e = .returned (.bool false) ∧ Below W.heap.size W w') :
    Calls Tryz.prog 55 #[.pointer (some ⟨pe, 0, none⟩), .pointer (some ⟨pn, 0, none⟩), .pointer (some ⟨pa, 0, none⟩)] w
      fun e w' => e = .returned (.tuple #[]) ∧ Below w.heap.size w w' := by
  have hv1 := cell_alloc hv (.cells #[.string ⟨#[]⟩, .string ⟨#[]⟩] 35)
  have H' := Lib.hid (H (w.alloc (.cells #[.string ⟨#[]⟩, .string ⟨#[]⟩] 35)) w.heap.size ((Below.refl _ w).alloc (Nat.le_refl _) _))
  clear H hv
  go_enter Tryz.func55, Tryz.ntmps55
  go_wp2_with fail
  refine (H'.out).mono ?_
  rintro e w' ⟨rfl, hb⟩
  have H1 := Lib.hid (((Below.refl _ w).alloc (Nat.le_refl _) _).trans (hb.mono (by simp)))
  clear hb hv1 H'
  go_wp2_with fail
  go_end0
  exact ⟨rfl, H1.out⟩

theorem needed1_miss (v : Value) (w : World)
    (hq : ∀ W t, Below (w.heap.size + 4) ((((w.alloc (.cells #[v] 29)).alloc (.cells #[.string ⟨#[]⟩, .string ⟨#[]⟩] 35)).alloc (.cells #[.string ⟨#[]⟩, .string ⟨#[]⟩] 35)).alloc (.cells #[.bool false] 4)) W → Calls Tryz.prog 41 #[v, .iface 96 (.pointer (some ⟨t, 0, none⟩))] W fun e w' => e = .returned (.bool false) ∧ Below W.heap.size W w') :
    Calls Tryz.prog 55 #[.pointer (some ⟨w.heap.size, 0, none⟩), .pointer (some ⟨w.heap.size + 1 + 1, 0, none⟩), .pointer (some ⟨w.heap.size + 1 + 1 + 1, 0, none⟩)] ((((w.alloc (.cells #[v] 29)).alloc (.cells #[.string ⟨#[]⟩, .string ⟨#[]⟩] 35)).alloc (.cells #[.string ⟨#[]⟩, .string ⟨#[]⟩] 35)).alloc (.cells #[.bool false] 4)) fun r w' => r = .returned (.tuple #[]) ∧ Below (w.heap.size + 4) ((((w.alloc (.cells #[v] 29)).alloc (.cells #[.string ⟨#[]⟩, .string ⟨#[]⟩] 35)).alloc (.cells #[.string ⟨#[]⟩, .string ⟨#[]⟩] 35)).alloc (.cells #[.bool false] 4)) w' := by
  refine (needed1_not v w.heap.size (w.heap.size + 1 + 1) (w.heap.size + 1 + 1 + 1) ((((w.alloc (.cells #[v] 29)).alloc (.cells #[.string ⟨#[]⟩, .string ⟨#[]⟩] 35)).alloc (.cells #[.string ⟨#[]⟩, .string ⟨#[]⟩] 35)).alloc (.cells #[.bool false] 4)) (by simp [go_sem]) (fun W t hb => hq W t (by simpa using hb))).mono ?_
  rintro r w' ⟨rfl, hb⟩
  exact ⟨rfl, by simpa using hb⟩

theorem needed1_at (ps : List ByteArray) (v : Value) (e : End) (hi : Nat) (w : World) (he : Err w hi e ps v) (hhi : hi ≤ w.heap.size) (hG : GlobW w) :
    Calls Tryz.prog 55 #[.pointer (some ⟨w.heap.size, 0, none⟩), .pointer (some ⟨w.heap.size + 1 + 1, 0, none⟩), .pointer (some ⟨w.heap.size + 1 + 1 + 1, 0, none⟩)] ((((w.alloc (.cells #[v] 29)).alloc (.cells #[.string ⟨#[]⟩, .string ⟨#[]⟩] 35)).alloc (.cells #[.string ⟨#[]⟩, .string ⟨#[]⟩] 35)).alloc (.cells #[.bool false] 4)) fun r w' => r = .returned (.tuple #[]) ∧ Below (w.heap.size + 4) ((((w.alloc (.cells #[v] 29)).alloc (.cells #[.string ⟨#[]⟩, .string ⟨#[]⟩] 35)).alloc (.cells #[.string (needOf e).1, .string (needOf e).2.1] 35)).alloc (.cells #[.bool (needOf e).2.2] 4)) w' := by
  have HB : Below w.heap.size w ((((w.alloc (.cells #[v] 29)).alloc (.cells #[.string ⟨#[]⟩, .string ⟨#[]⟩] 35)).alloc (.cells #[.string ⟨#[]⟩, .string ⟨#[]⟩] 35)).alloc (.cells #[.bool false] 4)) := ((((Below.refl _ w).alloc (Nat.le_refl _) _).alloc (by simp) _).alloc (by simp; omega) _).alloc (by simp; omega) _
  have HE := he.below HB hhi
  have HG := hG.below HB hG.big
  have hgb := hG.big
  rcases e with _ | n | ⟨a, b⟩
  · by_cases hp : ps = []
    · subst hp
      obtain rfl : v = .nilIface := he
      exact needed1_miss .nilIface w (fun W t _ => (As_none _ W).mono (by rintro r w' ⟨rfl, rfl⟩; exact ⟨rfl, Below.refl _ _⟩))
    · exact needed1_miss v w (fun W t hW => AsN_nil ps v hi t W (HE.below hW (by omega)) (.inl hp) (by have := hW.size; simp at this; omega) (HG.below hW (by omega)))
  · exact needed1_miss v w (fun W t hW => AsN_num ps v n hi t W (HE.below hW (by omega)) (by have := hW.size; simp at this; omega) (HG.below hW (by omega)))
  · refine (needed1_need ps v a b hi _ (w.heap.size + 1 + 1) (w.heap.size + 1 + 1 + 1) (.string ⟨#[]⟩) (.string ⟨#[]⟩) (.bool false) _ HE (by simp; omega) HG (by simp [go_sem]) (by simp [go_sem]) (by simp [go_sem]) (by simp [go_sem]) (by simp [go_sem]) (by simp [go_sem]) (by simp [go_sem]) (by omega)).mono ?_
    rintro r w' ⟨rfl, hb⟩
    refine ⟨rfl, ?_⟩
    simpa [World.setCell_alloc_at, World.setCell_alloc_past, needOf] using hb

set_option maxHeartbeats 1000000 in
theorem needed_core_nil (n1 n2 : ByteArray) (n3 : Bool) (w : World)
    (H : Calls Tryz.prog 55 #[.pointer (some ⟨w.heap.size, 0, none⟩), .pointer (some ⟨w.heap.size + 1 + 1, 0, none⟩), .pointer (some ⟨w.heap.size + 1 + 1 + 1, 0, none⟩)] ((((w.alloc (.cells #[.nilIface] 29)).alloc (.cells #[.string ⟨#[]⟩, .string ⟨#[]⟩] 35)).alloc (.cells #[.string ⟨#[]⟩, .string ⟨#[]⟩] 35)).alloc (.cells #[.bool false] 4)) fun r w' => r = .returned (.tuple #[]) ∧ Below (w.heap.size + 4) ((((w.alloc (.cells #[.nilIface] 29)).alloc (.cells #[.string ⟨#[]⟩, .string ⟨#[]⟩] 35)).alloc (.cells #[.string n1, .string n2] 35)).alloc (.cells #[.bool n3] 4)) w') :
    Calls Tryz.prog 24 #[.nilIface] w fun r w' => r = .returned (.tuple #[.agg #[.string n1, .string n2], .bool n3]) ∧ Below w.heap.size w w' := by
  have hmf : ∀ (fn : Fn) (first cap : Array Value) (w : World), (Instr.makeFunc fn first cap).run Tryz.prog w = .ok (.func fn first cap) w := fun _ _ _ _ => rfl
  have H' := Lib.hid H
  clear H
  go_enter Tryz.func24, Tryz.ntmps24
  go_wp2_with fail
  refine (safely_of 55 _ _ (fun w' => Below (w.heap.size + 4) ((((w.alloc (.cells #[.nilIface] 29)).alloc (.cells #[.string ⟨#[]⟩, .string ⟨#[]⟩] 35)).alloc (.cells #[.string n1, .string n2] 35)).alloc (.cells #[.bool n3] 4)) w') (by kernel_rfl) (H'.out)).mono ?_
  rintro r w' ⟨rfl, hb⟩
  have c1 := bcell hb (by omega) (show ((((w.alloc (.cells #[.nilIface] 29)).alloc (.cells #[.string ⟨#[]⟩, .string ⟨#[]⟩] 35)).alloc (.cells #[.string n1, .string n2] 35)).alloc (.cells #[.bool n3] 4)).cell? ⟨w.heap.size + 1 + 1, 0, none⟩ = some (.string n1) by simp [go_sem])
  have c2 := bcell hb (by omega) (show ((((w.alloc (.cells #[.nilIface] 29)).alloc (.cells #[.string ⟨#[]⟩, .string ⟨#[]⟩] 35)).alloc (.cells #[.string n1, .string n2] 35)).alloc (.cells #[.bool n3] 4)).cell? ⟨w.heap.size + 1 + 1, 1, none⟩ = some (.string n2) by simp [go_sem])
  have c3 := bcell hb (by omega) (show ((((w.alloc (.cells #[.nilIface] 29)).alloc (.cells #[.string ⟨#[]⟩, .string ⟨#[]⟩] 35)).alloc (.cells #[.string n1, .string n2] 35)).alloc (.cells #[.bool n3] 4)).cell? ⟨w.heap.size + 1 + 1 + 1, 0, none⟩ = some (.bool n3) by simp [go_sem])
  have c4 := bcell hb (by omega) (show ((((w.alloc (.cells #[.nilIface] 29)).alloc (.cells #[.string ⟨#[]⟩, .string ⟨#[]⟩] 35)).alloc (.cells #[.string n1, .string n2] 35)).alloc (.cells #[.bool n3] 4)).cell? ⟨w.heap.size + 1, 0, none⟩ = some (.string ⟨#[]⟩) by simp [go_sem])
  have c5 := bcell hb (by omega) (show ((((w.alloc (.cells #[.nilIface] 29)).alloc (.cells #[.string ⟨#[]⟩, .string ⟨#[]⟩] 35)).alloc (.cells #[.string n1, .string n2] 35)).alloc (.cells #[.bool n3] 4)).cell? ⟨w.heap.size + 1, 1, none⟩ = some (.string ⟨#[]⟩) by simp [go_sem])
  have c6 := bfrozen hb (by omega) (show ((((w.alloc (.cells #[.nilIface] 29)).alloc (.cells #[.string ⟨#[]⟩, .string ⟨#[]⟩] 35)).alloc (.cells #[.string n1, .string n2] 35)).alloc (.cells #[.bool n3] 4)).frozen? ⟨w.heap.size + 1, 0, none⟩ = false by simp [go_sem])
  have c7 := bfrozen hb (by omega) (show ((((w.alloc (.cells #[.nilIface] 29)).alloc (.cells #[.string ⟨#[]⟩, .string ⟨#[]⟩] 35)).alloc (.cells #[.string n1, .string n2] 35)).alloc (.cells #[.bool n3] 4)).frozen? ⟨w.heap.size + 1, 1, none⟩ = false by simp [go_sem])
  have H1 := Lib.hid ((((((Below.refl _ w).alloc (Nat.le_refl _) _).alloc (by simp) _).alloc (by simp; omega) _).alloc (by simp; omega) _).trans (hb.mono (by omega)))
  clear hb H'
  go_wp2_with fail
  go_region
  go_wp2
  exact bodyPost_ret (v := .tuple #[.agg #[.string n1, .string n2], .bool n3]) (by simp [results, Tryz.results24, go_sem, c4, c5]) rfl
    ⟨rfl, ((H1.out.setCell (by simp) _).setCell (by simp) _).drew⟩

set_option maxHeartbeats 1000000 in
theorem needed_core_iface (T : TypeId) (y : Value) (n1 n2 : ByteArray) (n3 : Bool) (w : World)
    (H : Calls Tryz.prog 55 #[.pointer (some ⟨w.heap.size, 0, none⟩), .pointer (some ⟨w.heap.size + 1 + 1, 0, none⟩), .pointer (some ⟨w.heap.size + 1 + 1 + 1, 0, none⟩)] ((((w.alloc (.cells #[.iface T y] 29)).alloc (.cells #[.string ⟨#[]⟩, .string ⟨#[]⟩] 35)).alloc (.cells #[.string ⟨#[]⟩, .string ⟨#[]⟩] 35)).alloc (.cells #[.bool false] 4)) fun r w' => r = .returned (.tuple #[]) ∧ Below (w.heap.size + 4) ((((w.alloc (.cells #[.iface T y] 29)).alloc (.cells #[.string ⟨#[]⟩, .string ⟨#[]⟩] 35)).alloc (.cells #[.string n1, .string n2] 35)).alloc (.cells #[.bool n3] 4)) w') :
    Calls Tryz.prog 24 #[.iface T y] w fun r w' => r = .returned (.tuple #[.agg #[.string n1, .string n2], .bool n3]) ∧ Below w.heap.size w w' := by
  have hmf : ∀ (fn : Fn) (first cap : Array Value) (w : World), (Instr.makeFunc fn first cap).run Tryz.prog w = .ok (.func fn first cap) w := fun _ _ _ _ => rfl
  have H' := Lib.hid H
  clear H
  go_enter Tryz.func24, Tryz.ntmps24
  go_wp2_with fail
  refine (safely_of 55 _ _ (fun w' => Below (w.heap.size + 4) ((((w.alloc (.cells #[.iface T y] 29)).alloc (.cells #[.string ⟨#[]⟩, .string ⟨#[]⟩] 35)).alloc (.cells #[.string n1, .string n2] 35)).alloc (.cells #[.bool n3] 4)) w') (by kernel_rfl) (H'.out)).mono ?_
  rintro r w' ⟨rfl, hb⟩
  have c1 := bcell hb (by omega) (show ((((w.alloc (.cells #[.iface T y] 29)).alloc (.cells #[.string ⟨#[]⟩, .string ⟨#[]⟩] 35)).alloc (.cells #[.string n1, .string n2] 35)).alloc (.cells #[.bool n3] 4)).cell? ⟨w.heap.size + 1 + 1, 0, none⟩ = some (.string n1) by simp [go_sem])
  have c2 := bcell hb (by omega) (show ((((w.alloc (.cells #[.iface T y] 29)).alloc (.cells #[.string ⟨#[]⟩, .string ⟨#[]⟩] 35)).alloc (.cells #[.string n1, .string n2] 35)).alloc (.cells #[.bool n3] 4)).cell? ⟨w.heap.size + 1 + 1, 1, none⟩ = some (.string n2) by simp [go_sem])
  have c3 := bcell hb (by omega) (show ((((w.alloc (.cells #[.iface T y] 29)).alloc (.cells #[.string ⟨#[]⟩, .string ⟨#[]⟩] 35)).alloc (.cells #[.string n1, .string n2] 35)).alloc (.cells #[.bool n3] 4)).cell? ⟨w.heap.size + 1 + 1 + 1, 0, none⟩ = some (.bool n3) by simp [go_sem])
  have c4 := bcell hb (by omega) (show ((((w.alloc (.cells #[.iface T y] 29)).alloc (.cells #[.string ⟨#[]⟩, .string ⟨#[]⟩] 35)).alloc (.cells #[.string n1, .string n2] 35)).alloc (.cells #[.bool n3] 4)).cell? ⟨w.heap.size + 1, 0, none⟩ = some (.string ⟨#[]⟩) by simp [go_sem])
  have c5 := bcell hb (by omega) (show ((((w.alloc (.cells #[.iface T y] 29)).alloc (.cells #[.string ⟨#[]⟩, .string ⟨#[]⟩] 35)).alloc (.cells #[.string n1, .string n2] 35)).alloc (.cells #[.bool n3] 4)).cell? ⟨w.heap.size + 1, 1, none⟩ = some (.string ⟨#[]⟩) by simp [go_sem])
  have c6 := bfrozen hb (by omega) (show ((((w.alloc (.cells #[.iface T y] 29)).alloc (.cells #[.string ⟨#[]⟩, .string ⟨#[]⟩] 35)).alloc (.cells #[.string n1, .string n2] 35)).alloc (.cells #[.bool n3] 4)).frozen? ⟨w.heap.size + 1, 0, none⟩ = false by simp [go_sem])
  have c7 := bfrozen hb (by omega) (show ((((w.alloc (.cells #[.iface T y] 29)).alloc (.cells #[.string ⟨#[]⟩, .string ⟨#[]⟩] 35)).alloc (.cells #[.string n1, .string n2] 35)).alloc (.cells #[.bool n3] 4)).frozen? ⟨w.heap.size + 1, 1, none⟩ = false by simp [go_sem])
  have H1 := Lib.hid ((((((Below.refl _ w).alloc (Nat.le_refl _) _).alloc (by simp) _).alloc (by simp; omega) _).alloc (by simp; omega) _).trans (hb.mono (by omega)))
  clear hb H'
  go_wp2_with fail
  go_region
  go_wp2
  exact bodyPost_ret (v := .tuple #[.agg #[.string n1, .string n2], .bool n3]) (by simp [results, Tryz.results24, go_sem, c4, c5]) rfl
    ⟨rfl, ((H1.out.setCell (by simp) _).setCell (by simp) _).drew⟩

set_option maxHeartbeats 1000000 in
theorem needed_any (ps : List ByteArray) (v : Value) (e : End) (hi : Nat) (w : World) (he : Err w hi e ps v) (hhi : hi ≤ w.heap.size) (hG : GlobW w) :
    Calls Tryz.prog 24 #[v] w fun r w' => r = .returned (.tuple #[.agg #[.string (needOf e).1, .string (needOf e).2.1], .bool (needOf e).2.2]) ∧ Below w.heap.size w w' := by
  have H := needed1_at ps v e hi w he hhi hG
  by_cases hs : some? e ps
  · obtain ⟨T, y, rfl⟩ := he.iface hs
    exact needed_core_iface T y _ _ _ w H
  · suffices h : v = .nilIface by
      subst h
      exact needed_core_nil _ _ _ w H
    rcases ps with _ | ⟨p, ps⟩
    · rcases e with _ | n | ⟨a, b⟩
      · exact he
      · exact absurd (.inr (by intro h; cases h)) hs
      · exact absurd (.inr (by intro h; cases h)) hs
    · exact absurd (.inl (by simp)) hs
end Go.Proofs.YtidomoibhjgkjaaGreatDoor
