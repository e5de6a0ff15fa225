import Derived.Test.YtfdiidhilonkoaaZC12
import Derived.Test.YtfdiidhilonkoaaZC10
set_option linter.unusedVariables false
/-
  slices.symMergeCmpFunc of ints.
-/
namespace Go.Proofs.Ytfdiidhilonkoaa
open Go.RowKit

set_option maxRecDepth 100000 in
set_option maxHeartbeats 8000000 in
theorem symOne_any (gf : Nat) (lb : Array Value) (key : Int → Int) (cf : Int → Int → Int) (ok : Int → Prop) (g len cap a m b : Nat) (d : Nat → Int) (w : World) (h : IntsAt w g len d) (hc : CmpI gf lb key cf ok g w) (hme : m = a + 1) (hab : m < b) (hb : b ≤ len) (hl : len ≤ 1000000) (ho : ∀ i, i < len → ok (d i)) (ht : TwoK key d a m b) :
    Calls Try.prog 56 #[.slice (some ⟨g, 0, none⟩) len cap, .int .i64 (a : Nat), .int .i64 (m : Nat), .int .i64 (b : Nat), .func (.func gf) #[] lb] w fun r w' => r = .returned (.tuple #[]) ∧ (∃ e, IntsAt w' g len e ∧ PermO d e a b ∧ SortK key e a b) ∧ Mut (fun k => k = g) w w' := by
  have H0 := Lib.hid h
  have HC := Lib.hid hc.2.2
  have HCf := Lib.hid hc.1
  have eg := hc.2.1
  have HO := Lib.hid ho
  have HT := Lib.hid ht
  have d1 : (((m : Int) - (a : Int)) == 1) = true := by rw [beq_iff_eq]; omega
  have ham : a < m := by omega
  have HMe := Lib.hid hme
  clear h ho ht hc hme
  go_enter Try.func56, Try.ntmps56
  go_wp2
  go_loopg [10, 11, 12] (b - a) (fun q i j _ wr => ∃ (x y : Nat), i = .int .i64 (x : Nat) ∧ j = .int .i64 (y : Nat) ∧ m ≤ x ∧ x ≤ y ∧ y ≤ b ∧ y ≤ x + q ∧ (x = m ∨ key (d (x - 1)) < key (d a)) ∧ (y = b ∨ ¬ key (d y) < key (d a)) ∧ IntsAt wr g len d ∧ Mut (fun k => k = g) w wr)
  case atStart => exact ⟨m, b, rfl, rfl, Nat.le_refl _, by omega, Nat.le_refl _, by omega, .inl rfl, .inl rfl, H0.out, Mut.refl _ _⟩
  case round =>
    obtain ⟨x, y, rfl, rfl, h1, h2, h3, hq, hx, hy, hi, hm⟩ := hrel
    have HI := Lib.hid hi
    have HM := Lib.hid hm
    have HX := Lib.hid hx
    have HY := Lib.hid hy
    clear hi hm hx hy
    by_cases hxy : x < y
    · have hlt : decide ((x : Int) < (y : Int)) = true := by simpa using hxy
      obtain ⟨c, hm, m1, m2⟩ : ∃ c : Nat, ((x : Int) + (y : Int)) / 2 = (c : Int) ∧ x ≤ c ∧ c < y := ⟨(x + y) / 2, by omega, by omega, by omega⟩
      go_wp2
      try rw [hm]
      clear hm
      have q1 : (c : Int) < (len : Int) := by omega
      have q2 : (a : Int) < (len : Int) := by omega
      have q3 : c < len := by omega
      have q4 : a < len := by omega
      have HCl := Lib.hid (fun (W : World) (hb : Below wr.heap.size wr W) => And.intro ((HI.out.keep (hb.block g HI.out.lt)).cell (i := c) (by omega)) ((HI.out.keep (hb.block g HI.out.lt)).cell (i := a) (by omega)))
      have HCb : Hid (∀ W : World, Below wr.heap.size wr W → Calls Try.prog gf (#[.int .i64 (d c), .int .i64 (d a)] ++ lb) W fun r w' => r = .returned (.int .i64 (cf (d c) (d a))) ∧ Below wr.heap.size wr w') :=
        Lib.hid fun W hb => (HC.out W (d c) (d a) (HO.out _ (by omega)) (HO.out _ (by omega)) (HM.out.trans (Below.mut hb _) fun _ e => .inl e)).mono fun _ _ q => ⟨q.1, hb.trans (q.2.mono hb.size)⟩
      have HKp := Lib.hid (fun (W : World) (hb : Below wr.heap.size wr W) => HI.out.keep (hb.block g HI.out.lt))
      have HCd := Lib.hid (HCf.out (d c) (d a))
      obtain ⟨z, hz⟩ : ∃ z, cf (d c) (d a) = z := ⟨_, rfl⟩
      rw [hz] at HCb HCd
      clear hz
      refine wp_region_classJ (C := fun w' => Below wr.heap.size wr w') (by kernel_rfl) (by kernel_rfl) (Below.refl _ _).drew ?_
      repeat (quiet_step (first
        | (intro hw; with_reducible exact HCb.out _ hw)
        | (intro _; with_reducible rfl)
        | (intro _; with_reducible exact ⟨rfl, rfl⟩)
        | (intro hw; obtain ⟨c1, c2⟩ := HCl.out _ hw; go_simp; with_reducible exact ⟨rfl, rfl⟩)
        | (intro hw; obtain ⟨c1, c2⟩ := HCl.out _ hw; go_simp; with_reducible rfl)))
      refine wpQuiet_nil ?_
      intro w8 hb8
      have HI8 := Lib.hid (HKp.out _ hb8)
      have HM8 := Lib.hid (HM.out.trans (Below.mut hb8 _) (fun _ e => .inl e))
      clear hb8 HCl HCb HKp
      by_cases hz0 : z < 0
      · have hz1 : decide (z < 0) = true := by simpa using hz0
        have HX2 := Lib.hid (show c + 1 = m ∨ key (d (c + 1 - 1)) < key (d a) from .inr (HCd.out.1 hz0))
        rw [hz1]
        go_wp2
        go_roundg (gk - 1)
        case measure => omega
        case rel => exact ⟨c + 1, y, by go_num, rfl, by omega, by omega, h3, by omega, HX2.out, HY.out, HI8.out, HM8.out⟩
      · have hz1 : decide (z < 0) = false := by simpa using hz0
        have HY2 := Lib.hid (show c = b ∨ ¬ key (d c) < key (d a) from .inr fun q => hz0 (HCd.out.2 q))
        rw [hz1]
        go_wp2
        go_roundg (gk - 1)
        case measure => omega
        case rel => exact ⟨x, c, rfl, rfl, h1, m1, by omega, by omega, HX.out, HY2.out, HI8.out, HM8.out⟩
    · have hlt : decide ((x : Int) < (y : Int)) = false := by simpa using hxy
      have e : y = x := by omega
      subst e
      have HFin := Lib.hid (And.intro (brF_perm d (a := a) (b := b) (k := y - 1) (by omega) (by omega)) (one_left (i := y) (by rw [← HMe.out]; exact HT.out) (by rw [← HMe.out]; exact h1) h3 (by rw [← HMe.out]; exact HX.out) HY.out))
      clear HX HY
      go_wp2
      go_loopg [13] (y - 1 - a) (fun q i wr => ∃ k : Nat, i = .int .i64 (k : Nat) ∧ a ≤ k ∧ k ≤ y - 1 ∧ y - 1 ≤ k + q ∧ IntsAt wr g len (brF d a k) ∧ Mut (fun k => k = g) w wr)
      case atStart => exact ⟨a, rfl, Nat.le_refl _, by omega, by omega, HI.out.eq fun i _ => (brF_start d a i).symm, HM.out⟩
      case round =>
        obtain ⟨k, rfl, k1, k2, k3, hi2, hm2⟩ := hrel
        have HI2 := Lib.hid hi2
        have HM2 := Lib.hid hm2
        clear hi2 hm2
        by_cases hk : k < y - 1
        · have hlt2 : decide ((k : Int) < (y : Int) - 1) = true := by simpa using (by omega : (k : Int) < (y : Int) - 1)
          have c1 := HI2.out.cell (i := k) (by omega)
          have c2 := HI2.out.cell (i := k + 1) (by omega)
          have f1 := HI2.out.frozen k
          have f2 := HI2.out.frozen (k + 1)
          have HS := Lib.hid (((HI2.out.set k (brF d a k (k + 1))).set (k + 1) (brF d a k k)).eq fun i _ => brF_step d k1 i)
          generalize brF d a k k = u at *
          generalize brF d a k (k + 1) = v at *
          go_wp2
          go_region
          go_wp2
          go_roundg (gk - 1)
          case measure => omega
          case rel => exact ⟨k + 1, by go_num, by omega, by omega, by omega, HS.out, HM2.out.trans (mut_drewI ((mut_setI _ g k (.int .i64 v)).trans (mut_setI _ g (k + 1) (.int .i64 u)) (fun _ e => .inl e))) (fun _ e => .inl e)⟩
        · have hlt2 : decide ((k : Int) < (y : Int) - 1) = false := by simpa using (by omega : (y : Int) - 1 ≤ (k : Int))
          have e : k = y - 1 := by omega
          subst e
          go_wp2
          exact bodyPost_ret (v := .tuple #[]) (by simp [results, Try.results56, go_sem]) rfl ⟨rfl, ⟨_, HI2.out, HFin.out.1, HFin.out.2⟩, HM2.out⟩

set_option maxRecDepth 100000 in
set_option maxHeartbeats 8000000 in
theorem symLast_any (gf : Nat) (lb : Array Value) (key : Int → Int) (cf : Int → Int → Int) (ok : Int → Prop) (g len cap a m b : Nat) (d : Nat → Int) (w : World) (h : IntsAt w g len d) (hc : CmpI gf lb key cf ok g w) (hme : b = m + 1) (ham : a + 1 < m) (hb : b ≤ len) (hl : len ≤ 1000000) (ho : ∀ i, i < len → ok (d i)) (ht : TwoK key d a m b) :
    Calls Try.prog 56 #[.slice (some ⟨g, 0, none⟩) len cap, .int .i64 (a : Nat), .int .i64 (m : Nat), .int .i64 (b : Nat), .func (.func gf) #[] lb] w fun r w' => r = .returned (.tuple #[]) ∧ (∃ e, IntsAt w' g len e ∧ PermO d e a b ∧ SortK key e a b) ∧ Mut (fun k => k = g) w w' := by
  have H0 := Lib.hid h
  have HC := Lib.hid hc.2.2
  have HCf := Lib.hid hc.1
  have eg := hc.2.1
  have HO := Lib.hid ho
  have HT := Lib.hid ht
  have d1 : (((m : Int) - (a : Int)) == 1) = false := by rw [beq_eq_false_iff_ne]; omega
  have d2 : (((b : Int) - (m : Int)) == 1) = true := by rw [beq_iff_eq]; omega
  have hmb : m < b := by omega
  have HMe := Lib.hid hme
  clear h ho ht hc hme
  go_enter Try.func56, Try.ntmps56
  go_wp2
  go_loopg [14, 15, 16] (m - a) (fun q i j _ wr => ∃ (x y : Nat), i = .int .i64 (x : Nat) ∧ j = .int .i64 (y : Nat) ∧ a ≤ x ∧ x ≤ y ∧ y ≤ m ∧ y ≤ x + q ∧ (x = a ∨ ¬ key (d m) < key (d (x - 1))) ∧ (y = m ∨ key (d m) < key (d y)) ∧ IntsAt wr g len d ∧ Mut (fun k => k = g) w wr)
  case atStart => exact ⟨a, m, rfl, rfl, Nat.le_refl _, by omega, Nat.le_refl _, by omega, .inl rfl, .inl rfl, H0.out, Mut.refl _ _⟩
  case round =>
    obtain ⟨x, y, rfl, rfl, h1, h2, h3, hq, hx, hy, hi, hm⟩ := hrel
    have HI := Lib.hid hi
    have HM := Lib.hid hm
    have HX := Lib.hid hx
    have HY := Lib.hid hy
    clear hi hm hx hy
    by_cases hxy : x < y
    · have hlt : decide ((x : Int) < (y : Int)) = true := by simpa using hxy
      obtain ⟨c, hm, m1, m2⟩ : ∃ c : Nat, ((x : Int) + (y : Int)) / 2 = (c : Int) ∧ x ≤ c ∧ c < y := ⟨(x + y) / 2, by omega, by omega, by omega⟩
      go_wp2
      try rw [hm]
      clear hm
      have q1 : (c : Int) < (len : Int) := by omega
      have q2 : (m : Int) < (len : Int) := by omega
      have q3 : c < len := by omega
      have q4 : m < len := by omega
      have HCl := Lib.hid (fun (W : World) (hb : Below wr.heap.size wr W) => And.intro ((HI.out.keep (hb.block g HI.out.lt)).cell (i := m) (by omega)) ((HI.out.keep (hb.block g HI.out.lt)).cell (i := c) (by omega)))
      have HCb : Hid (∀ W : World, Below wr.heap.size wr W → Calls Try.prog gf (#[.int .i64 (d m), .int .i64 (d c)] ++ lb) W fun r w' => r = .returned (.int .i64 (cf (d m) (d c))) ∧ Below wr.heap.size wr w') :=
        Lib.hid fun W hb => (HC.out W (d m) (d c) (HO.out _ (by omega)) (HO.out _ (by omega)) (HM.out.trans (Below.mut hb _) fun _ e => .inl e)).mono fun _ _ q => ⟨q.1, hb.trans (q.2.mono hb.size)⟩
      have HKp := Lib.hid (fun (W : World) (hb : Below wr.heap.size wr W) => HI.out.keep (hb.block g HI.out.lt))
      have HCd := Lib.hid (HCf.out (d m) (d c))
      obtain ⟨z, hz⟩ : ∃ z, cf (d m) (d c) = z := ⟨_, rfl⟩
      rw [hz] at HCb HCd
      clear hz
      refine wp_region_classJ (C := fun w' => Below wr.heap.size wr w') (by kernel_rfl) (by kernel_rfl) (Below.refl _ _).drew ?_
      repeat (quiet_step (first
        | (intro hw; with_reducible exact HCb.out _ hw)
        | (intro _; with_reducible rfl)
        | (intro _; with_reducible exact ⟨rfl, rfl⟩)
        | (intro hw; obtain ⟨c1, c2⟩ := HCl.out _ hw; go_simp; with_reducible exact ⟨rfl, rfl⟩)
        | (intro hw; obtain ⟨c1, c2⟩ := HCl.out _ hw; go_simp; with_reducible rfl)))
      refine wpQuiet_nil ?_
      intro w8 hb8
      have HI8 := Lib.hid (HKp.out _ hb8)
      have HM8 := Lib.hid (HM.out.trans (Below.mut hb8 _) (fun _ e => .inl e))
      clear hb8 HCl HCb HKp
      by_cases hz0 : z < 0
      · have hz1 : decide (z < 0) = true := by simpa using hz0
        have HY2 := Lib.hid (show c = m ∨ key (d m) < key (d c) from .inr (HCd.out.1 hz0))
        rw [hz1]
        go_wp2
        go_roundg (gk - 1)
        case measure => omega
        case rel => exact ⟨x, c, rfl, rfl, h1, m1, by omega, by omega, HX.out, HY2.out, HI8.out, HM8.out⟩
      · have hz1 : decide (z < 0) = false := by simpa using hz0
        have HX2 := Lib.hid (show c + 1 = a ∨ ¬ key (d m) < key (d (c + 1 - 1)) from .inr fun q => hz0 (HCd.out.2 q))
        rw [hz1]
        go_wp2
        go_roundg (gk - 1)
        case measure => omega
        case rel => exact ⟨c + 1, y, by go_num, rfl, by omega, by omega, h3, by omega, HX2.out, HY.out, HI8.out, HM8.out⟩
    · have hlt : decide ((x : Int) < (y : Int)) = false := by simpa using hxy
      have e : y = x := by omega
      subst e
      have HFin := Lib.hid (And.intro (show PermO d (brB d m y) a b from HMe.out ▸ brB_perm d (a := a) (m := m) (k := y) (by omega) h3) (show SortK key (brB d m y) a b from HMe.out ▸ one_right (i := y) (by rw [← HMe.out]; exact HT.out) h1 h3 HX.out HY.out))
      clear HX HY
      go_wp2
      go_loopg [17] (m - y) (fun q i wr => ∃ k : Nat, i = .int .i64 (k : Nat) ∧ y ≤ k ∧ k ≤ m ∧ k ≤ y + q ∧ IntsAt wr g len (brB d m k) ∧ Mut (fun k => k = g) w wr)
      case atStart => exact ⟨m, rfl, h3, Nat.le_refl _, by omega, HI.out.eq fun i _ => (brB_start d m i).symm, HM.out⟩
      case round =>
        obtain ⟨k, rfl, k1, k2, k3, hi2, hm2⟩ := hrel
        have HI2 := Lib.hid hi2
        have HM2 := Lib.hid hm2
        clear hi2 hm2
        by_cases hk : y < k
        · obtain ⟨j, rfl⟩ : ∃ j, k = j + 1 := ⟨k - 1, by omega⟩
          have hlt2 : decide ((j : Int) + 1 > (y : Int)) = true := by simpa using (by omega : (y : Int) < (j : Int) + 1)
          have hlt3 : decide (((j + 1 : Nat) : Int) > (y : Int)) = true := by simpa using (by omega : (y : Int) < (j : Int) + 1)
          have c1 := HI2.out.cell (i := j) (by omega)
          have c2 := HI2.out.cell (i := j + 1) (by omega)
          have f1 := HI2.out.frozen j
          have f2 := HI2.out.frozen (j + 1)
          have HS := Lib.hid (((HI2.out.set (j + 1) (brB d m (j + 1) j)).set j (brB d m (j + 1) (j + 1))).eq fun i _ => brB_step d k2 i)
          have q1 : (j : Int) < (len : Int) := by omega
          have q2 : (j : Int) + 1 < (len : Int) := by omega
          have q3 : j < len := by omega
          have q5 : j + 1 < len := by omega
          generalize brB d m (j + 1) j = u at *
          generalize brB d m (j + 1) (j + 1) = v at *
          go_wp2
          go_region
          go_wp2
          go_roundg (gk - 1)
          case measure => omega
          case rel => exact ⟨j, by go_num, by omega, by omega, by omega, HS.out, HM2.out.trans (mut_drewI ((mut_setI _ g (j + 1) (.int .i64 u)).trans (mut_setI _ g j (.int .i64 v)) (fun _ e => .inl e))) (fun _ e => .inl e)⟩
        · have hlt2 : decide ((k : Int) > (y : Int)) = false := by simpa using (by omega : (k : Int) ≤ (y : Int))
          have e : k = y := by omega
          subst e
          go_wp2
          exact bodyPost_ret (v := .tuple #[]) (by simp [results, Try.results56, go_sem]) rfl ⟨rfl, ⟨_, HI2.out, HFin.out.1, HFin.out.2⟩, HM2.out⟩
end Go.Proofs.Ytfdiidhilonkoaa
