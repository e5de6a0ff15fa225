import Derived.Test.YtfdiidhilonkoaaZC10
import Derived.Laws.Cover1
import Derived.StillTailTactics
import Derived.Shelf.Abstract
set_option linter.unusedVariables false
/-
  slices.insertionSortCmpFunc of ints that rise at first: sorted by a key, of equal ones the lesser number ahead.
-/
namespace Go.Proofs.Ytfdiidhilonkoaa
open Go.RowKit

/-- By a key, then by number. -/
def ltK (key : Int → Int) (x y : Int) : Prop := key x < key y ∨ (key x = key y ∧ x < y)
theorem ltK_trans {key : Int → Int} {x y z : Int} (h : ltK key x y) (k : ltK key y z) : ltK key x z := by
  unfold ltK at *
  omega
/-- What a comparison tells: below 0 just where the key is less; the row at g may turn meanwhile. -/
def CmpI (gf : Nat) (lb : Array Value) (key : Int → Int) (cf : Int → Int → Int) (ok : Int → Prop) (g : Nat) (w : World) : Prop :=
  (∀ x y, cf x y < 0 ↔ key x < key y) ∧ (∀ args W, (callFunc gf args).run Try.prog W = .ok (.enter gf args) W) ∧
  ∀ (W : World) (x y : Int), ok x → ok y → Mut (fun k => k = g) w W → Calls Try.prog gf (#[.int .i64 x, .int .i64 y] ++ lb) W fun r w' => r = .returned (.int .i64 (cf x y)) ∧ Below W.heap.size W w'
theorem CmpI.from {gf : Nat} {lb : Array Value} {key : Int → Int} {cf : Int → Int → Int} {ok : Int → Prop} {g : Nat} {w w' : World} (h : CmpI gf lb key cf ok g w) (hm : Mut (fun k => k = g) w w') : CmpI gf lb key cf ok g w' :=
  ⟨h.1, h.2.1, fun W x y hx hy hW => h.2.2 W x y hx hy (hm.trans hW fun _ e => .inl e)⟩
/-- e has from a up to b what d has there, in another order. -/
def PermO (d e : Nat → Int) (a b : Nat) : Prop := ∃ π : Nat → Nat, (∀ k, e k = d (π k)) ∧ (∀ i j, π i = π j → i = j) ∧ (∀ k, ¬ (a ≤ k ∧ k < b) → π k = k) ∧ ∀ k, a ≤ k → k < b → a ≤ π k ∧ π k < b
theorem PermO.refl (d : Nat → Int) (a b : Nat) : PermO d d a b := ⟨id, fun _ => rfl, fun _ _ h => h, fun _ _ => rfl, fun _ h1 h2 => ⟨h1, h2⟩⟩
theorem PermO.trans {d e f : Nat → Int} {a b : Nat} (h : PermO d e a b) (k : PermO e f a b) : PermO d f a b := by
  obtain ⟨p, p1, p2, p3, p4⟩ := h
  obtain ⟨q, q1, q2, q3, q4⟩ := k
  exact ⟨fun k => p (q k), fun k => by rw [q1, p1], fun i j e => q2 _ _ (p2 _ _ e), fun k hk => by show p (q k) = k; rw [q3 k hk, p3 k hk], fun k h1 h2 => p4 _ (q4 k h1 h2).1 (q4 k h1 h2).2⟩
theorem PermO.wide {d e : Nat → Int} {a b a' b' : Nat} (h : PermO d e a b) (ha : a' ≤ a) (hb : b ≤ b') : PermO d e a' b' := by
  obtain ⟨p, p1, p2, p3, p4⟩ := h
  refine ⟨p, p1, p2, fun k hk => p3 k (by omega), fun k h1 h2 => ?_⟩
  by_cases hk : a ≤ k ∧ k < b
  · have := p4 k hk.1 hk.2
    omega
  · rw [p3 k hk]
    exact ⟨h1, h2⟩
theorem PermO.out {d e : Nat → Int} {a b : Nat} (h : PermO d e a b) {k : Nat} (hk : ¬ (a ≤ k ∧ k < b)) : e k = d k := by
  obtain ⟨p, p1, p2, p3, p4⟩ := h
  rw [p1, p3 k hk]
theorem PermO.in_ {d e : Nat → Int} {a b : Nat} (h : PermO d e a b) {k : Nat} (h1 : a ≤ k) (h2 : k < b) : ∃ j, a ≤ j ∧ j < b ∧ e k = d j := by
  obtain ⟨p, p1, p2, p3, p4⟩ := h
  exact ⟨p k, (p4 k h1 h2).1, (p4 k h1 h2).2, p1 k⟩
/-- Two are swapped. -/
def swpF (d : Nat → Int) (i j : Nat) : Nat → Int := updI (updI d i (d j)) j (d i)
def trpO (i j k : Nat) : Nat := if k = j then i else if k = i then j else k
theorem trp_inj {i j x y : Nat} (h : trpO i j x = trpO i j y) : x = y := by
  unfold trpO at h
  repeat' split at h
  all_goals omega
theorem trp_in {a b i j : Nat} (hi : a ≤ i ∧ i < b) (hj : a ≤ j ∧ j < b) (k : Nat) (h1 : a ≤ k) (h2 : k < b) : a ≤ trpO i j k ∧ trpO i j k < b := by
  unfold trpO
  repeat' split
  all_goals omega
theorem trp_out {a b i j : Nat} (hi : a ≤ i ∧ i < b) (hj : a ≤ j ∧ j < b) (k : Nat) (h : ¬ (a ≤ k ∧ k < b)) : trpO i j k = k := by
  unfold trpO
  repeat' split
  all_goals omega
theorem perm_swp (d : Nat → Int) {a b i j : Nat} (hi : a ≤ i ∧ i < b) (hj : a ≤ j ∧ j < b) : PermO d (swpF d i j) a b :=
  ⟨trpO i j, fun k => by
    unfold swpF updI trpO
    repeat' split
    all_goals first | rfl | (exfalso; omega), fun _ _ h => trp_inj h, trp_out hi hj, trp_in hi hj⟩
def SortK (key : Int → Int) (d : Nat → Int) (a b : Nat) : Prop := ∀ i j, a ≤ i → i < j → j < b → ltK key (d i) (d j)
/-- Where one stands that is brought to its place: j. -/
structure InsO (key : Int → Int) (d : Nat → Int) (a i j : Nat) : Prop where
  le : a ≤ j ∧ j ≤ i
  rest : ∀ p q, a ≤ p → p < q → q ≤ i → p ≠ j → q ≠ j → ltK key (d p) (d q)
  behind : ∀ q, j < q → q ≤ i → ltK key (d j) (d q)
  most : ∀ p, a ≤ p → p ≤ i → p ≠ j → d p < d j
theorem InsO.step {key : Int → Int} {d : Nat → Int} {a i j : Nat} (h : InsO key d a i j) (hj : a < j) (hk : key (d j) < key (d (j - 1))) : InsO key (swpF d j (j - 1)) a i (j - 1) := by
  obtain ⟨⟨l1, l2⟩, h1, h2, h3⟩ := h
  have e1 : swpF d j (j - 1) (j - 1) = d j := by unfold swpF updI; rw [if_pos rfl]
  have e2 : swpF d j (j - 1) j = d (j - 1) := by unfold swpF updI; rw [if_neg (by omega), if_pos rfl]
  have e3 : ∀ k, k ≠ j → k ≠ j - 1 → swpF d j (j - 1) k = d k := fun k q1 q2 => by unfold swpF updI; rw [if_neg q2, if_neg q1]
  refine ⟨⟨by omega, by omega⟩, fun p q a1 a2 a3 a4 a5 => ?_, fun q a1 a2 => ?_, fun p a1 a2 a3 => ?_⟩
  · by_cases p1 : p = j
    · subst p1
      rw [e2, e3 q (by omega) a5]
      exact h1 _ _ (by omega) (by omega) a3 (by omega) (by omega)
    · by_cases q1 : q = j
      · subst q1
        rw [e2, e3 p p1 a4]
        exact h1 _ _ a1 (by omega) (by omega) (by omega) (by omega)
      · rw [e3 p p1 a4, e3 q q1 a5]
        exact h1 _ _ a1 a2 a3 p1 q1
  · rw [e1]
    by_cases q1 : q = j
    · subst q1
      rw [e2]
      exact .inl hk
    · rw [e3 q q1 (by omega)]
      exact h2 q (by omega) a2
  · rw [e1]
    by_cases p1 : p = j
    · subst p1
      rw [e2]
      exact h3 _ (by omega) (by omega) (by omega)
    · rw [e3 p p1 a3]
      exact h3 p a1 a2 p1
theorem InsO.done {key : Int → Int} {d : Nat → Int} {a i j : Nat} (h : InsO key d a i j) (hk : a < j → ¬ key (d j) < key (d (j - 1))) : SortK key d a (i + 1) := by
  obtain ⟨⟨l1, l2⟩, h1, h2, h3⟩ := h
  have hp : ∀ p, a ≤ p → p < j → ltK key (d p) (d j) := fun p a1 a2 => by
    have e1 : ltK key (d (j - 1)) (d j) := by
      have := hk (by omega)
      have := h3 (j - 1) (by omega) (by omega) (by omega)
      unfold ltK
      omega
    by_cases e : p = j - 1
    · rw [e]; exact e1
    · exact ltK_trans (h1 p (j - 1) a1 (by omega) (by omega) (by omega) (by omega)) e1
  intro p q a1 a2 a3
  by_cases e1 : p = j
  · rw [e1]; exact h2 q (by omega) (by omega)
  · by_cases e2 : q = j
    · rw [e2]; exact hp p a1 (by omega)
    · exact h1 p q a1 a2 (by omega) e1 e2
theorem ins_start {key : Int → Int} {d : Nat → Int} {a i : Nat} (ha : a ≤ i) (hs : SortK key d a i) (hm : ∀ p, a ≤ p → p < i → d p < d i) : InsO key d a i i :=
  ⟨⟨ha, Nat.le_refl _⟩, fun p q a1 a2 a3 a4 a5 => hs p q a1 a2 (by omega), fun q a1 a2 => absurd a1 (by omega), fun p a1 a2 a3 => hm p a1 (by omega)⟩
theorem okO {d e : Nat → Int} {a b len : Nat} {ok : Int → Prop} (h : PermO d e a b) (hb : b ≤ len) (ho : ∀ i, i < len → ok (d i)) : ∀ i, i < len → ok (e i) := fun i hi => by
  by_cases hk : a ≤ i ∧ i < b
  · obtain ⟨j, _, hj, ej⟩ := h.in_ hk.1 hk.2
    rw [ej]; exact ho j (by omega)
  · rw [h.out hk]; exact ho i hi

set_option maxRecDepth 100000 in
set_option maxHeartbeats 8000000 in
theorem insertion_any (gf : Nat) (lb : Array Value) (key : Int → Int) (cf : Int → Int → Int) (ok : Int → Prop) (g len cap a b : Nat) (d : Nat → Int) (w : World) (h : IntsAt w g len d) (hc : CmpI gf lb key cf ok g w) (hab : a ≤ b) (hb : b ≤ len) (hl : len ≤ 1000000) (ho : ∀ i, i < len → ok (d i)) (hr : ∀ i j, a ≤ i → i < j → j < b → d i < d j) :
    Calls Try.prog 55 #[.slice (some ⟨g, 0, none⟩) len cap, .int .i64 (a : Nat), .int .i64 (b : Nat), .func (.func gf) #[] lb] w fun r w' => r = .returned (.tuple #[]) ∧ (∃ e, IntsAt w' g len e ∧ PermO d e a b ∧ SortK key e a b) ∧ Mut (fun k => k = g) w w' := by
  have H0 := Lib.hid h
  have HC := Lib.hid hc.2.2
  have HCf := Lib.hid hc.1
  have eg := hc.2.1
  have HO := Lib.hid ho
  have HR := Lib.hid hr
  clear h ho hr hc
  go_enter Try.func55, Try.ntmps55
  go_wp2
  go_loopg [8, 9] (b + 1 - (a + 1)) (fun q i _ wr => ∃ (x : Nat) (e : Nat → Int), i = .int .i64 (x : Nat) ∧ a < x ∧ (x ≤ b ∨ x = a + 1) ∧ b + 1 ≤ x + q ∧ IntsAt wr g len e ∧ PermO d e a (min x b) ∧ SortK key e a (min x b) ∧ Mut (fun k => k = g) w wr)
  case atStart => exact ⟨a + 1, d, by go_num, by omega, .inr rfl, by omega, H0.out, PermO.refl _ _ _, fun i j a1 a2 a3 => absurd a3 (by omega), Mut.refl _ _⟩
  case round =>
    obtain ⟨x, e, rfl, hax, hxb, hq, hi, hp, hs, hm⟩ := hrel
    have HI := Lib.hid hi
    have HP := Lib.hid hp
    have HS := Lib.hid hs
    have HM := Lib.hid hm
    obtain ⟨g0, hg0⟩ : ∃ g0, g0 = gk := ⟨_, rfl⟩
    rw [← hg0] at hq
    clear hi hp hs hm
    by_cases hx : x < b
    · have hlt : decide ((x : Int) < (b : Int)) = true := by simpa using hx
      have hmin : min x b = x := by omega
      rw [hmin] at HP HS
      have HIns := Lib.hid (ins_start (key := key) (d := e) (Nat.le_of_lt hax) HS.out fun p a1 a2 => by
        obtain ⟨j, j1, j2, ej⟩ := HP.out.in_ a1 a2
        rw [ej, HP.out.out (k := x) (by omega)]
        exact HR.out j x j1 j2 hx)
      go_wp2
      go_loopg [9] (x + 1) (fun q i wr => ∃ (j : Nat) (f : Nat → Int), i = .int .i64 (j : Nat) ∧ j + 1 ≤ q ∧ InsO key f a x j ∧ PermO d f a (x + 1) ∧ IntsAt wr g len f ∧ Mut (fun k => k = g) w wr)
      case atStart => exact ⟨x, e, rfl, Nat.le_refl _, HIns.out, HP.out.wide (Nat.le_refl _) (by omega), HI.out, HM.out⟩
      case round =>
        obtain ⟨j, f, rfl, hq2, hin, hp2, hi2, hm2⟩ := hrel
        have HI2 := Lib.hid hi2
        have HIn2 := Lib.hid hin
        have HP2 := Lib.hid hp2
        have HM2 := Lib.hid hm2
        have hjx := hin.le
        clear hi2 hin hp2 hm2
        by_cases hj : a < j
        · obtain ⟨j1, rfl⟩ : ∃ j1, j = j1 + 1 := ⟨j - 1, by omega⟩
          have hgt : decide (((j1 + 1 : Nat) : Int) > (a : Int)) = true := by simpa using (by omega : (a : Int) < (j1 : Int) + 1)
          have hgt2 : decide ((j1 : Int) + 1 > (a : Int)) = true := by simpa using (by omega : (a : Int) < (j1 : Int) + 1)
          have HCall := Lib.hid (fun (W : World) (hW : Mut (fun k => k = g) wr W) => HC.out W (f (j1 + 1)) (f j1) (okO HP2.out (by omega) HO.out _ (by omega)) (okO HP2.out (by omega) HO.out _ (by omega)) (HM2.out.trans hW fun _ e => .inl e))
          have HCl := Lib.hid (fun (W : World) (hb : Below wr.heap.size wr W) => And.intro ((HI2.out.keep (hb.block g HI2.out.lt)).cell (i := j1 + 1) (by omega)) ((HI2.out.keep (hb.block g HI2.out.lt)).cell (i := j1) (by omega)))
          have HCb : Hid (∀ W : World, Below wr.heap.size wr W → Calls Try.prog gf (#[.int .i64 (f (j1 + 1)), .int .i64 (f j1)] ++ lb) W fun r w' => r = .returned (.int .i64 (cf (f (j1 + 1)) (f j1))) ∧ Below wr.heap.size wr w') :=
            Lib.hid fun W hb => (HCall.out W (Below.mut hb _)).mono fun _ _ q => ⟨q.1, hb.trans (q.2.mono hb.size)⟩
          have HSw := Lib.hid (show ∀ W : World, IntsAt W g len f → IntsAt ((W.setCell ⟨g, j1 + 1, none⟩ (.int .i64 (f j1))).setCell ⟨g, j1, none⟩ (.int .i64 (f (j1 + 1)))) g len (swpF f (j1 + 1) j1) from fun W h => (h.set (j1 + 1) _).set j1 _)
          have HKp := Lib.hid (fun (W : World) (hb : Below wr.heap.size wr W) => HI2.out.keep (hb.block g HI2.out.lt))
          have HStep := Lib.hid (fun (h : key (f (j1 + 1)) < key (f j1)) => And.intro (show InsO key (swpF f (j1 + 1) j1) a x j1 from HIn2.out.step hj h) (HP2.out.trans (perm_swp f (a := a) (b := x + 1) (i := j1 + 1) (j := j1) ⟨by omega, by omega⟩ ⟨by omega, by omega⟩)))
          have HDn := Lib.hid (fun (h : ¬ key (f (j1 + 1)) < key (f j1)) => HIn2.out.done (fun _ => h))
          have HCd := Lib.hid (HCf.out (f (j1 + 1)) (f j1))
          obtain ⟨z, hz⟩ : ∃ z, cf (f (j1 + 1)) (f j1) = z := ⟨_, rfl⟩
          rw [hz] at HCb HCd
          clear hz HCall
          have q0 : (0 : Int) ≤ (j1 : Int) + 1 := by omega
          have q1 : (j1 : Int) + 1 < (len : Int) := by omega
          have q2 : (j1 : Int) < (len : Int) := by omega
          have q4 : IntKind.i64.wrap (j1 : Int) = (j1 : Int) := IntWalk.i64_in _ (by omega)
          have q5 : j1 + 1 < len := by omega
          have q6 : j1 < len := by omega
          go_wp2
          refine wp_region_classJ (C := fun w' => Below wr.heap.size wr w') (by kernel_rfl) (by kernel_rfl) (Below.refl _ _).drew ?_
          repeat (quiet_step (first
            | (intro hw; with_reducible exact HCb.out _ hw)
            | (intro _; with_reducible rfl)
            | (intro _; with_reducible exact ⟨rfl, rfl⟩)
            | (intro hw; simp only [go_sem, q4]; with_reducible exact ⟨rfl, rfl⟩)
            | (intro hw; obtain ⟨c1, c2⟩ := HCl.out _ hw; go_simp; with_reducible exact ⟨rfl, rfl⟩)
            | (intro hw; obtain ⟨c1, c2⟩ := HCl.out _ hw; go_simp; with_reducible rfl)))
          refine wpQuiet_nil ?_
          intro w8 hb8
          have hi8 := HKp.out _ hb8
          have HM8 := Lib.hid (HM2.out.trans (Below.mut hb8 _) (fun _ e => .inl e))
          have HI8 := Lib.hid hi8
          clear hb8
          have c1 := hi8.cell (i := j1 + 1) (by omega)
          have c2 := hi8.cell (i := j1) (by omega)
          have f1 := hi8.frozen (j1 + 1)
          have f2 := hi8.frozen j1
          have HS8 := Lib.hid (HSw.out _ hi8)
          clear hi8 HCb HCl
          by_cases hz0 : z < 0
          · obtain ⟨hst, hpp⟩ := HStep.out (HCd.out.1 hz0)
            have HSt := Lib.hid hst
            have HPp := Lib.hid hpp
            have hz1 : decide (z < 0) = true := by simpa using hz0
            clear hst hpp HStep HDn
            rw [hz1]
            go_wp2
            go_region
            go_wp2
            go_roundg (gk - 1)
            case measure => omega
            case rel => exact ⟨j1, swpF f (j1 + 1) j1, by go_num, by omega, HSt.out, HPp.out, HS8.out, HM8.out.trans (mut_drewI ((mut_setI w8 g (j1 + 1) (.int .i64 (f j1))).trans (mut_setI _ g j1 (.int .i64 (f (j1 + 1)))) (fun _ e => .inl e))) (fun _ e => .inl e)⟩
          · have HDn2 := Lib.hid (HDn.out (by have := HCd.out; omega))
            have hz1 : decide (z < 0) = false := by simpa using hz0
            clear HStep HDn
            rw [hz1]
            go_wp2
            go_roundg (g0 - 1)
            case measure => omega
            case rel => exact ⟨x + 1, f, by go_num, by omega, by omega, by omega, HI8.out, by rw [show min (x + 1) b = x + 1 by omega]; exact HP2.out, by rw [show min (x + 1) b = x + 1 by omega]; exact HDn2.out, HM8.out⟩
        · have hgt : decide ((j : Int) > (a : Int)) = false := by simpa using hj
          have HDn := Lib.hid (HIn2.out.done (fun q => absurd q hj))
          go_wp2
          go_region
          go_wp2
          go_roundg (g0 - 1)
          case measure => omega
          case rel => exact ⟨x + 1, f, by go_num, by omega, by omega, by omega, HI2.out, by rw [show min (x + 1) b = x + 1 by omega]; exact HP2.out, by rw [show min (x + 1) b = x + 1 by omega]; exact HDn.out, mut_drewI HM2.out⟩
    · have hlt : decide ((x : Int) < (b : Int)) = false := by simpa using hx
      have HFin := Lib.hid (show PermO d e a b ∧ SortK key e a b from ⟨HP.out.wide (Nat.le_refl _) (by omega), fun i j a1 a2 a3 => HS.out i j a1 a2 (by omega)⟩)
      go_wp2
      exact bodyPost_end (v := .tuple #[]) (by simp [results, Try.results55, go_sem]) rfl ⟨rfl, ⟨e, HI.out, HFin.out⟩, HM.out⟩
end Go.Proofs.Ytfdiidhilonkoaa
