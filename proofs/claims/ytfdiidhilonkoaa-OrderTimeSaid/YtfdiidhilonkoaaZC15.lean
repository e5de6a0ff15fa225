import Derived.Test.YtfdiidhilonkoaaZC13
import Derived.Test.YtfdiidhilonkoaaZC10
set_option linter.unusedVariables false
/-
  slices.symMergeCmpFunc of ints: where both rows have more than one (B).
-/
namespace Go.Proofs.Ytfdiidhilonkoaa
open Go.RowKit

set_option maxRecDepth 100000 in
set_option maxHeartbeats 16000000 in
theorem symGenB_any (gf : Nat) (lb : Array Value) (key : Int → Int) (cf : Int → Int → Int) (ok : Int → Prop) (g len cap a m b : Nat) (d : Nat → Int) (w : World) (h : IntsAt w g len d) (hc : CmpI gf lb key cf ok g w) (ham : a + 1 < m) (hmb : m + 1 < b) (hside : m ≤ (a + b) / 2) (hb : b ≤ len) (hl : len ≤ 1000000) (ho : ∀ i, i < len → ok (d i)) (ht : TwoK key d a m b)
    (IH : ∀ (a' m' b' : Nat) (d' : Nat → Int) (w' : World), b' - a' < b - a → IntsAt w' g len d' → CmpI gf lb key cf ok g w' → a' < m' → m' < b' → b' ≤ len → (∀ i, i < len → ok (d' i)) → TwoK key d' a' m' b' →
      Calls Try.prog 56 #[.slice (some ⟨g, 0, none⟩) len cap, .int .i64 (a' : Nat), .int .i64 (m' : Nat), .int .i64 (b' : Nat), .func (.func gf) #[] lb] w' fun r w'' => r = .returned (.tuple #[]) ∧ (∃ e, IntsAt w'' g len e ∧ PermO d' e a' b' ∧ SortK key e a' b') ∧ Mut (fun k => k = g) w' w'') :
    Calls Try.prog 56 #[.slice (some ⟨g, 0, none⟩) len cap, .int .i64 (a : Nat), .int .i64 (m : Nat), .int .i64 (b : Nat), .func (.func gf) #[] lb] w fun r w' => r = .returned (.tuple #[]) ∧ (∃ e, IntsAt w' g len e ∧ PermO d e a b ∧ SortK key e a b) ∧ Mut (fun k => k = g) w w' := by
  have H0 := Lib.hid h
  have HC := Lib.hid hc.2.2
  have HCf := Lib.hid hc.1
  have eg := hc.2.1
  have HO := Lib.hid ho
  have HT := Lib.hid ht
  have hmid0 : (a + b) / 2 + (a + b) / 2 ≤ a + b ∧ a + b ≤ (a + b) / 2 + (a + b) / 2 + 1 := by omega
  have HIH := Lib.hid IH
  have HCI := Lib.hid hc
  have d1 : (((m : Int) - (a : Int)) == 1) = false := by rw [beq_eq_false_iff_ne]; omega
  have d2 : (((b : Int) - (m : Int)) == 1) = false := by rw [beq_eq_false_iff_ne]; omega
  obtain ⟨mid, hmid, k1, k2⟩ : ∃ c : Nat, ((a : Int) + (b : Int)) / 2 = (c : Int) ∧ a < c ∧ c < b := ⟨(a + b) / 2, by omega, by omega, by omega⟩
  have hmid2 : a + b = mid + mid ∨ a + b = mid + mid + 1 := by omega
  obtain ⟨P, hP⟩ : ∃ P : Nat, (mid : Int) + (m : Int) = (P : Int) + 1 := ⟨mid + m - 1, by omega⟩
  obtain ⟨s0, r0, hcase, f1, f2, f3, f4, f6, f7, f8⟩ : ∃ s0 r0 : Nat, ((mid < m ∧ (P : Int) + 1 - (b : Int) = (s0 : Int) ∧ r0 = mid) ∨ (m ≤ mid ∧ s0 = a ∧ r0 = m)) ∧ a ≤ s0 ∧ s0 ≤ r0 ∧ r0 ≤ m ∧ r0 ≤ mid ∧ P + 1 ≤ s0 + b ∧ (s0 = a ∨ P + 1 - s0 = b) ∧ (r0 = m ∨ P + 1 - r0 = m) := by
    by_cases hm : mid < m
    · exact ⟨P + 1 - b, mid, .inl ⟨hm, by omega, rfl⟩, by omega, by omega, by omega, by omega, by omega, by omega, by omega⟩
    · exact ⟨a, m, .inr ⟨by omega, rfl, rfl⟩, by omega, by omega, by omega, by omega, by omega, by omega, by omega⟩
  have HHi := Lib.hid (And.intro hmid2 (And.intro f7 f8))
  have bP : P + 1 < b + b := by omega
  have cP : P + 1 = mid + m := by omega
  have HcP := Lib.hid cP
  clear h ho ht hc IH hmid2 f7 f8 cP
  go_enter Try.func56, Try.ntmps56
  have hmm : (mid < m ∧ (P : Int) + 1 - (b : Int) = (s0 : Int) ∧ r0 = mid) ∨ (m ≤ mid ∧ s0 = a ∧ r0 = m) := hcase
  clear hcase
  have HFin : Hid (∀ (W : World) (s e : Nat) (f2 f3 : Nat → Int), PartK key d a m b s e mid → PermO (rotF d s m e) f2 a mid → SortK key f2 a mid → PermO f2 f3 mid b → SortK key f3 mid b → IntsAt W g len f3 → Mut (fun k => k = g) w W → (∃ e, IntsAt W g len e ∧ PermO d e a b ∧ SortK key e a b) ∧ Mut (fun k => k = g) w W) :=
    Lib.hid fun W s e f2 f3 hp p1 s1 p2 s2 hi hm => ⟨⟨f3, hi, (rot_perm d hp.le.1 hp.le.2.1 hp.le.2.2.1 hp.le.2.2.2.1).trans ((p1.wide (Nat.le_refl _) (by omega)).trans (p2.wide (by omega) (Nat.le_refl _))), whole_of (hp.cross HT.out) (by omega) (by omega) p1 p2 s1 s2⟩, hm⟩
  obtain ⟨hm, hs, hr⟩ : m ≤ mid ∧ s0 = a ∧ r0 = m := by rcases hmm with q | q <;> omega
  · have hgt : decide ((m : Int) > (mid : Int)) = false := by simpa using (by omega : (m : Int) ≤ (mid : Int))
    have hgt2 : decide (mid < m) = false := by simpa using hm
    have HStart := Lib.hid (And.intro hs hr)
    clear hs hr
    go_wp2
    go_loopg [20, 21, 23] b (fun q i j _ wr => ∃ (x y : Nat), i = .int .i64 (x : Nat) ∧ j = .int .i64 (y : Nat) ∧ s0 ≤ x ∧ x ≤ y ∧ y ≤ r0 ∧ y ≤ x + q ∧ (x = s0 ∨ ¬ key (d (P + 1 - x)) < key (d (x - 1))) ∧ (y = r0 ∨ key (d (P - y)) < key (d y)) ∧ IntsAt wr g len d ∧ Mut (fun k => k = g) w wr)
    case atStart =>
      have hs := HStart.out
      exact ⟨a, m, rfl, rfl, by omega, by omega, by omega, by omega, .inl hs.1.symm, .inl hs.2.symm, H0.out, Mut.refl _ _⟩
    case round =>
      obtain ⟨x, y, rfl, rfl, h1, h2, h3, hq, hx, hy, hi, hm2⟩ := hrel
      have HI := Lib.hid hi
      have HM := Lib.hid hm2
      have HX := Lib.hid hx
      have HY := Lib.hid hy
      clear hi hm2 hx hy
      by_cases hxy : x < y
      · have hlt : decide ((x : Int) < (y : Int)) = true := by simpa using hxy
        obtain ⟨c, hm, m1, m2⟩ : ∃ c : Nat, ((x : Int) + (y : Int)) / 2 = (c : Int) ∧ x ≤ c ∧ c < y := ⟨(x + y) / 2, by omega, by omega, by omega⟩
        go_wp2
        try rw [hm]
        clear hm
        obtain ⟨pc, hpc⟩ : ∃ pc : Nat, (P : Int) - (c : Int) = (pc : Int) := ⟨P - c, by omega⟩
        have HPc := Lib.hid (show pc = P - c by omega)
        have q1 : (c : Int) < (len : Int) := by omega
        have q2 : (pc : Int) < (len : Int) := by omega
        have q3 : c < len := by omega
        have q4 : pc < len := by omega
        have q5 : IntKind.i64.wrap ((P : Int) - (c : Int)) = (pc : Int) := by rw [hpc]; exact IntWalk.i64_in _ (by omega)
        have q6 : IntKind.i64.wrap (pc : Int) = (pc : Int) := IntWalk.i64_in _ (by omega)
        have HCl := Lib.hid (fun (W : World) (hb : Below wr.heap.size wr W) => And.intro ((HI.out.keep (hb.block g HI.out.lt)).cell (i := pc) (by omega)) ((HI.out.keep (hb.block g HI.out.lt)).cell (i := c) (by omega)))
        have HCb : Hid (∀ W : World, Below wr.heap.size wr W → Calls Try.prog gf (#[.int .i64 (d pc), .int .i64 (d c)] ++ lb) W fun r w' => r = .returned (.int .i64 (cf (d pc) (d c))) ∧ Below wr.heap.size wr w') :=
          Lib.hid fun W hb => (HC.out W (d pc) (d c) (HO.out _ (by omega)) (HO.out _ (by omega)) (HM.out.trans (Below.mut hb _) fun _ e => .inl e)).mono fun _ _ q => ⟨q.1, hb.trans (q.2.mono hb.size)⟩
        have HKp := Lib.hid (fun (W : World) (hb : Below wr.heap.size wr W) => HI.out.keep (hb.block g HI.out.lt))
        have HCd := Lib.hid (HCf.out (d pc) (d c))
        obtain ⟨z, hz⟩ : ∃ z, cf (d pc) (d c) = z := ⟨_, rfl⟩
        rw [hz] at HCb HCd
        clear hz
        refine wp_region_classJ (C := fun w' => Below wr.heap.size wr w') (by kernel_rfl) (by kernel_rfl) (Below.refl _ _).drew ?_
        repeat (quiet_step (first
          | (intro hw; with_reducible exact HCb.out _ hw)
          | (intro _; with_reducible rfl)
          | (intro hw; simp only [go_sem, q5]; with_reducible exact ⟨rfl, rfl⟩)
          | (intro _; with_reducible exact ⟨rfl, rfl⟩)
          | (intro hw; obtain ⟨c1, c2⟩ := HCl.out _ hw; go_simp; with_reducible exact ⟨rfl, rfl⟩)
          | (intro hw; obtain ⟨c1, c2⟩ := HCl.out _ hw; go_simp; with_reducible rfl)))
        refine wpQuiet_nil ?_
        intro w8 hb8
        have HI8 := Lib.hid (HKp.out _ hb8)
        have HM8 := Lib.hid (HM.out.trans (Below.mut hb8 _) (fun _ e => .inl e))
        clear hb8 HCl HCb HKp
        by_cases hz0 : z < 0
        · have hz1 : decide (z < 0) = true := by simpa using hz0
          have HY2 := Lib.hid (show c = r0 ∨ key (d (P - c)) < key (d c) from .inr (by rw [← HPc.out]; exact HCd.out.1 hz0))
          rw [hz1]
          go_wp2
          go_roundg (gk - 1)
          case measure => omega
          case rel => exact ⟨x, c, rfl, rfl, h1, m1, by omega, by omega, HX.out, HY2.out, HI8.out, HM8.out⟩
        · have hz1 : decide (z < 0) = false := by simpa using hz0
          have HX2 := Lib.hid (show c + 1 = s0 ∨ ¬ key (d (P + 1 - (c + 1))) < key (d (c + 1 - 1)) from .inr (by rw [show P + 1 - (c + 1) = pc by have := HPc.out; omega]; exact fun q => hz0 (HCd.out.2 q)))
          rw [hz1]
          go_wp2
          go_roundg (gk - 1)
          case measure => omega
          case rel => exact ⟨c + 1, y, by go_num, rfl, by omega, by omega, h3, by omega, HX2.out, HY.out, HI8.out, HM8.out⟩
      · have hlt : decide ((x : Int) < (y : Int)) = false := by simpa using hxy
        obtain ⟨s, rfl⟩ : ∃ s, x = s := ⟨x, rfl⟩
        have e0 : y = x := by omega
        subst e0
        obtain ⟨s, hsx⟩ : ∃ s, s = y := ⟨_, rfl⟩
        subst hsx
        obtain ⟨e, he⟩ : ∃ e : Nat, (P : Int) + 1 - (s : Int) = (e : Int) := ⟨P + 1 - s, by omega⟩
        have heN : e = P + 1 - s := by omega
        have HPart : Hid (PartK key d a m b s e mid) := Lib.hid (by
          have h9 := HcP.out
          have h10 := HHi.out
          refine ⟨by omega, ?_, ?_⟩
          · rcases HX.out with q | q
            · have := h10.2.1
              omega
            · right; right
              rw [heN]
              exact q
          · rcases HY.out with q | q
            · have := h10.2.2
              omega
            · right; right
              rw [show e - 1 = P - s by omega]
              exact q)
        have hle : a ≤ s ∧ s ≤ m ∧ m ≤ e ∧ e ≤ b := ⟨HPart.out.le.1, HPart.out.le.2.1, HPart.out.le.2.2.1, HPart.out.le.2.2.2.1⟩
        clear HX HY heN
        obtain ⟨RotS, hRot⟩ : ∃ S : World → Prop, ∀ W, S W ↔ (IntsAt W g len (rotF d s m e) ∧ Mut (fun k => k = g) w W) := ⟨_, fun _ => Iff.rfl⟩
        obtain ⟨OneS, hOne⟩ : ∃ S : World → Prop, ∀ W, S W ↔ ∃ f, IntsAt W g len f ∧ PermO (rotF d s m e) f a mid ∧ SortK key f a mid ∧ Mut (fun k => k = g) w W := ⟨_, fun _ => Iff.rfl⟩
        obtain ⟨FinS, hFinS⟩ : ∃ S : World → Prop, ∀ W, S W ↔ ((∃ e, IntsAt W g len e ∧ PermO d e a b ∧ SortK key e a b) ∧ Mut (fun k => k = g) w W) := ⟨_, fun _ => Iff.rfl⟩
        have hRok : ∀ i, i < len → ok (rotF d s m e i) := okO (rot_perm d hle.1 hle.2.1 hle.2.2.1 hle.2.2.2) hb HO.out
        have HNR := Lib.hid (fun (h : ¬ (s < m ∧ m < e)) => (hRot wr).2 ⟨HI.out.eq fun i _ => rot_none d h hle.2.1 hle.2.2.1 i, HM.out⟩)
        have HCR : Hid (s < m → m < e → Calls Try.prog 63 #[.slice (some ⟨g, 0, none⟩) len cap, .int .i64 (s : Nat), .int .i64 (m : Nat), .int .i64 (e : Nat), .func (.func gf) #[] lb] wr fun r w' => r = .returned (.tuple #[]) ∧ RotS w') :=
          Lib.hid fun r1 r2 => (rotate_any g len cap s m e d (.func (.func gf) #[] lb) wr HI.out r1 r2 (by omega) hl).mono fun _ _ ⟨e1, e2, e3⟩ => ⟨e1, (hRot _).2 ⟨e2, HM.out.trans e3 fun _ e => .inl e⟩⟩
        have HC1 : Hid (a < s → s < mid → ∀ W : World, RotS W → Calls Try.prog 56 #[.slice (some ⟨g, 0, none⟩) len cap, .int .i64 (a : Nat), .int .i64 (s : Nat), .int .i64 (mid : Nat), .func (.func gf) #[] lb] W fun r w' => r = .returned (.tuple #[]) ∧ OneS w') :=
          Lib.hid fun a1 a2 W hW => by
            obtain ⟨e1, e2⟩ := (hRot W).1 hW
            exact (HIH.out a s mid _ W (by omega) e1 (HCI.out.from e2) a1 a2 (by omega) hRok (HPart.out.one HT.out)).mono fun _ _ ⟨q1, ⟨f, q2, q3, q4⟩, q5⟩ => ⟨q1, (hOne _).2 ⟨f, q2, q3, q4, e2.trans q5 fun _ e => .inl e⟩⟩
        have HN1 : Hid (¬ (a < s ∧ s < mid) → ∀ W : World, RotS W → OneS W) := Lib.hid fun hn W hW => by
          obtain ⟨e1, e2⟩ := (hRot W).1 hW
          exact (hOne W).2 ⟨_, e1, PermO.refl _ _ _, (HPart.out.one HT.out).whole (by have := HPart.out.le; omega), e2⟩
        have hTwo : ∀ f, PermO (rotF d s m e) f a mid → TwoK key f mid e b := fun f hp => (HPart.out.two HT.out).eq (fun i i1 i2 => hp.out (by omega)) (by have := HPart.out.le; omega) (by have := HPart.out.le; omega)
        have HC2 : Hid (mid < e → e < b → ∀ W : World, OneS W → Calls Try.prog 56 #[.slice (some ⟨g, 0, none⟩) len cap, .int .i64 (mid : Nat), .int .i64 (e : Nat), .int .i64 (b : Nat), .func (.func gf) #[] lb] W fun r w' => r = .returned (.tuple #[]) ∧ FinS w') :=
          Lib.hid fun b1 b2 W hW => by
            obtain ⟨f, e1, e2, e3, e4⟩ := (hOne W).1 hW
            exact (HIH.out mid e b f W (by omega) e1 (HCI.out.from e4) b1 b2 hb (okO e2 (by omega) hRok) (hTwo f e2)).mono fun _ _ ⟨q1, ⟨f3, q2, q3, q4⟩, q5⟩ => ⟨q1, (hFinS _).2 (HFin.out _ s e f f3 HPart.out e2 e3 q3 q4 q2 (e4.trans q5 fun _ e => .inl e))⟩
        have HN2 : Hid (¬ (mid < e ∧ e < b) → ∀ W : World, OneS W → FinS W) := Lib.hid fun hn W hW => by
          obtain ⟨f, e1, e2, e3, e4⟩ := (hOne W).1 hW
          exact (hFinS W).2 (HFin.out W s e f f HPart.out e2 e3 (PermO.refl _ _ _) ((hTwo f e2).whole (by have := HPart.out.le; omega)) e1 e4)
        have HFS := Lib.hid (fun W => (hFinS W).1)
        clear hRot hOne hFinS hRok hTwo
        have cR : (s < m ∧ m < e) ∨ (¬ (s < m ∧ m < e)) := Classical.em _
        have c1 : (a < s ∧ s < mid) ∨ (¬ (a < s ∧ s < mid)) := Classical.em _
        have c2 : (mid < e ∧ e < b) ∨ (¬ (mid < e ∧ e < b)) := Classical.em _
        have HcR := Lib.hid cR
        have Hc1 := Lib.hid c1
        have Hc2 := Lib.hid c2
        clear cR c1 c2
        rcases HcR.out with hr | hr
        · have dR1 : decide ((s : Int) < (m : Int)) = true := by simpa using hr.1
          have dR2 : decide ((m : Int) < (e : Int)) = true := by simpa using hr.2
          rcases Hc1.out with h1f | h1f
          · have dF1 : decide ((a : Int) < (s : Int)) = true := by simpa using h1f.1
            have dF2 : decide ((s : Int) < (mid : Int)) = true := by simpa using h1f.2
            rcases Hc2.out with h2f | h2f
            · have dS1 : decide ((mid : Int) < (e : Int)) = true := by simpa using h2f.1
              have dS2 : decide ((e : Int) < (b : Int)) = true := by simpa using h2f.2
              go_wp2_with fail
              all_goals (refine (HCR.out hr.1 hr.2).mono ?_)
              all_goals (rintro r w4 ⟨rfl, h4⟩)
              all_goals (go_wp2_with fail)
              all_goals (refine (HC1.out h1f.1 h1f.2 _ h4).mono ?_)
              all_goals (rintro r w5 ⟨rfl, h5⟩)
              all_goals (go_wp2_with fail)
              all_goals (refine (HC2.out h2f.1 h2f.2 _ h5).mono ?_)
              all_goals (rintro r w6 ⟨rfl, h6⟩)
              all_goals (go_wp2_with fail)
              all_goals exact bodyPost_end (v := .tuple #[]) (by simp [results, Try.results56, go_sem]) rfl ⟨rfl, HFS.out _ (h6)⟩
            · have dS0 : decide ((mid : Int) < (e : Int)) = false ∨ (decide ((mid : Int) < (e : Int)) = true ∧ decide ((e : Int) < (b : Int)) = false) := by simp only [decide_eq_true_eq, decide_eq_false_iff_not]; omega
              rcases dS0 with dS0 | ⟨dS0a, dS0b⟩
              all_goals
                go_wp2_with fail
                all_goals (refine (HCR.out hr.1 hr.2).mono ?_)
                all_goals (rintro r w4 ⟨rfl, h4⟩)
                all_goals (go_wp2_with fail)
                all_goals (refine (HC1.out h1f.1 h1f.2 _ h4).mono ?_)
                all_goals (rintro r w5 ⟨rfl, h5⟩)
                all_goals (go_wp2_with fail)
                all_goals exact bodyPost_end (v := .tuple #[]) (by simp [results, Try.results56, go_sem]) rfl ⟨rfl, HFS.out _ (HN2.out h2f _ h5)⟩
          · have dF0 : decide ((a : Int) < (s : Int)) = false ∨ (decide ((a : Int) < (s : Int)) = true ∧ decide ((s : Int) < (mid : Int)) = false) := by simp only [decide_eq_true_eq, decide_eq_false_iff_not]; omega
            rcases Hc2.out with h2f | h2f
            · have dS1 : decide ((mid : Int) < (e : Int)) = true := by simpa using h2f.1
              have dS2 : decide ((e : Int) < (b : Int)) = true := by simpa using h2f.2
              rcases dF0 with dF0 | ⟨dF0a, dF0b⟩
              all_goals
                go_wp2_with fail
                all_goals (refine (HCR.out hr.1 hr.2).mono ?_)
                all_goals (rintro r w4 ⟨rfl, h4⟩)
                all_goals (go_wp2_with fail)
                all_goals (refine (HC2.out h2f.1 h2f.2 _ (HN1.out h1f _ h4)).mono ?_)
                all_goals (rintro r w6 ⟨rfl, h6⟩)
                all_goals (go_wp2_with fail)
                all_goals exact bodyPost_end (v := .tuple #[]) (by simp [results, Try.results56, go_sem]) rfl ⟨rfl, HFS.out _ (h6)⟩
            · have dS0 : decide ((mid : Int) < (e : Int)) = false ∨ (decide ((mid : Int) < (e : Int)) = true ∧ decide ((e : Int) < (b : Int)) = false) := by simp only [decide_eq_true_eq, decide_eq_false_iff_not]; omega
              rcases dF0 with dF0 | ⟨dF0a, dF0b⟩
              all_goals rcases dS0 with dS0 | ⟨dS0a, dS0b⟩
              all_goals
                go_wp2_with fail
                all_goals (refine (HCR.out hr.1 hr.2).mono ?_)
                all_goals (rintro r w4 ⟨rfl, h4⟩)
                all_goals (go_wp2_with fail)
                all_goals exact bodyPost_end (v := .tuple #[]) (by simp [results, Try.results56, go_sem]) rfl ⟨rfl, HFS.out _ (HN2.out h2f _ (HN1.out h1f _ h4))⟩
        · have dR0 : decide ((s : Int) < (m : Int)) = false ∨ (decide ((s : Int) < (m : Int)) = true ∧ decide ((m : Int) < (e : Int)) = false) := by simp only [decide_eq_true_eq, decide_eq_false_iff_not]; omega
          have h4 := HNR.out hr
          rcases Hc1.out with h1f | h1f
          · have dF1 : decide ((a : Int) < (s : Int)) = true := by simpa using h1f.1
            have dF2 : decide ((s : Int) < (mid : Int)) = true := by simpa using h1f.2
            rcases Hc2.out with h2f | h2f
            · have dS1 : decide ((mid : Int) < (e : Int)) = true := by simpa using h2f.1
              have dS2 : decide ((e : Int) < (b : Int)) = true := by simpa using h2f.2
              rcases dR0 with dR0 | ⟨dR0a, dR0b⟩
              all_goals
                go_wp2_with fail
                all_goals (refine (HC1.out h1f.1 h1f.2 _ h4).mono ?_)
                all_goals (rintro r w5 ⟨rfl, h5⟩)
                all_goals (go_wp2_with fail)
                all_goals (refine (HC2.out h2f.1 h2f.2 _ h5).mono ?_)
                all_goals (rintro r w6 ⟨rfl, h6⟩)
                all_goals (go_wp2_with fail)
                all_goals exact bodyPost_end (v := .tuple #[]) (by simp [results, Try.results56, go_sem]) rfl ⟨rfl, HFS.out _ (h6)⟩
            · have dS0 : decide ((mid : Int) < (e : Int)) = false ∨ (decide ((mid : Int) < (e : Int)) = true ∧ decide ((e : Int) < (b : Int)) = false) := by simp only [decide_eq_true_eq, decide_eq_false_iff_not]; omega
              rcases dR0 with dR0 | ⟨dR0a, dR0b⟩
              all_goals rcases dS0 with dS0 | ⟨dS0a, dS0b⟩
              all_goals
                go_wp2_with fail
                all_goals (refine (HC1.out h1f.1 h1f.2 _ h4).mono ?_)
                all_goals (rintro r w5 ⟨rfl, h5⟩)
                all_goals (go_wp2_with fail)
                all_goals exact bodyPost_end (v := .tuple #[]) (by simp [results, Try.results56, go_sem]) rfl ⟨rfl, HFS.out _ (HN2.out h2f _ h5)⟩
          · have dF0 : decide ((a : Int) < (s : Int)) = false ∨ (decide ((a : Int) < (s : Int)) = true ∧ decide ((s : Int) < (mid : Int)) = false) := by simp only [decide_eq_true_eq, decide_eq_false_iff_not]; omega
            rcases Hc2.out with h2f | h2f
            · have dS1 : decide ((mid : Int) < (e : Int)) = true := by simpa using h2f.1
              have dS2 : decide ((e : Int) < (b : Int)) = true := by simpa using h2f.2
              rcases dR0 with dR0 | ⟨dR0a, dR0b⟩
              all_goals rcases dF0 with dF0 | ⟨dF0a, dF0b⟩
              all_goals
                go_wp2_with fail
                all_goals (refine (HC2.out h2f.1 h2f.2 _ (HN1.out h1f _ h4)).mono ?_)
                all_goals (rintro r w6 ⟨rfl, h6⟩)
                all_goals (go_wp2_with fail)
                all_goals exact bodyPost_end (v := .tuple #[]) (by simp [results, Try.results56, go_sem]) rfl ⟨rfl, HFS.out _ (h6)⟩
            · have dS0 : decide ((mid : Int) < (e : Int)) = false ∨ (decide ((mid : Int) < (e : Int)) = true ∧ decide ((e : Int) < (b : Int)) = false) := by simp only [decide_eq_true_eq, decide_eq_false_iff_not]; omega
              rcases dR0 with dR0 | ⟨dR0a, dR0b⟩
              all_goals rcases dF0 with dF0 | ⟨dF0a, dF0b⟩
              all_goals rcases dS0 with dS0 | ⟨dS0a, dS0b⟩
              all_goals
                go_wp2
                all_goals exact bodyPost_end (v := .tuple #[]) (by simp [results, Try.results56, go_sem]) rfl ⟨rfl, HFS.out _ (HN2.out h2f _ (HN1.out h1f _ h4))⟩
end Go.Proofs.Ytfdiidhilonkoaa
