import Derived.Test.YtfdiidhilonkoaaZC14
import Derived.Test.YtfdiidhilonkoaaZC15
set_option linter.unusedVariables false
/-
  slices.symMergeCmpFunc of any two rows; how a row is sorted block by block.
-/
namespace Go.Proofs.Ytfdiidhilonkoaa
open Go.RowKit

theorem symMerge_any (gf : Nat) (lb : Array Value) (key : Int → Int) (cf : Int → Int → Int) (ok : Int → Prop) (g len cap : Nat) (hl : len ≤ 1000000) : ∀ (n a m b : Nat) (d : Nat → Int) (w : World), b - a ≤ n → IntsAt w g len d → CmpI gf lb key cf ok g w → a < m → m < b → b ≤ len → (∀ i, i < len → ok (d i)) → TwoK key d a m b →
    Calls Try.prog 56 #[.slice (some ⟨g, 0, none⟩) len cap, .int .i64 (a : Nat), .int .i64 (m : Nat), .int .i64 (b : Nat), .func (.func gf) #[] lb] w fun r w' => r = .returned (.tuple #[]) ∧ (∃ e, IntsAt w' g len e ∧ PermO d e a b ∧ SortK key e a b) ∧ Mut (fun k => k = g) w w'
  | 0, a, m, b, d, w, hn, _, _, h1, h2, _, _, _ => by omega
  | n + 1, a, m, b, d, w, hn, hi, hc, h1, h2, hb, ho, ht => by
    by_cases e1 : m = a + 1
    · exact symOne_any gf lb key cf ok g len cap a m b d w hi hc e1 h2 hb hl ho ht
    · by_cases e2 : b = m + 1
      · exact symLast_any gf lb key cf ok g len cap a m b d w hi hc e2 (by omega) hb hl ho ht
      · have IH := fun (a' m' b' : Nat) (d' : Nat → Int) (w' : World) (hlt : b' - a' < b - a) q1 q2 q3 q4 q5 q6 q7 => symMerge_any gf lb key cf ok g len cap hl n a' m' b' d' w' (by omega) q1 q2 q3 q4 q5 q6 q7
        by_cases hs : m ≤ (a + b) / 2
        · exact symGenB_any gf lb key cf ok g len cap a m b d w hi hc (by omega) (by omega) hs hb hl ho ht IH
        · exact symGenA_any gf lb key cf ok g len cap a m b d w hi hc (by omega) (by omega) hs hb hl ho ht IH
/-- Where a block of c begins. -/
def Bd (c x : Nat) : Prop := ∃ k, x = k * c
theorem bd_zero (c : Nat) : Bd c 0 := ⟨0, by simp⟩
theorem bd_next {c x : Nat} (h : Bd c x) : Bd c (x + c) := by
  obtain ⟨k, rfl⟩ := h
  exact ⟨k + 1, by rw [Nat.succ_mul]⟩
theorem bd_half {c x : Nat} (h : Bd (c + c) x) : Bd c x := by
  obtain ⟨k, rfl⟩ := h
  exact ⟨k + k, by rw [Nat.mul_add, Nat.add_mul]⟩
theorem bd_lt {c x y : Nat} (h : Bd c x) (k : Bd c y) (hl : x < y) : x + c ≤ y := by
  obtain ⟨i, rfl⟩ := h
  obtain ⟨j, rfl⟩ := k
  have hij : i < j := by
    rcases Nat.lt_or_ge i j with q | q
    · exact q
    · have := Nat.mul_le_mul_right c q
      omega
  have := Nat.mul_le_mul_right c (show i + 1 ≤ j from hij)
  rw [Nat.succ_mul] at this
  exact this
/-- Who came ahead of a boundary stands ahead of it. -/
def IdxK (d : Nat → Int) (len x : Nat) : Prop := ∀ i j, i < x → x ≤ j → j < len → d i < d j
theorem idx_perm {d e : Nat → Int} {a b len x : Nat} (h : IdxK d len x) (p : PermO d e a b) (hx : x ≤ a ∨ b ≤ x) (hb : b ≤ len) : IdxK e len x := by
  intro i j i1 j1 j2
  have hi : ∃ i', i' < x ∧ e i = d i' := by
    by_cases c : a ≤ i ∧ i < b
    · obtain ⟨q, q1, q2, eq⟩ := p.in_ c.1 c.2
      exact ⟨q, by omega, eq⟩
    · exact ⟨i, i1, p.out c⟩
  have hj : ∃ j', x ≤ j' ∧ j' < len ∧ e j = d j' := by
    by_cases c : a ≤ j ∧ j < b
    · obtain ⟨q, q1, q2, eq⟩ := p.in_ c.1 c.2
      exact ⟨q, by omega, by omega, eq⟩
    · exact ⟨j, j1, j2, p.out c⟩
  obtain ⟨i', a1, a2⟩ := hi
  obtain ⟨j', b1, b2, b3⟩ := hj
  rw [a2, b3]
  exact h i' j' a1 b1 b2
theorem sort_perm {key : Int → Int} {d e : Nat → Int} {a b x y : Nat} (h : SortK key d x y) (p : PermO d e a b) (hx : y ≤ a ∨ b ≤ x) : SortK key e x y := fun i j i1 i2 i3 => by
  rw [p.out (by omega), p.out (k := j) (by omega)]
  exact h i j i1 i2 i3
/-- Blocks of c are sorted from x0 on, blocks of c + c ahead of it; boundaries part what came ahead. -/
structure BlkK (key : Int → Int) (d : Nat → Int) (len c a : Nat) : Prop where
  big : ∀ x, Bd (c + c) x → x < a → SortK key d x (min (x + (c + c)) len)
  small : ∀ x, Bd c x → a ≤ x → SortK key d x (min (x + c) len)
  idx : ∀ x, Bd (c + c) x ∨ (Bd c x ∧ a ≤ x) → IdxK d len x
theorem BlkK.two {key : Int → Int} {d : Nat → Int} {len c a b : Nat} (h : BlkK key d len c a) (ha : Bd (c + c) a) (h1 : a + c < b) (h2 : b = min (a + (c + c)) len) : TwoK key d a (a + c) b := by
  have s1 := h.small a (bd_half ha) (Nat.le_refl _)
  have s2 := h.small (a + c) (bd_next (bd_half ha)) (by omega)
  have s3 := h.idx (a + c) (.inr ⟨bd_next (bd_half ha), by omega⟩)
  refine ⟨fun i j i1 i2 i3 => s1 i j i1 i2 (by omega), fun i j i1 i2 i3 => s2 i j i1 i2 (by omega), fun i j i1 i2 i3 i4 => s3 i j i2 i3 (by omega)⟩
theorem BlkK.step {key : Int → Int} {d e : Nat → Int} {len c a b : Nat} (h : BlkK key d len c a) (ha : Bd (c + c) a) (hc : 0 < c) (h2 : b = min (a + (c + c)) len) (p : PermO d e a b) (s : SortK key e a b) : BlkK key e len c (a + (c + c)) := by
  refine ⟨fun x hx hl => ?_, fun x hx hl => ?_, fun x hx => ?_⟩
  · by_cases q : x < a
    · have := bd_lt hx ha q
      exact sort_perm (h.big x hx q) p (by omega)
    · by_cases q2 : x = a
      · rw [q2, ← h2]; exact s
      · have := bd_lt ha hx (by omega)
        omega
  · exact sort_perm (h.small x hx (by omega)) p (by omega)
  · rcases hx with hx | ⟨hx, hl⟩
    · refine idx_perm (h.idx x (.inl hx)) p ?_ (by omega)
      by_cases q : x ≤ a
      · exact .inl q
      · have := bd_lt ha hx (by omega)
        omega
    · exact idx_perm (h.idx x (.inr ⟨hx, by omega⟩)) p (.inr (by omega)) (by omega)
theorem BlkK.next {key : Int → Int} {d : Nat → Int} {len c a : Nat} (h : BlkK key d len c a) (ha : len ≤ a) : BlkK key d len (c + c) 0 := by
  refine ⟨fun x _ hl => absurd hl (by omega), fun x hx _ => ?_, fun x hx => ?_⟩
  · by_cases q : x < a
    · exact h.big x hx q
    · intro i j i1 i2 i3
      omega
  · rcases hx with hx | ⟨hx, _⟩
    · exact h.idx x (.inl (bd_half hx))
    · exact h.idx x (.inl hx)
/-- Where the rest is one small block. -/
theorem BlkK.rest {key : Int → Int} {d : Nat → Int} {len c a : Nat} (h : BlkK key d len c a) (ha : Bd (c + c) a) (hc : 0 < c) (h1 : len ≤ a + c) : BlkK key d len c (a + (c + c)) :=
  h.step ha hc (b := min (a + (c + c)) len) rfl (PermO.refl _ _ _) (fun i j i1 i2 i3 => h.small a (bd_half ha) (Nat.le_refl _) i j i1 i2 (by omega))
end Go.Proofs.Ytfdiidhilonkoaa

/-
  slices.SortStableFunc of ints that rise at first: sorted by a key, of equal ones the lesser number ahead.
-/
namespace Go.Proofs.Ytfdiidhilonkoaa
open Go.RowKit

/-- Blocks of 20 are sorted up to a; from a on all is as it was. -/
structure FirstK (key : Int → Int) (d e : Nat → Int) (len a : Nat) : Prop where
  big : ∀ x, Bd 20 x → x < a → SortK key e x (min (x + 20) len)
  rest : ∀ i, a ≤ i → e i = d i
  idx : ∀ x, Bd 20 x → IdxK e len x
  perm : PermO d e 0 len
theorem firstK_start {key : Int → Int} {d : Nat → Int} {len : Nat} (h : ∀ i j, i < j → j < len → d i < d j) : FirstK key d d len 0 :=
  ⟨fun x _ hl => absurd hl (by omega), fun _ _ => rfl, fun x _ i j i1 i2 i3 => h i j (by omega) i3, PermO.refl _ _ _⟩
theorem FirstK.step {key : Int → Int} {d e f : Nat → Int} {len a b : Nat} (h : FirstK key d e len a) (ha : Bd 20 a) (hb : b = min (a + 20) len) (hl : a ≤ len) (p : PermO e f a b) (s : SortK key f a b) : FirstK key d f len (a + 20) := by
  refine ⟨fun x hx hl => ?_, fun i hi => ?_, fun x hx => ?_, h.perm.trans (p.wide (Nat.zero_le _) (by omega))⟩
  · by_cases q : x < a
    · have := bd_lt hx ha q
      exact sort_perm (h.big x hx q) p (by omega)
    · by_cases q2 : x = a
      · rw [q2, ← hb]; exact s
      · have := bd_lt ha hx (by omega)
        omega
  · rw [p.out (by omega)]
    exact h.rest i (by omega)
  · refine idx_perm (h.idx x hx) p ?_ (by omega)
    by_cases q : x ≤ a
    · exact .inl q
    · have := bd_lt ha hx (by omega)
      omega
theorem FirstK.blk {key : Int → Int} {d e : Nat → Int} {len a : Nat} (h : FirstK key d e len a) (hl : len ≤ a) : BlkK key e len 20 0 :=
  ⟨fun x _ hl => absurd hl (by omega), fun x hx _ => by
    by_cases q : x < a
    · exact h.big x hx q
    · intro i j i1 i2 i3
      omega, fun x hx => h.idx x (by
    rcases hx with hx | ⟨hx, _⟩
    · exact bd_half (c := 20) hx
    · exact hx)⟩
set_option maxRecDepth 100000 in
set_option maxHeartbeats 16000000 in
theorem stable_any (gf : Nat) (lb : Array Value) (key : Int → Int) (cf : Int → Int → Int) (ok : Int → Prop) (g len cap : Nat) (d : Nat → Int) (w : World) (h : IntsAt w g len d) (hc : CmpI gf lb key cf ok g w) (hl : len ≤ 1000000) (ho : ∀ i, i < len → ok (d i)) (hr : ∀ i j, i < j → j < len → d i < d j) :
    Calls Try.prog 49 #[.slice (some ⟨g, 0, none⟩) len cap, .int .i64 (len : Nat), .func (.func gf) #[] lb] w fun r w' => r = .returned (.tuple #[]) ∧ (∃ e, IntsAt w' g len e ∧ PermO d e 0 len ∧ SortK key e 0 len) ∧ Mut (fun k => k = g) w w' := by
  have HIn : Hid (∀ (a b : Nat) (e : Nat → Int) (W : World), a ≤ b → b ≤ len → IntsAt W g len e → Mut (fun k => k = g) w W → FirstK key d e len a → Calls Try.prog 55 #[.slice (some ⟨g, 0, none⟩) len cap, .int .i64 (a : Nat), .int .i64 (b : Nat), .func (.func gf) #[] lb] W fun r w' => r = .returned (.tuple #[]) ∧ (∃ f, IntsAt w' g len f ∧ PermO e f a b ∧ SortK key f a b) ∧ Mut (fun k => k = g) w w') :=
    Lib.hid fun a b e W h1 h2 hi hm hf => (insertion_any gf lb key cf ok g len cap a b e W hi (hc.from hm) h1 h2 hl (okO hf.perm (Nat.le_refl _) ho) (fun i j i1 i2 i3 => by rw [hf.rest i i1, hf.rest j (by omega)]; exact hr i j i2 (by omega))).mono fun _ _ ⟨q1, q2, q3⟩ => ⟨q1, q2, hm.trans q3 fun _ e => .inl e⟩
  have HMg : Hid (∀ (a m b : Nat) (e : Nat → Int) (W : World), a < m → m < b → b ≤ len → IntsAt W g len e → Mut (fun k => k = g) w W → PermO d e 0 len → TwoK key e a m b → Calls Try.prog 56 #[.slice (some ⟨g, 0, none⟩) len cap, .int .i64 (a : Nat), .int .i64 (m : Nat), .int .i64 (b : Nat), .func (.func gf) #[] lb] W fun r w' => r = .returned (.tuple #[]) ∧ (∃ f, IntsAt w' g len f ∧ PermO e f a b ∧ SortK key f a b) ∧ Mut (fun k => k = g) w w') :=
    Lib.hid fun a m b e W h1 h2 h3 hi hm hp ht => (symMerge_any gf lb key cf ok g len cap hl _ a m b e W (Nat.le_refl _) hi (hc.from hm) h1 h2 h3 (okO hp (Nat.le_refl _) ho) ht).mono fun _ _ ⟨q1, q2, q3⟩ => ⟨q1, q2, hm.trans q3 fun _ e => .inl e⟩
  have H0 := Lib.hid h
  have HF0 := Lib.hid (firstK_start (key := key) hr)
  clear h ho hr hc
  go_enter Try.func49, Try.ntmps49
  go_wp2_with fail
  go_loopg [7, 8] len (fun q i j wr => ∃ (a b : Nat) (e : Nat → Int), i = .int .i64 (a : Nat) ∧ j = .int .i64 (b : Nat) ∧ b = a + 20 ∧ Bd 20 a ∧ a ≤ len ∧ len ≤ a + q ∧ IntsAt wr g len e ∧ FirstK key d e len a ∧ Mut (fun k => k = g) w wr)
  case atStart => exact ⟨0, 20, d, by go_num, by go_num, rfl, bd_zero _, Nat.zero_le _, by omega, H0.out, HF0.out, Mut.refl _ _⟩
  case round =>
    obtain ⟨a, b, e, rfl, rfl, hb, hbd, hal, hq, hi, hf, hm⟩ := hrel
    have HB := Lib.hid hb
    have HBd := Lib.hid hbd
    have HI := Lib.hid hi
    have HF := Lib.hid hf
    have HM := Lib.hid hm
    have hab : a < b := by omega
    have hb20 : b ≤ a + 20 := by omega
    clear hb hbd hi hf hm
    by_cases hbl : b ≤ len
    · have hle : decide ((b : Int) ≤ (len : Int)) = true := by simpa using hbl
      go_wp2_with fail
      refine (HIn.out a b e wr (by omega) hbl HI.out HM.out HF.out).mono ?_
      rintro r w2 ⟨rfl, ⟨f, hi2, hp2, hs2⟩, hm2⟩
      have HI2 := Lib.hid hi2
      have HM2 := Lib.hid hm2
      have HF2 := Lib.hid (HF.out.step HBd.out (b := b) (by have := HB.out; omega) hal hp2 hs2)
      clear hi2 hm2 hp2 hs2
      go_wp2_with fail
      go_roundg (gk - 1)
      case measure => omega
      case rel => exact ⟨b, b + 20, f, rfl, by go_num, rfl, by rw [HB.out]; exact bd_next HBd.out, hbl, by omega, HI2.out, by rw [HB.out]; exact HF2.out, HM2.out⟩
    · have hle : decide ((b : Int) ≤ (len : Int)) = false := by simpa using (by omega : (len : Int) < (b : Int))
      go_wp2_with fail
      refine (HIn.out a len e wr hal (Nat.le_refl _) HI.out HM.out HF.out).mono ?_
      rintro r w2 ⟨rfl, ⟨f, hi2, hp2, hs2⟩, hm2⟩
      have hf2 := HF.out.step HBd.out (b := len) (by have := HB.out; omega) hal hp2 hs2
      have HK2 := Lib.hid (And.intro (hf2.blk (by have := HB.out; omega)) hf2.perm)
      have HI2 := Lib.hid hi2
      have HM2 := Lib.hid hm2
      clear hi2 hm2 hp2 hs2 hf2 HF HI HM
      go_wp2_with fail
      go_loopg [6, 7, 8, 9] len (fun q i _ _ _ wr => ∃ (c : Nat) (e : Nat → Int), i = .int .i64 (c : Nat) ∧ 20 ≤ c ∧ len ≤ c + q ∧ c ≤ 2000020 ∧ IntsAt wr g len e ∧ BlkK key e len c 0 ∧ PermO d e 0 len ∧ Mut (fun k => k = g) w wr)
      case atStart => exact ⟨20, f, by go_num, Nat.le_refl _, by omega, by omega, HI2.out, HK2.out.1, HK2.out.2, HM2.out⟩
      case round =>
        obtain ⟨c, e, rfl, hc20, hq2, hcl, hi, hk, hp, hm⟩ := hrel
        have HI := Lib.hid hi
        have HK := Lib.hid hk
        have HP := Lib.hid hp
        have HM := Lib.hid hm
        obtain ⟨g0, hg0⟩ : ∃ g0, g0 = gk := ⟨_, rfl⟩
        rw [← hg0] at hq2
        clear hi hk hp hm
        by_cases hcn : c < len
        · have hlt : decide ((c : Int) < (len : Int)) = true := by simpa using hcn
          obtain ⟨c2, hc2⟩ : ∃ c2 : Nat, 2 * (c : Int) = (c2 : Int) := ⟨c + c, by omega⟩
          have hc3 : (c : Int) * 2 = (c2 : Int) := by omega
          have HC2 := Lib.hid (show c2 = c + c by omega)
          have hcc : c < c2 := by omega
          have hc2l : c2 ≤ 2000020 := by omega
          go_wp2_with fail
          go_loopg [7, 8] len (fun q i j wr => ∃ (a b : Nat) (e : Nat → Int), i = .int .i64 (a : Nat) ∧ j = .int .i64 (b : Nat) ∧ b = a + c2 ∧ Bd (c + c) a ∧ a ≤ len ∧ len ≤ a + q ∧ IntsAt wr g len e ∧ BlkK key e len c a ∧ PermO d e 0 len ∧ Mut (fun k => k = g) w wr)
          case atStart => exact ⟨0, c2, e, by go_num, rfl, by omega, bd_zero _, Nat.zero_le _, by omega, HI.out, HK.out, HP.out, HM.out⟩
          case round =>
            obtain ⟨a, b, e, rfl, rfl, hb, hbd, hal, hq, hi, hk, hp, hm⟩ := hrel
            have HB := Lib.hid hb
            have HBd := Lib.hid hbd
            have HI := Lib.hid hi
            have HK := Lib.hid hk
            have HP := Lib.hid hp
            have HM := Lib.hid hm
            have hab : a + c2 ≤ b := by omega
            clear hb hbd hi hk hp hm
            obtain ⟨m, hm⟩ : ∃ m : Nat, (a : Int) + (c : Int) = (m : Int) := ⟨a + c, by omega⟩
            have HMe := Lib.hid (show m = a + c by omega)
            have ham : a < m := by omega
            by_cases hbl : b ≤ len
            · have hle : decide ((b : Int) ≤ (len : Int)) = true := by simpa using hbl
              have HT := Lib.hid (show TwoK key e a m b from HMe.out ▸ HK.out.two HBd.out (b := b) (by have := HB.out; have := HC2.out; omega) (by have := HB.out; have := HC2.out; omega))
              go_wp2_with fail
              refine (HMg.out a m b e wr ham (by have := HB.out; have := HC2.out; have := HMe.out; omega) hbl HI.out HM.out HP.out HT.out).mono ?_
              rintro r w2 ⟨rfl, ⟨f, hi2, hp2, hs2⟩, hm2⟩
              have HI2 := Lib.hid hi2
              have HM2 := Lib.hid hm2
              have HK2 := Lib.hid (HK.out.step HBd.out (by omega) (b := b) (by have := HB.out; have := HC2.out; omega) hp2 hs2)
              have HP2 := Lib.hid (HP.out.trans (hp2.wide (Nat.zero_le _) hbl))
              clear hi2 hm2 hp2 hs2
              go_wp2_with fail
              go_roundg (gk - 1)
              case measure => omega
              case rel => exact ⟨b, b + c2, f, rfl, by go_num, rfl, by rw [HB.out, HC2.out]; exact bd_next HBd.out, hbl, by omega, HI2.out, by rw [HB.out, HC2.out]; exact HK2.out, HP2.out, HM2.out⟩
            · have hle : decide ((b : Int) ≤ (len : Int)) = false := by simpa using (by omega : (len : Int) < (b : Int))
              by_cases hml : m < len
              · have hlt2 : decide ((m : Int) < (len : Int)) = true := by simpa using hml
                have HT := Lib.hid (show TwoK key e a m len from HMe.out ▸ HK.out.two HBd.out (b := len) (by have := HMe.out; omega) (by have := HB.out; have := HC2.out; omega))
                go_wp2_with fail
                refine (HMg.out a m len e wr ham hml (Nat.le_refl _) HI.out HM.out HP.out HT.out).mono ?_
                rintro r w2 ⟨rfl, ⟨f, hi2, hp2, hs2⟩, hm2⟩
                have HI2 := Lib.hid hi2
                have HM2 := Lib.hid hm2
                have HK2 := Lib.hid (show BlkK key f len c2 0 from HC2.out ▸ (HK.out.step HBd.out (by omega) (b := len) (by have := HB.out; have := HC2.out; omega) hp2 hs2).next (by have := HB.out; have := HC2.out; omega))
                have HP2 := Lib.hid (HP.out.trans (hp2.wide (Nat.zero_le _) (Nat.le_refl _)))
                clear hi2 hm2 hp2 hs2
                go_wp2_with fail
                go_roundg (g0 - 1)
                case measure => omega
                case rel => exact ⟨c2, f, rfl, by omega, by omega, by omega, HI2.out, HK2.out, HP2.out, HM2.out⟩
              · have hlt2 : decide ((m : Int) < (len : Int)) = false := by simpa using (by omega : (len : Int) ≤ (m : Int))
                have HK2 := Lib.hid (show BlkK key e len c2 0 from HC2.out ▸ (HK.out.rest HBd.out (by omega) (by have := HMe.out; omega)).next (by have := HB.out; have := HC2.out; omega))
                go_wp2_with fail
                go_roundg (g0 - 1)
                case measure => omega
                case rel => exact ⟨c2, e, rfl, by omega, by omega, by omega, HI.out, HK2.out, HP.out, HM.out⟩
        · have hlt : decide ((c : Int) < (len : Int)) = false := by simpa using (by omega : (len : Int) ≤ (c : Int))
          have HS := Lib.hid (show SortK key e 0 len from fun i j i1 i2 i3 => HK.out.small 0 (bd_zero _) (Nat.le_refl _) i j i1 i2 (by omega))
          go_wp2_with fail
          exact bodyPost_end (v := .tuple #[]) (by simp [results, Try.results49, go_sem]) rfl ⟨rfl, ⟨e, HI.out, HP.out, HS.out⟩, HM.out⟩
/-- slices.SortStableFunc of ints. -/
theorem sortStable_any (gf : Nat) (lb : Array Value) (key : Int → Int) (cf : Int → Int → Int) (ok : Int → Prop) (g len cap : Nat) (d : Nat → Int) (w : World) (h : IntsAt w g len d) (hc : CmpI gf lb key cf ok g w) (hl : len ≤ 1000000) (ho : ∀ i, i < len → ok (d i)) (hr : ∀ i j, i < j → j < len → d i < d j) :
    Calls Try.prog 43 #[.slice (some ⟨g, 0, none⟩) len cap, .func (.func gf) #[] lb] w fun r w' => r = .returned (.tuple #[]) ∧ (∃ e, IntsAt w' g len e ∧ PermO d e 0 len ∧ SortK key e 0 len) ∧ Mut (fun k => k = g) w w' := by
  have HS := Lib.hid (stable_any gf lb key cf ok g len cap d w h hc hl ho hr)
  clear h hc ho hr
  go_enter Try.func43, Try.ntmps43
  go_wp2_with fail
  refine HS.out.mono ?_
  rintro r w2 ⟨rfl, h1, h2⟩
  go_wp2_with fail
  exact bodyPost_end (v := .tuple #[]) (by simp [results, Try.results43, go_sem]) rfl ⟨rfl, h1, h2⟩
end Go.Proofs.Ytfdiidhilonkoaa
