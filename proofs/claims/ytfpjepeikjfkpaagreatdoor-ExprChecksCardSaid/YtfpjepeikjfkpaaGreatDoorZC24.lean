import Derived.Test.YtfpjepeikjfkpaaGreatDoorZC23
/-
  Package value: texts and words that any text begins with; Parse of any text.
-/
namespace Go.Proofs.YtfpjepeikjfkpaaGreatDoor
open Go.RowKit

/-- What stands behind a backslash: the byte, how many bytes there are with it, and the error. -/
def escR : List UInt8 → UInt8 × Nat × Int
  | [] => (0, 0, 6)
  | d :: r2 => if d = 34 ∨ d = 92 then (d, 2, 0) else match r2 with
    | [] => (0, 0, 8)
    | e :: _ => match hexVal d, hexVal e with
      | some x, some y => if plainB (UInt8.ofNat (16 * x + y)) = true then (0, 0, 8) else (UInt8.ofNat (16 * x + y), 3, 0)
      | _, _ => (0, 0, 8)
theorem textGo_esc (r acc : List UInt8) (p : Nat) : textGo (92 :: r) acc p = if (escR r).2.2 ≠ 0 then (V0, 0, (escR r).2.2) else textGo ((92 :: r).drop (escR r).2.1) (acc ++ [(escR r).1]) (p + (escR r).2.1) := by
  rw [textGo_cons, if_neg (by decide), if_pos rfl]
  cases r with
  | nil => rfl
  | cons d r2 =>
    have fin : ∀ q : UInt8 × Nat × Int, escR (d :: r2) = q → ∀ x, x = (if q.2.2 ≠ 0 then (V0, 0, q.2.2) else textGo ((92 :: d :: r2).drop q.2.1) (acc ++ [q.1]) (p + q.2.1)) → x = if (escR (d :: r2)).2.2 ≠ 0 then (V0, 0, (escR (d :: r2)).2.2) else textGo ((92 :: d :: r2).drop (escR (d :: r2)).2.1) (acc ++ [(escR (d :: r2)).1]) (p + (escR (d :: r2)).2.1) := by
      intro q hq x hx
      subst hq
      exact hx
    simp only
    by_cases hd : d = 34 ∨ d = 92
    · rw [if_pos hd]
      exact fin (d, 2, 0) (by simp [escR, hd]) _ rfl
    · rw [if_neg hd]
      cases r2 with
      | nil => exact fin (0, 0, 8) (by simp [escR, hd]) _ rfl
      | cons e r3 =>
        simp only
        cases h1 : hexVal d with
        | none => exact fin (0, 0, 8) (by simp [escR, hd, h1]) _ rfl
        | some x =>
          cases h2 : hexVal e with
          | none => exact fin (0, 0, 8) (by simp [escR, hd, h1, h2]) _ rfl
          | some y =>
            simp only
            by_cases hp : plainB (UInt8.ofNat (16 * x + y)) = true
            · rw [if_pos hp]
              exact fin (0, 0, 8) (by unfold escR; simp only; rw [if_neg hd]; simp only [h1, h2]; rw [if_pos hp]) _ rfl
            · rw [if_neg hp]
              exact fin (UInt8.ofNat (16 * x + y), 3, 0) (by unfold escR; simp only; rw [if_neg hd]; simp only [h1, h2]; rw [if_neg hp]) _ rfl
def hexL : List UInt8 := [48, 49, 50, 51, 52, 53, 54, 55, 56, 57, 97, 98, 99, 100, 101, 102]
theorem hex_fin : ∀ n : Fin 256, Lib.indexByte hexL (UInt8.ofNat n.val) = (match hexVal (UInt8.ofNat n.val) with | some x => (x : Int) | none => -1) := by decide +kernel
theorem hex_idx (c : UInt8) : Lib.indexByte hexL c = (match hexVal c with | some x => (x : Int) | none => -1) := by
  have := hex_fin ⟨c.toNat, c.toNat_lt⟩
  simpa using this

set_option maxHeartbeats 1000000 in
theorem esc_end (s : ByteArray) (hs : s.data.toList = [92]) (w : World) :
    Calls Tryz.prog 128 #[.string s] w fun e w' => e = .returned (.tuple #[.int .u8 0, .int .i64 0, .int .i64 6]) ∧ w' = w := by
  have hl : s.size = 1 := by
    show s.data.toList.length = _
    rw [hs]; rfl
  have hb1 : ((s.size : Int) == 1) = true := by rw [hl]; rfl
  clear hs hl
  go_enter Tryz.func128, Tryz.ntmps128
  go_wp2
  go_ret3
  exact ⟨rfl, rfl⟩
set_option maxHeartbeats 1000000 in
theorem esc_alone (s : ByteArray) (d : UInt8) (hs : s.data.toList = [92, d]) (hd : ¬ (d = 34 ∨ d = 92)) (w : World) :
    Calls Tryz.prog 128 #[.string s] w fun e w' => e = .returned (.tuple #[.int .u8 0, .int .i64 0, .int .i64 8]) ∧ w' = w := by
  have hl : s.size = 2 := by
    show s.data.toList.length = _
    rw [hs]; rfl
  have h1 : 1 < s.size := by omega
  have hb1 : ((s.size : Int) == 1) = false := by rw [hl]; rfl
  have hb2 : ((s.size : Int) == 2) = true := by rw [hl]; rfl
  have hi1 : (1 : Int) < (s.size : Int) := by omega
  have hx : s[1] = d := by rw [at_list s _ hs 1 h1]; rfl
  have k1 : ((s[1].toNat : Int) == 34) = false := by rw [hx]; exact v8_ne (n := 34) (by omega) (fun h => hd (.inl h))
  have k2 : ((s[1].toNat : Int) == 92) = false := by rw [hx]; exact v8_ne (n := 92) (by omega) (fun h => hd (.inr h))
  clear hs hl hd hx
  go_enter Tryz.func128, Tryz.ntmps128
  go_wp2
  go_ret3
  exact ⟨rfl, rfl⟩

/- ESC -/
/-- Where a byte stands among the hexadecimal digits; -1: nowhere. -/
def hexI (c : UInt8) : Int := match hexVal c with
  | some x => (x : Int)
  | none => -1
theorem hex_any (c : UInt8) (w : World) : Calls Tryz.prog 138 #[.string ⟨#[48, 49, 50, 51, 52, 53, 54, 55, 56, 57, 97, 98, 99, 100, 101, 102]⟩, .int .u8 (c.toNat : Int)] w fun e w' => e = .returned (.int .i64 (hexI c)) ∧ w' = w := by
  have h := indexByte_any ⟨#[48, 49, 50, 51, 52, 53, 54, 55, 56, 57, 97, 98, 99, 100, 101, 102]⟩ (c.toNat : Int) w
  have u8 : ((c.toNat : Int)).toNat.toUInt8 = c := by simp
  rw [u8, show (⟨#[48, 49, 50, 51, 52, 53, 54, 55, 56, 57, 97, 98, 99, 100, 101, 102]⟩ : ByteArray).data.toList = hexL from rfl, hex_idx] at h
  exact h
set_option maxRecDepth 100000 in
set_option maxHeartbeats 2000000 in
theorem esc_bad (s : ByteArray) (d e : UInt8) (r : List UInt8) (hs : s.data.toList = 92 :: d :: e :: r) (hd : ¬ (d = 34 ∨ d = 92)) (hn : s.size ≤ 4611686018427387904) (hno : hexVal d = none ∨ hexVal e = none) (w : World) :
    Calls Tryz.prog 128 #[.string s] w fun x w' => x = .returned (.tuple #[.int .u8 0, .int .i64 0, .int .i64 8]) ∧ Below w.heap.size w w' := by
  have hl : s.size = r.length + 3 := by
    show s.data.toList.length = _
    rw [hs]; rfl
  have h1 : 1 < s.size := by omega
  have h2 : 2 < s.size := by omega
  have hb1 : ((s.size : Int) == 1) = false := by rw [beq_eq_false_iff_ne]; omega
  have hb2 : ((s.size : Int) == 2) = false := by rw [beq_eq_false_iff_ne]; omega
  have hi1 : decide ((1 : Int) < (s.size : Int)) = true := by rw [decide_eq_true_iff]; omega
  have hi2 : (2 : Int) < (s.size : Int) := by omega
  have hx1 : s[1] = d := by rw [at_list s _ hs 1 h1]; rfl
  have hx2 : s[2] = e := by rw [at_list s _ hs 2 h2]; rfl
  have k1 : ((s[1].toNat : Int) == 34) = false := by rw [hx1]; exact v8_ne (n := 34) (by omega) (fun h => hd (.inl h))
  have k2 : ((s[1].toNat : Int) == 92) = false := by rw [hx1]; exact v8_ne (n := 92) (by omega) (fun h => hd (.inr h))
  have I1 := Lib.hid (hex_any s[1])
  have I2 := Lib.hid (hex_any s[2])
  rw [show hexI s[1] = hexI d by rw [hx1]] at I1
  rw [show hexI s[2] = hexI e by rw [hx2]] at I2
  have hneg : (decide (hexI d < 0) = true ∧ True) ∨ (decide (hexI d < 0) = false ∧ decide (hexI e < 0) = true) := by
    by_cases h0 : hexI d < 0
    · exact .inl ⟨by simpa using h0, trivial⟩
    · right
      refine ⟨by simpa using h0, ?_⟩
      rcases hno with h | h
      · exact absurd (show hexI d < 0 by unfold hexI; rw [h]; decide) h0
      · unfold hexI; rw [h]; rfl
  clear hno
  generalize hexI d = H at *
  generalize hexI e = Lw at *
  clear hs hl hx1 hx2 hd
  go_enter Tryz.func128, Tryz.ntmps128
  go_upto_region 7 with fail
  refine wp_region_class' (C := fun w' => Below w.heap.size w w') (by kernel_rfl) (by kernel_rfl) (Below.refl _ _).drew ?_
  have J1 := Lib.hid (fun (wx : World) (hb : Below w.heap.size w wx) => same_from' hb (I1.out wx))
  have J2 := Lib.hid (fun (wx : World) (hb : Below w.heap.size w wx) => same_from' hb (I2.out wx))
  quiet_step ((intro _; exact rfl))
  quiet_step ((intro _; exact rfl))
  quiet_step ((intro hw; with_reducible exact J1.out _ hw))
  quiet_step ((intro _; exact rfl))
  quiet_step ((intro _; exact rfl))
  quiet_step ((intro hw; with_reducible exact J2.out _ hw))
  quiet_step ((intro _; exact rfl))
  quiet_step ((intro _; exact rfl))
  refine wpQuiet_nil ?_
  intro w8 hb8
  have HB := Lib.hid hb8
  clear hb8
  rcases hneg with ⟨g1, g2⟩ | ⟨g1, g2⟩
  all_goals
    go_wp2
    go_ret3
    exact ⟨rfl, HB.out⟩
set_option maxRecDepth 100000 in
set_option maxHeartbeats 2000000 in
theorem esc_good (s : ByteArray) (d e : UInt8) (r : List UInt8) (hs : s.data.toList = 92 :: d :: e :: r) (hd : ¬ (d = 34 ∨ d = 92)) (hn : s.size ≤ 4611686018427387904) (x y : Nat) (hv1 : hexVal d = some x) (hv2 : hexVal e = some y) (w : World) :
    Calls Tryz.prog 128 #[.string s] w fun q w' => q = .returned (if plainB (UInt8.ofNat (16 * x + y)) = true then .tuple #[.int .u8 0, .int .i64 0, .int .i64 8] else .tuple #[.int .u8 ((UInt8.ofNat (16 * x + y)).toNat : Int), .int .i64 3, .int .i64 0]) ∧ Below w.heap.size w w' := by
  have hx16 := hexVal_lt hv1
  have hy16 := hexVal_lt hv2
  have hl : s.size = r.length + 3 := by
    show s.data.toList.length = _
    rw [hs]; rfl
  have h1 : 1 < s.size := by omega
  have h2 : 2 < s.size := by omega
  have hb1 : ((s.size : Int) == 1) = false := by rw [beq_eq_false_iff_ne]; omega
  have hb2 : ((s.size : Int) == 2) = false := by rw [beq_eq_false_iff_ne]; omega
  have hi1 : decide ((1 : Int) < (s.size : Int)) = true := by rw [decide_eq_true_iff]; omega
  have hi2 : (2 : Int) < (s.size : Int) := by omega
  have hx1 : s[1] = d := by rw [at_list s _ hs 1 h1]; rfl
  have hx2 : s[2] = e := by rw [at_list s _ hs 2 h2]; rfl
  have k1 : ((s[1].toNat : Int) == 34) = false := by rw [hx1]; exact v8_ne (n := 34) (by omega) (fun h => hd (.inl h))
  have k2 : ((s[1].toNat : Int) == 92) = false := by rw [hx1]; exact v8_ne (n := 92) (by omega) (fun h => hd (.inr h))
  have I1 := Lib.hid (hex_any s[1])
  have I2 := Lib.hid (hex_any s[2])
  rw [show hexI s[1] = hexI d by rw [hx1]] at I1
  rw [show hexI s[2] = hexI e by rw [hx2]] at I2
  rw [show hexI d = (x : Int) by unfold hexI; rw [hv1]] at I1
  rw [show hexI e = (y : Int) by unfold hexI; rw [hv2]] at I2
  have hm : ((UInt8.ofNat (16 * x + y)).toNat : Int) = 16 * (x : Int) + (y : Int) := by
    have : (UInt8.ofNat (16 * x + y)).toNat = 16 * x + y := by rw [UInt8.toNat_ofNat']; omega
    omega
  have HPl := Lib.hid (plain_any (UInt8.ofNat (16 * x + y)))
  rw [hm] at HPl ⊢
  have g1 : decide ((x : Int) < 0) = false := by simp
  have g2 : decide ((y : Int) < 0) = false := by simp
  clear hv1 hv2 hm
  cases hp : plainB (UInt8.ofNat (16 * x + y))
  all_goals
    rw [hp] at HPl
    clear hp
    clear hs hl hx1 hx2 hd
    go_enter Tryz.func128, Tryz.ntmps128
    go_upto_region 7 with fail
    refine wp_region_class' (C := fun w' => Below w.heap.size w w') (by kernel_rfl) (by kernel_rfl) (Below.refl _ _).drew ?_
    have J1 := Lib.hid (fun (wx : World) (hb : Below w.heap.size w wx) => same_from' hb (I1.out wx))
    have J2 := Lib.hid (fun (wx : World) (hb : Below w.heap.size w wx) => same_from' hb (I2.out wx))
    quiet_step ((intro _; exact rfl))
    quiet_step ((intro _; exact rfl))
    quiet_step ((intro hw; with_reducible exact J1.out _ hw))
    quiet_step ((intro _; exact rfl))
    quiet_step ((intro _; exact rfl))
    quiet_step ((intro hw; with_reducible exact J2.out _ hw))
    quiet_step ((intro _; exact rfl))
    quiet_step ((intro _; exact rfl))
    refine wpQuiet_nil ?_
    intro w8 hb8
    have HB := Lib.hid hb8
    clear hb8
    go_wp2_with (go_at_call 124; refine (HPl.out _).mono ?_; rintro r w' ⟨rfl, rfl⟩)
    go_ret3
    exact ⟨rfl, HB.out⟩
/-- What stands behind a backslash, whatever it is. -/
theorem esc_all (s : ByteArray) (r : List UInt8) (hs : s.data.toList = 92 :: r) (hn : s.size ≤ 4611686018427387904) (w : World) :
    Calls Tryz.prog 128 #[.string s] w fun x w' => x = .returned (.tuple #[.int .u8 ((escR r).1.toNat : Int), .int .i64 ((escR r).2.1 : Int), .int .i64 (escR r).2.2]) ∧ Below w.heap.size w w' := by
  have same : ∀ {P : Program} {f : FuncId} {args : Array Value} {v : Value}, (Calls P f args w fun r w' => r = .returned v ∧ w' = w) → Calls P f args w fun r w' => r = .returned v ∧ Below w.heap.size w w' := fun h => h.mono fun _ _ ⟨a, b⟩ => ⟨a, by rw [b]; exact Below.refl _ _⟩
  cases r with
  | nil => exact same (esc_end s hs w)
  | cons d r2 =>
    by_cases hd : d = 34 ∨ d = 92
    · have e : escR (d :: r2) = (d, 2, 0) := by unfold escR; simp only; rw [if_pos hd]
      rw [e]
      exact same (esc_two s d r2 hs hd hn w)
    · cases r2 with
      | nil =>
        have e : escR [d] = (0, 0, 8) := by unfold escR; simp only; rw [if_neg hd]
        rw [e]
        exact same (esc_alone s d hs hd w)
      | cons e r3 =>
        have eq : escR (d :: e :: r3) = (match hexVal d, hexVal e with
          | some x, some y => if plainB (UInt8.ofNat (16 * x + y)) = true then (0, 0, 8) else (UInt8.ofNat (16 * x + y), 3, 0)
          | _, _ => (0, 0, 8)) := by unfold escR; simp only; rw [if_neg hd]
        cases h1 : hexVal d with
        | none =>
          rw [h1] at eq
          rw [eq]
          exact esc_bad s d e r3 hs hd hn (.inl h1) w
        | some x =>
          cases h2 : hexVal e with
          | none =>
            rw [h1, h2] at eq
            rw [eq]
            exact esc_bad s d e r3 hs hd hn (.inr h2) w
          | some y =>
            rw [h1, h2] at eq
            have eq2 : escR (d :: e :: r3) = if plainB (UInt8.ofNat (16 * x + y)) = true then (0, 0, 8) else (UInt8.ofNat (16 * x + y), 3, 0) := eq
            rw [eq2]
            refine (esc_good s d e r3 hs hd hn x y h1 h2 w).mono ?_
            rintro q w' ⟨rfl, hb⟩
            refine ⟨?_, hb⟩
            cases plainB (UInt8.ofNat (16 * x + y)) <;> rfl
end Go.Proofs.YtfpjepeikjfkpaaGreatDoor

/-
  Package value: texts that any text begins with.
-/
namespace Go.Proofs.YtfpjepeikjfkpaaGreatDoor
open Go.RowKit

theorem escR_size (r : List UInt8) : (escR r).2.1 ≤ r.length + 1 ∧ ((escR r).2.2 = 0 → 0 < (escR r).2.1) := by
  unfold escR
  split
  · simp
  · next d r2 =>
    split
    · simp
    · split
      · simp
      · next e r3 =>
        split
        · split
          · simp
          · simp
        · simp
theorem drop_next {l : List UInt8} {p : Nat} {c : UInt8} {r : List UInt8} (h : l.drop p = c :: r) : l.drop (p + 1) = r := by
  have := congrArg (List.drop 1) h
  rw [List.drop_drop] at this
  simpa using this

set_option maxRecDepth 100000 in
set_option maxHeartbeats 4000000 in
theorem vText_all (s : ByteArray) (hlen : s.size ≤ 1000000) (t0 : List UInt8) (hs : s.data.toList = 34 :: t0) (w : World) :
    Calls Tryz.prog 102 #[.string s] w fun e w' => e = retTake (textGo t0 [] 1) ∧ Below w.heap.size w w' := by
  obtain ⟨i0, hi, hz0, hz1, hz2⟩ := info_parts info_byte
  have hat : ∀ (p : Nat) (x : UInt8) (r : List UInt8), s.data.toList.drop p = x :: r → ∃ h : p < s.size, s[p] = x := fun p x r e => by
    have h : p < s.data.toList.length := by
      rcases Nat.lt_or_ge p s.data.toList.length with h | h
      · exact h
      · rw [List.drop_of_length_le h] at e; cases e
    refine ⟨h, ?_⟩
    have := List.drop_eq_getElem_cons h
    rw [e] at this
    injection this with h1 _
    rw [h1]
    rfl
  have HAt := Lib.hid hat
  have hs1 : 1 ≤ s.size := by
    have : s.size = (34 :: t0).length := by rw [← hs]; rfl
    rw [this]; simp
  have hstart : textGo t0 [] 1 = textGo (s.data.toList.drop 1) [] 1 := by rw [hs]; rfl
  have HStart := Lib.hid hstart
  have hx0 := Boxed.new w 0 0 ⟨#[]⟩
  have hb0 := box_below w #[.int .i64 0, .int .i64 0, .string ⟨#[]⟩] 42
  have HX0 := Lib.hid hx0
  have HB0 := Lib.hid hb0
  clear hat hx0 hb0 hs hstart
  go_enter Tryz.func102, Tryz.ntmps102
  go_wp2
  go_step3
  go_wp2
  go_step3
  go_wp2
  go_loopw [5, 6] (fun v z wr => ∃ (p : Nat) (acc : List UInt8), p ≤ s.size ∧ acc.length ≤ p ∧ z = .int .i64 p ∧ (∃ n, wr.ownsRow (w.heap.size + 1) 5 1 v n (bvs acc)) ∧ textGo t0 [] 1 = textGo (s.data.toList.drop p) acc p ∧ Boxed wr w.heap.size V0 ∧ Below w.heap.size w wr) (fun _ z _ => s.size - (intOf z).toNat)
  case atStart => exact ⟨1, [], hs1, Nat.zero_le _, rfl, ⟨0, World.ownsRow_nil _ _ _ _⟩, HStart.out, HX0.out, HB0.out⟩
  case round =>
    obtain ⟨p, acc, hp, hap, rfl, ⟨n, hown⟩, hgo, hx, hb⟩ := hrel
    have HX := Lib.hid hx
    have HB := Lib.hid hb
    have HGo := Lib.hid hgo
    have hlx : w.heap.size + 1 ≤ wr.heap.size := hx.lt
    clear hx hb hgo
    cases hd : s.data.toList.drop p with
    | nil =>
      have hpe : p = s.size := by
        have : (s.data.toList.drop p).length = 0 := by rw [hd]; rfl
        rw [List.length_drop] at this
        have e : s.data.toList.length = s.size := rfl
        omega
      have HE := Lib.hid (show textGo t0 [] 1 = (V0, 0, 6) by rw [HGo.out, hd]; rfl)
      subst hpe
      clear hd hown
      obtain ⟨r0, r1, r2⟩ := HX.out.cells
      have f0 := HX.out.frozen 0
      have f1 := HX.out.frozen 1
      have f2 := HX.out.frozen 2
      go_wp2_with fail
      obtain ⟨t0', t1, t2⟩ := (HX.out.set3' 0 0 ⟨#[]⟩).cells
      have HFin := Lib.hid (Below.set3' HB.out (Nat.le_refl _) (.int .i64 0) (.int .i64 0) (.string ⟨#[]⟩))
      rw [Exit.noGoto_ret]
      refine bodyPost_ret (v := .tuple #[.agg #[.int .i64 0, .int .i64 0, .string ⟨#[]⟩], .int .i64 0, .int .i64 6]) (by simp [results, Tryz.results102, go_sem, t0', t1, t2]) rfl ⟨?_, HFin.out⟩
      rw [HE.out]
      rfl
    | cons c r =>
      obtain ⟨hps, hxc⟩ := HAt.out p c r hd
      have hpsI : (p : Int) < (s.size : Int) := by omega
      have hpl : (p : Int) ≤ (s.size : Int) := by omega
      have hp0 : (0 : Int) ≤ (p : Int) := by omega
      have hgo := HGo.out
      rw [hd] at hgo
      have hlr : p + 1 + r.length = s.size := by
        have h1 : (s.data.toList.drop p).length = r.length + 1 := by rw [hd]; rfl
        rw [List.length_drop] at h1
        have e : s.data.toList.length = s.size := rfl
        omega
      have hdn : s.data.toList.drop (p + 1) = r := drop_next hd
      by_cases h34 : c = 34
      · rw [textGo_cons, if_pos h34] at hgo
        have k1 : (((s[p]'hps).toNat : Int) == 34) = true := by rw [hxc, h34]; rfl
        have hpe : ((p : Int) == (s.size : Int)) = false := by rw [beq_eq_false_iff_ne]; omega
        obtain ⟨A, cc, rfl⟩ := own_slice hown
        obtain ⟨rfl, _, _, _, hr⟩ := Rd.own hown
        by_cases h64 : 64 < acc.length
        · have HE := Lib.hid (hgo.trans (if_pos h64))
          have h64' : decide ((64 : Int) < (acc.length : Int)) = true := by rw [decide_eq_true_iff]; omega
          clear hown hr hd hxc hgo hdn h34
          obtain ⟨r0, r1, r2⟩ := HX.out.cells
          have f0 := HX.out.frozen 0
          have f1 := HX.out.frozen 1
          have f2 := HX.out.frozen 2
          go_wp2_with fail
          obtain ⟨t0', t1, t2⟩ := (HX.out.set3' 0 0 ⟨#[]⟩).cells
          have HFin := Lib.hid (Below.set3' HB.out (Nat.le_refl _) (.int .i64 0) (.int .i64 0) (.string ⟨#[]⟩))
          rw [Exit.noGoto_ret]
          refine bodyPost_ret (v := .tuple #[.agg #[.int .i64 0, .int .i64 0, .string ⟨#[]⟩], .int .i64 0, .int .i64 3]) (by simp [results, Tryz.results102, go_sem, t0', t1, t2]) rfl ⟨?_, HFin.out⟩
          rw [HE.out]
          rfl
        · have HE := Lib.hid (hgo.trans (if_neg h64))
          have h64' : decide ((64 : Int) < (acc.length : Int)) = false := by rw [decide_eq_false_iff_not]; omega
          have hcv := conv_rd (P := Tryz.prog) (w := wr) (c := cc) 152 9 5 Tryz.underlying152 Tryz.underlying5 Tryz.underlying9 rfl hr
          have HTx := Lib.hid (vText_any ⟨acc.toArray⟩ wr)
          clear hown hr hd hxc hgo hdn h34
          go_wp2_with fail
          refine HTx.out.mono ?_
          rintro r w2 ⟨rfl, hb2⟩
          have HX2 := Lib.hid (HX.out.below hb2)
          have HB2 := Lib.hid (HB.out.trans (hb2.mono HB.out.size))
          clear hb2 hcv
          obtain ⟨r0, r1, r2⟩ := HX2.out.cells
          have f0 := HX2.out.frozen 0
          have f1 := HX2.out.frozen 1
          have f2 := HX2.out.frozen 2
          have hlx2 := HX2.out.lt
          go_wp2_with fail
          obtain ⟨t0', t1, t2⟩ := (HX2.out.set3' 3 0 ⟨acc.toArray⟩).cells
          have HFin := Lib.hid (Below.set3' HB2.out (Nat.le_refl _) (.int .i64 3) (.int .i64 0) (.string ⟨acc.toArray⟩))
          rw [Exit.noGoto_ret]
          refine bodyPost_ret (v := .tuple #[.agg #[.int .i64 3, .int .i64 0, .string ⟨acc.toArray⟩], .int .i64 ((p : Int) + 1), .int .i64 0]) (by simp [results, Tryz.results102, go_sem, t0', t1, t2]) rfl ⟨?_, HFin.out⟩
          rw [HE.out]
          rfl
      · have k1 : (((s[p]'hps).toNat : Int) == 34) = false := by rw [hxc]; exact v8_ne (n := 34) (by omega) h34
        by_cases h92 : c = 92
        · subst h92
          rw [textGo_esc] at hgo
          obtain ⟨hk, hk0⟩ := escR_size r
          have hxp : (s.extract p s.size).data.toList = 92 :: r := by rw [ext_drop, hd]
          have hxs : (s.extract p s.size).size ≤ 1000000 := by
            have e1 : (s.extract p s.size).size = (s.extract p s.size).data.toList.length := rfl
            rw [e1, hxp, List.length_cons]
            omega
          have HE := Lib.hid (esc_all (s.extract p s.size) r hxp (by omega) wr)
          have k2 : (((s[p]'hps).toNat : Int) == 92) = true := by rw [hxc]; rfl
          obtain ⟨q, hq⟩ : ∃ q, q = escR r := ⟨_, rfl⟩
          rw [← hq] at HE hgo hk hk0
          obtain ⟨b, k, E⟩ := q
          simp only at HE hgo hk hk0
          by_cases hE : E = 0
          · subst hE
            rw [if_neg (fun h => h rfl)] at hgo
            have hkp := hk0 rfl
            have hdk : (92 :: r).drop k = s.data.toList.drop (p + k) := by rw [← hd, List.drop_drop]
            rw [hdk] at hgo
            have HNext := Lib.hid hgo
            have hpk : p + k ≤ s.size := by omega
            have HCat := Lib.hid (show bvs (acc ++ [b]) = bvs (acc ++ [b]) from rfl)
            clear hq hgo hdk hxp hk0 hxc hd hdn
            go_wp2_with fail
            refine HE.out.mono ?_
            rintro r w' ⟨rfl, hbe⟩
            have HX' := Lib.hid (HX.out.below hbe)
            have HB' := Lib.hid (HB.out.trans (hbe.mono HB.out.size))
            have hown2 := own_below hown hbe
            have hlx' : w.heap.size + 1 ≤ w'.heap.size := HX'.out.lt
            clear hbe hown HX HB HE hlx
            go_wp2_with (at_builtin; refine append_rd _ rfl _ _ 152 rfl (w.heap.size + 1) 5 i0 (.int .u8 0) Tryz.underlying152 hi hz0 hz1 hz2 rfl _ _ _ rfl (hown2.alloc _) _ _ _ 1 _ [b] rfl rfl (by intro h; cases h) (Rd.one _ _ _ _ rfl) (by rw [List.length_singleton]; omega) (by simp; omega) ?_; intro v' w1 hown' hgrow)
            have hX1 := Lib.hid (((HX'.out.below (box_below _ _ _)).grown hgrow (by intro h; have := (hown2.lt _ h).1; omega)))
            have hB1 := Lib.hid ((HB'.out.alloc HB'.out.size _).grown hgrow (by simp; omega) (fun g hg => by have := (hown2.lt g hg).1; omega))
            have hw1 : w.heap.size + 1 ≤ w1.heap.size := hX1.out.lt
            clear hgrow
            go_wp2
            go_roundw
            case rel => exact ⟨p + k, acc ++ [b], by omega, by rw [List.length_append, List.length_singleton]; omega, by go_num, ⟨_, hown'⟩, HNext.out, hX1.out, hB1.out⟩
            case measure => simp [intOf]; omega
          · rw [if_pos hE] at hgo
            have HNext := Lib.hid hgo
            have hEb : (E == 0) = false := by rw [beq_eq_false_iff_ne]; exact hE
            have hEb2 : (E != 0) = true := by rw [bne, hEb]; rfl
            clear hq hgo hxp hk0 hk hxc hd hdn hown
            go_wp2_with fail
            refine HE.out.mono ?_
            rintro r w' ⟨rfl, hbe⟩
            have HX' := Lib.hid (HX.out.below hbe)
            have HB' := Lib.hid (HB.out.trans (hbe.mono HB.out.size))
            have hlx' : w.heap.size + 1 ≤ w'.heap.size := HX'.out.lt
            clear hbe HX HB HE hlx
            obtain ⟨r0, r1, r2⟩ := HX'.out.cells
            have f0 := HX'.out.frozen 0
            have f1 := HX'.out.frozen 1
            have f2 := HX'.out.frozen 2
            go_wp2_with fail
            obtain ⟨t0', t1, t2⟩ := (HX'.out.set3' 0 0 ⟨#[]⟩).cells
            have HFin := Lib.hid (Below.set3' HB'.out (Nat.le_refl _) (.int .i64 0) (.int .i64 0) (.string ⟨#[]⟩))
            rw [Exit.noGoto_ret]
            refine bodyPost_ret (v := .tuple #[.agg #[.int .i64 0, .int .i64 0, .string ⟨#[]⟩], .int .i64 0, .int .i64 E]) (by simp [results, Tryz.results102, go_sem, t0', t1, t2]) rfl ⟨?_, HFin.out⟩
            rw [HNext.out]
            rfl
        · have k2 : (((s[p]'hps).toNat : Int) == 92) = false := by rw [hxc]; exact v8_ne (n := 92) (by omega) h92
          rw [textGo_cons, if_neg h34, if_neg h92] at hgo
          have HPl := Lib.hid (plain_any c)
          cases hpc : plainB c
          · rw [hpc] at HPl hgo
            have HE := Lib.hid (hgo.trans (if_neg (by simp)))
            rw [← hxc] at HPl
            clear hgo hxc hd hdn hown hpc h34 h92
            obtain ⟨r0, r1, r2⟩ := HX.out.cells
            have f0 := HX.out.frozen 0
            have f1 := HX.out.frozen 1
            have f2 := HX.out.frozen 2
            go_wp2_with (go_at_call 124; refine (HPl.out _).mono ?_; rintro r w' ⟨rfl, rfl⟩)
            obtain ⟨t0', t1, t2⟩ := (HX.out.set3' 0 0 ⟨#[]⟩).cells
            have HFin := Lib.hid (Below.set3' HB.out (Nat.le_refl _) (.int .i64 0) (.int .i64 0) (.string ⟨#[]⟩))
            rw [Exit.noGoto_ret]
            refine bodyPost_ret (v := .tuple #[.agg #[.int .i64 0, .int .i64 0, .string ⟨#[]⟩], .int .i64 0, .int .i64 8]) (by simp [results, Tryz.results102, go_sem, t0', t1, t2]) rfl ⟨?_, HFin.out⟩
            rw [HE.out]
            rfl
          · rw [hpc] at HPl hgo
            rw [if_pos rfl, ← hdn] at hgo
            have HNext := Lib.hid hgo
            have HC := Lib.hid hxc
            rw [← hxc] at HPl
            clear hgo hxc hd hdn hpc h34 h92
            go_wp2_with (first
              | (go_at_call 124; refine (HPl.out _).mono ?_; rintro r w' ⟨rfl, rfl⟩)
              | (at_builtin; refine append_rd _ rfl _ _ 152 rfl (w.heap.size + 1) 5 i0 (.int .u8 0) Tryz.underlying152 hi hz0 hz1 hz2 rfl _ _ _ rfl (hown.alloc _) _ _ _ 1 _ [c] rfl rfl (by intro h; cases h) (Rd.one _ _ _ _ (by rw [HC.out])) (by rw [List.length_singleton]; omega) (by simp; omega) ?_; intro v' w1 hown' hgrow))
            have hX1 := Lib.hid (((HX.out.below (box_below _ _ _)).grown hgrow (by intro h; have := (hown.lt _ h).1; omega)))
            have hB1 := Lib.hid ((HB.out.alloc HB.out.size _).grown hgrow (by simp; omega) (fun g hg => by have := (hown.lt g hg).1; omega))
            have hw1 : w.heap.size + 1 ≤ w1.heap.size := hX1.out.lt
            clear hgrow
            go_wp2
            go_roundw
            case rel => exact ⟨p + 1, acc ++ [c], by omega, by rw [List.length_append, List.length_singleton]; omega, by go_num, ⟨_, hown'⟩, HNext.out, hX1.out, hB1.out⟩
            case measure => simp [intOf]; omega
end Go.Proofs.YtfpjepeikjfkpaaGreatDoor
