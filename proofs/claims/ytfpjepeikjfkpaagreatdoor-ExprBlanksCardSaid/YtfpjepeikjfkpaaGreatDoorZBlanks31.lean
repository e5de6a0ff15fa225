import Derived.Test.YtfpjepeikjfkpaaGreatDoorZBlanks30
/-
  Package value: texts and words that any text begins with; Parse of any text.
-/
namespace Go.Proofs.YtfpjepeikjfkpaaGreatDoor
open Go.RowKit

/-- What stands behind a backslash: the byte, how many bytes there are with it, and the error. -/
def escR : List UInt8 → UInt8 × Nat × Int
  | [] => (0, 0, 6)
  | d :: r2 => if d = 34 ∨ d = 92 then (d, 2, 0) else match r2 with
    | [] => (0, 0, 8)
    | e :: _ => match hexVal d, hexVal e with
      | some x, some y => if plainB (UInt8.ofNat (16 * x + y)) = true then (0, 0, 8) else (UInt8.ofNat (16 * x + y), 3, 0)
      | _, _ => (0, 0, 8)
theorem textGo_esc (r acc : List UInt8) (p : Nat) : textGo (92 :: r) acc p = if (escR r).2.2 ≠ 0 then (V0, 0, (escR r).2.2) else textGo ((92 :: r).drop (escR r).2.1) (acc ++ [(escR r).1]) (p + (escR r).2.1) := by
  rw [textGo_cons, if_neg (by decide), if_pos rfl]
  cases r with
  | nil => rfl
  | cons d r2 =>
    have fin : ∀ q : UInt8 × Nat × Int, escR (d :: r2) = q → ∀ x, x = (if q.2.2 ≠ 0 then (V0, 0, q.2.2) else textGo ((92 :: d :: r2).drop q.2.1) (acc ++ [q.1]) (p + q.2.1)) → x = if (escR (d :: r2)).2.2 ≠ 0 then (V0, 0, (escR (d :: r2)).2.2) else textGo ((92 :: d :: r2).drop (escR (d :: r2)).2.1) (acc ++ [(escR (d :: r2)).1]) (p + (escR (d :: r2)).2.1) := by
      intro q hq x hx
      subst hq
      exact hx
    simp only
    by_cases hd : d = 34 ∨ d = 92
    · rw [if_pos hd]
      exact fin (d, 2, 0) (by simp [escR, hd]) _ rfl
    · rw [if_neg hd]
      cases r2 with
      | nil => exact fin (0, 0, 8) (by simp [escR, hd]) _ rfl
      | cons e r3 =>
        simp only
        cases h1 : hexVal d with
        | none => exact fin (0, 0, 8) (by simp [escR, hd, h1]) _ rfl
        | some x =>
          cases h2 : hexVal e with
          | none => exact fin (0, 0, 8) (by simp [escR, hd, h1, h2]) _ rfl
          | some y =>
            simp only
            by_cases hp : plainB (UInt8.ofNat (16 * x + y)) = true
            · rw [if_pos hp]
              exact fin (0, 0, 8) (by unfold escR; simp only; rw [if_neg hd]; simp only [h1, h2]; rw [if_pos hp]) _ rfl
            · rw [if_neg hp]
              exact fin (UInt8.ofNat (16 * x + y), 3, 0) (by unfold escR; simp only; rw [if_neg hd]; simp only [h1, h2]; rw [if_neg hp]) _ rfl
def hexL : List UInt8 := [48, 49, 50, 51, 52, 53, 54, 55, 56, 57, 97, 98, 99, 100, 101, 102]
theorem hex_fin : ∀ n : Fin 256, Lib.indexByte hexL (UInt8.ofNat n.val) = (match hexVal (UInt8.ofNat n.val) with | some x => (x : Int) | none => -1) := by decide +kernel
theorem hex_idx (c : UInt8) : Lib.indexByte hexL c = (match hexVal c with | some x => (x : Int) | none => -1) := by
  have := hex_fin ⟨c.toNat, c.toNat_lt⟩
  simpa using this

set_option maxHeartbeats 1000000 in
theorem esc_end (s : ByteArray) (hs : s.data.toList = [92]) (w : World) :
    Calls Tryz.prog 128 #[.string s] w fun e w' => e = .returned (.tuple #[.int .u8 0, .int .i64 0, .int .i64 6]) ∧ w' = w := by
  have hl : s.size = 1 := by
    show s.data.toList.length = _
    rw [hs]; rfl
  have hb1 : ((s.size : Int) == 1) = true := by rw [hl]; rfl
  clear hs hl
  go_enter Tryz.func128, Tryz.ntmps128
  go_wp2
  go_ret3
  exact ⟨rfl, rfl⟩
set_option maxHeartbeats 1000000 in
theorem esc_alone (s : ByteArray) (d : UInt8) (hs : s.data.toList = [92, d]) (hd : ¬ (d = 34 ∨ d = 92)) (w : World) :
    Calls Tryz.prog 128 #[.string s] w fun e w' => e = .returned (.tuple #[.int .u8 0, .int .i64 0, .int .i64 8]) ∧ w' = w := by
  have hl : s.size = 2 := by
    show s.data.toList.length = _
    rw [hs]; rfl
  have h1 : 1 < s.size := by omega
  have hb1 : ((s.size : Int) == 1) = false := by rw [hl]; rfl
  have hb2 : ((s.size : Int) == 2) = true := by rw [hl]; rfl
  have hi1 : (1 : Int) < (s.size : Int) := by omega
  have hx : s[1] = d := by rw [at_list s _ hs 1 h1]; rfl
  have k1 : ((s[1].toNat : Int) == 34) = false := by rw [hx]; exact v8_ne (n := 34) (by omega) (fun h => hd (.inl h))
  have k2 : ((s[1].toNat : Int) == 92) = false := by rw [hx]; exact v8_ne (n := 92) (by omega) (fun h => hd (.inr h))
  clear hs hl hd hx
  go_enter Tryz.func128, Tryz.ntmps128
  go_wp2
  go_ret3
  exact ⟨rfl, rfl⟩

/- ESC -/
/-- Where a byte stands among the hexadecimal digits; -1: nowhere. -/
def hexI (c : UInt8) : Int := match hexVal c with
  | some x => (x : Int)
  | none => -1
theorem hex_any (c : UInt8) (w : World) : Calls Tryz.prog 138 #[.string ⟨#[48, 49, 50, 51, 52, 53, 54, 55, 56, 57, 97, 98, 99, 100, 101, 102]⟩, .int .u8 (c.toNat : Int)] w fun e w' => e = .returned (.int .i64 (hexI c)) ∧ w' = w := by
  have h := indexByte_any ⟨#[48, 49, 50, 51, 52, 53, 54, 55, 56, 57, 97, 98, 99, 100, 101, 102]⟩ (c.toNat : Int) w
  have u8 : ((c.toNat : Int)).toNat.toUInt8 = c := by simp
  rw [u8, show (⟨#[48, 49, 50, 51, 52, 53, 54, 55, 56, 57, 97, 98, 99, 100, 101, 102]⟩ : ByteArray).data.toList = hexL from rfl, hex_idx] at h
  exact h
set_option maxRecDepth 100000 in
set_option maxHeartbeats 2000000 in
theorem esc_bad (s : ByteArray) (d e : UInt8) (r : List UInt8) (hs : s.data.toList = 92 :: d :: e :: r) (hd : ¬ (d = 34 ∨ d = 92)) (hn : s.size ≤ 4611686018427387904) (hno : hexVal d = none ∨ hexVal e = none) (w : World) :
    Calls Tryz.prog 128 #[.string s] w fun x w' => x = .returned (.tuple #[.int .u8 0, .int .i64 0, .int .i64 8]) ∧ Below w.heap.size w w' := by
  have hl : s.size = r.length + 3 := by
    show s.data.toList.length = _
    rw [hs]; rfl
  have h1 : 1 < s.size := by omega
  have h2 : 2 < s.size := by omega
  have hb1 : ((s.size : Int) == 1) = false := by rw [beq_eq_false_iff_ne]; omega
  have hb2 : ((s.size : Int) == 2) = false := by rw [beq_eq_false_iff_ne]; omega
  have hi1 : decide ((1 : Int) < (s.size : Int)) = true := by rw [decide_eq_true_iff]; omega
  have hi2 : (2 : Int) < (s.size : Int) := by omega
  have hx1 : s[1] = d := by rw [at_list s _ hs 1 h1]; rfl
  have hx2 : s[2] = e := by rw [at_list s _ hs 2 h2]; rfl
  have k1 : ((s[1].toNat : Int) == 34) = false := by rw [hx1]; exact v8_ne (n := 34) (by omega) (fun h => hd (.inl h))
  have k2 : ((s[1].toNat : Int) == 92) = false := by rw [hx1]; exact v8_ne (n := 92) (by omega) (fun h => hd (.inr h))
  have I1 := Lib.hid (hex_any s[1])
  have I2 := Lib.hid (hex_any s[2])
  rw [show hexI s[1] = hexI d by rw [hx1]] at I1
  rw [show hexI s[2] = hexI e by rw [hx2]] at I2
  have hneg : (decide (hexI d < 0) = true ∧ True) ∨ (decide (hexI d < 0) = false ∧ decide (hexI e < 0) = true) := by
    by_cases h0 : hexI d < 0
    · exact .inl ⟨by simpa using h0, trivial⟩
    · right
      refine ⟨by simpa using h0, ?_⟩
      rcases hno with h | h
      · exact absurd (show hexI d < 0 by unfold hexI; rw [h]; decide) h0
      · unfold hexI; rw [h]; rfl
  clear hno
  generalize hexI d = H at *
  generalize hexI e = Lw at *
  clear hs hl hx1 hx2 hd
  go_enter Tryz.func128, Tryz.ntmps128
  go_upto_region 7 with fail
  refine wp_region_class' (C := fun w' => Below w.heap.size w w') (by kernel_rfl) (by kernel_rfl) (Below.refl _ _).drew ?_
  have J1 := Lib.hid (fun (wx : World) (hb : Below w.heap.size w wx) => same_from' hb (I1.out wx))
  have J2 := Lib.hid (fun (wx : World) (hb : Below w.heap.size w wx) => same_from' hb (I2.out wx))
  quiet_step ((intro _; exact rfl))
  quiet_step ((intro _; exact rfl))
  quiet_step ((intro hw; with_reducible exact J1.out _ hw))
  quiet_step ((intro _; exact rfl))
  quiet_step ((intro _; exact rfl))
  quiet_step ((intro hw; with_reducible exact J2.out _ hw))
  quiet_step ((intro _; exact rfl))
  quiet_step ((intro _; exact rfl))
  refine wpQuiet_nil ?_
  intro w8 hb8
  have HB := Lib.hid hb8
  clear hb8
  rcases hneg with ⟨g1, g2⟩ | ⟨g1, g2⟩
  all_goals
    go_wp2
    go_ret3
    exact ⟨rfl, HB.out⟩
set_option maxRecDepth 100000 in
set_option maxHeartbeats 2000000 in
theorem esc_good (s : ByteArray) (d e : UInt8) (r : List UInt8) (hs : s.data.toList = 92 :: d :: e :: r) (hd : ¬ (d = 34 ∨ d = 92)) (hn : s.size ≤ 4611686018427387904) (x y : Nat) (hv1 : hexVal d = some x) (hv2 : hexVal e = some y) (w : World) :
    Calls Tryz.prog 128 #[.string s] w fun q w' => q = .returned (if plainB (UInt8.ofNat (16 * x + y)) = true then .tuple #[.int .u8 0, .int .i64 0, .int .i64 8] else .tuple #[.int .u8 ((UInt8.ofNat (16 * x + y)).toNat : Int), .int .i64 3, .int .i64 0]) ∧ Below w.heap.size w w' := by
  have hx16 := hexVal_lt hv1
  have hy16 := hexVal_lt hv2
  have hl : s.size = r.length + 3 := by
    show s.data.toList.length = _
    rw [hs]; rfl
  have h1 : 1 < s.size := by omega
  have h2 : 2 < s.size := by omega
  have hb1 : ((s.size : Int) == 1) = false := by rw [beq_eq_false_iff_ne]; omega
  have hb2 : ((s.size : Int) == 2) = false := by rw [beq_eq_false_iff_ne]; omega
  have hi1 : decide ((1 : Int) < (s.size : Int)) = true := by rw [decide_eq_true_iff]; omega
  have hi2 : (2 : Int) < (s.size : Int) := by omega
  have hx1 : s[1] = d := by rw [at_list s _ hs 1 h1]; rfl
  have hx2 : s[2] = e := by rw [at_list s _ hs 2 h2]; rfl
  have k1 : ((s[1].toNat : Int) == 34) = false := by rw [hx1]; exact v8_ne (n := 34) (by omega) (fun h => hd (.inl h))
  have k2 : ((s[1].toNat : Int) == 92) = false := by rw [hx1]; exact v8_ne (n := 92) (by omega) (fun h => hd (.inr h))
  have I1 := Lib.hid (hex_any s[1])
  have I2 := Lib.hid (hex_any s[2])
  rw [show hexI s[1] = hexI d by rw [hx1]] at I1
  rw [show hexI s[2] = hexI e by rw [hx2]] at I2
  rw [show hexI d = (x : Int) by unfold hexI; rw [hv1]] at I1
  rw [show hexI e = (y : Int) by unfold hexI; rw [hv2]] at I2
  have hm : ((UInt8.ofNat (16 * x + y)).toNat : Int) = 16 * (x : Int) + (y : Int) := by
    have : (UInt8.ofNat (16 * x + y)).toNat = 16 * x + y := by rw [UInt8.toNat_ofNat']; omega
    omega
  have HPl := Lib.hid (plain_any (UInt8.ofNat (16 * x + y)))
  rw [hm] at HPl ⊢
  have g1 : decide ((x : Int) < 0) = false := by simp
  have g2 : decide ((y : Int) < 0) = false := by simp
  clear hv1 hv2 hm
  cases hp : plainB (UInt8.ofNat (16 * x + y))
  all_goals
    rw [hp] at HPl
    clear hp
    clear hs hl hx1 hx2 hd
    go_enter Tryz.func128, Tryz.ntmps128
    go_upto_region 7 with fail
    refine wp_region_class' (C := fun w' => Below w.heap.size w w') (by kernel_rfl) (by kernel_rfl) (Below.refl _ _).drew ?_
    have J1 := Lib.hid (fun (wx : World) (hb : Below w.heap.size w wx) => same_from' hb (I1.out wx))
    have J2 := Lib.hid (fun (wx : World) (hb : Below w.heap.size w wx) => same_from' hb (I2.out wx))
    quiet_step ((intro _; exact rfl))
    quiet_step ((intro _; exact rfl))
    quiet_step ((intro hw; with_reducible exact J1.out _ hw))
    quiet_step ((intro _; exact rfl))
    quiet_step ((intro _; exact rfl))
    quiet_step ((intro hw; with_reducible exact J2.out _ hw))
    quiet_step ((intro _; exact rfl))
    quiet_step ((intro _; exact rfl))
    refine wpQuiet_nil ?_
    intro w8 hb8
    have HB := Lib.hid hb8
    clear hb8
    go_wp2_with (go_at_call 124; refine (HPl.out _).mono ?_; rintro r w' ⟨rfl, rfl⟩)
    go_ret3
    exact ⟨rfl, HB.out⟩
/-- What stands behind a backslash, whatever it is. -/
theorem esc_all (s : ByteArray) (r : List UInt8) (hs : s.data.toList = 92 :: r) (hn : s.size ≤ 4611686018427387904) (w : World) :
    Calls Tryz.prog 128 #[.string s] w fun x w' => x = .returned (.tuple #[.int .u8 ((escR r).1.toNat : Int), .int .i64 ((escR r).2.1 : Int), .int .i64 (escR r).2.2]) ∧ Below w.heap.size w w' := by
  have same : ∀ {P : Program} {f : FuncId} {args : Array Value} {v : Value}, (Calls P f args w fun r w' => r = .returned v ∧ w' = w) → Calls P f args w fun r w' => r = .returned v ∧ Below w.heap.size w w' := fun h => h.mono fun _ _ ⟨a, b⟩ => ⟨a, by rw [b]; exact Below.refl _ _⟩
  cases r with
  | nil => exact same (esc_end s hs w)
  | cons d r2 =>
    by_cases hd : d = 34 ∨ d = 92
    · have e : escR (d :: r2) = (d, 2, 0) := by unfold escR; simp only; rw [if_pos hd]
      rw [e]
      exact same (esc_two s d r2 hs hd hn w)
    · cases r2 with
      | nil =>
        have e : escR [d] = (0, 0, 8) := by unfold escR; simp only; rw [if_neg hd]
        rw [e]
        exact same (esc_alone s d hs hd w)
      | cons e r3 =>
        have eq : escR (d :: e :: r3) = (match hexVal d, hexVal e with
          | some x, some y => if plainB (UInt8.ofNat (16 * x + y)) = true then (0, 0, 8) else (UInt8.ofNat (16 * x + y), 3, 0)
          | _, _ => (0, 0, 8)) := by unfold escR; simp only; rw [if_neg hd]
        cases h1 : hexVal d with
        | none =>
          rw [h1] at eq
          rw [eq]
          exact esc_bad s d e r3 hs hd hn (.inl h1) w
        | some x =>
          cases h2 : hexVal e with
          | none =>
            rw [h1, h2] at eq
            rw [eq]
            exact esc_bad s d e r3 hs hd hn (.inr h2) w
          | some y =>
            rw [h1, h2] at eq
            have eq2 : escR (d :: e :: r3) = if plainB (UInt8.ofNat (16 * x + y)) = true then (0, 0, 8) else (UInt8.ofNat (16 * x + y), 3, 0) := eq
            rw [eq2]
            refine (esc_good s d e r3 hs hd hn x y h1 h2 w).mono ?_
            rintro q w' ⟨rfl, hb⟩
            refine ⟨?_, hb⟩
            cases plainB (UInt8.ofNat (16 * x + y)) <;> rfl
end Go.Proofs.YtfpjepeikjfkpaaGreatDoor
