/-
  The document's own answers on keys: first and Parse of conductorref03.
-/
import Derived.Test.YtaldjfijcoppiaaKRefA
import Derived.IntWalk
namespace Go.Proofs.Ytaldjfijcoppiaa
open Go.RowKit

/-- What first answers. -/
def firstV : Option (List UInt8 × List UInt8) → Value
  | some (x, r) => .tuple #[.string ⟨x.toArray⟩, .string ⟨r.toArray⟩, .bool true]
  | none => .tuple #[.string ⟨#[]⟩, .string ⟨#[]⟩, .bool false]

theorem drop_at (s : ByteArray) (k : Nat) (h : k < s.size) : s.data.toList.drop k = s[k] :: s.data.toList.drop (k + 1) := by
  rw [List.drop_eq_getElem_cons (by simpa using h)]; rfl
theorem extract_drop (s : ByteArray) (k : Nat) : s.extract k s.size = ⟨(s.data.toList.drop k).toArray⟩ := by
  apply ByteArray.ext
  rw [ByteArray.data_extract]
  apply Array.toList_inj.1
  rw [Array.toList_extract]
  show List.extract _ _ _ = _
  unfold List.extract
  have : s.data.toList.length = s.size := rfl
  rw [List.take_of_length_le (by rw [List.length_drop]; omega)]
theorem extract_take (s : ByteArray) (k : Nat) : s.extract 0 k = ⟨(s.data.toList.take k).toArray⟩ := by
  apply ByteArray.ext
  rw [ByteArray.data_extract]
  apply Array.toList_inj.1
  rw [Array.toList_extract]
  show List.extract _ _ _ = _
  unfold List.extract
  rw [List.drop_zero, Nat.sub_zero]
theorem first_short {l : List UInt8} (h : l.length ≤ 1) : firstL l = none := by
  match l, h with
  | [], _ => rfl
  | [_], _ => rfl
theorem first_bad {b : UInt8} (h1 : b ≠ 1) (h2 : b ≠ 255) (t : List UInt8) : firstL (0 :: b :: t) = none := by simp [firstL, h1, h2]
theorem u8_ne {b : UInt8} {n : Nat} (hn : n < 256) (h : b ≠ UInt8.ofNat n) : ((b.toNat : Int) == (n : Int)) = false := by
  rw [beq_eq_false_iff_ne]
  intro e
  apply h
  apply UInt8.toNat_inj.1
  rw [UInt8.toNat_ofNat']
  omega
theorem u8_eq {b : UInt8} {n : Nat} (hn : n < 256) (h : b = UInt8.ofNat n) : ((b.toNat : Int) == (n : Int)) = true := by
  rw [h, beq_iff_eq, UInt8.toNat_ofNat']
  omega

set_option maxRecDepth 100000 in
set_option maxHeartbeats 2000000 in
theorem first_any (s : ByteArray) (w : World) (hs : s.size ≤ 5000) :
    Calls Try.prog 28 #[.string s] w fun r w' => r = .returned (firstV (firstL s.data.toList)) ∧ Below w.heap.size w w' := by
  obtain ⟨i0, hi, hz0, hz1, hz2⟩ := infoByte
  have I0 := Lib.hid hi
  have I1 := Lib.hid hz0
  have I2 := Lib.hid hz1
  have I3 := Lib.hid hz2
  clear hi hz0 hz1 hz2
  go_enter Try.func28, Try.ntmps28
  go_wp2
  go_loopg [5, 6] s.size (fun q v i wr => ∃ (k n : Nat) (o : List UInt8), k + q = s.size ∧ i = .int .i64 k ∧ wr.ownsRow w.heap.size 5 1 v n (bvs o) ∧ o.length ≤ k ∧ firstL s.data.toList = (firstL (s.data.toList.drop k)).map (fun x => (o ++ x.1, x.2)) ∧ Below w.heap.size w wr)
  case atStart =>
    refine ⟨0, 0, [], by omega, rfl, own_empty w _, Nat.le_refl _, ?_, (Below.refl _ w).alloc (Nat.le_refl _) _⟩
    rw [List.drop_zero]
    cases firstL s.data.toList <;> rfl
  case round =>
    obtain ⟨k, n, o, hk, rfl, hown, ho, hf, hb⟩ := hrel
    have HK := Lib.hid hk
    have HF := Lib.hid hf
    have HB := Lib.hid hb
    have hn : n = o.length := by have := hown.1; rw [bvs_length] at this; omega
    have hnn : n ≤ 5000 := by omega
    have hok : o.length ≤ 5000 := by omega
    have HL := Lib.hid hok
    have HO := Lib.hid ho
    clear hn hf hb ho hok
    by_cases hj : k + 1 < s.size
    · have hlt : decide ((k : Int) + 1 < (s.size : Int)) = true := by
        rw [decide_eq_true_iff]; omega
      have hj0 : k < s.size := by omega
      have hk64 : (k : Int) + 1 ≤ 5001 := by omega
      have hd := drop_at s k hj0
      have hd1 := drop_at s (k + 1) hj
      have HD := Lib.hid hd
      have HD1 := Lib.hid hd1
      clear hk hd hd1
      by_cases hc : s[k] = 0
      · have hz : ((s[k].toNat : Int) != 0) = false := by
          have := u8_eq (n := 0) (by omega) hc
          simpa [bne] using this
        have HC := Lib.hid hc
        clear hc
        by_cases h1 : s[k + 1] = 1
        · have hz1 : ((s[k + 1].toNat : Int) == 1) = true := u8_eq (n := 1) (by omega) h1
          have he : firstL s.data.toList = some (o, s.data.toList.drop (k + 1 + 1)) := by
            rw [HF.out, HD.out, HD1.out, HC.out, h1, first_zero]
            simp
          have HE := Lib.hid he
          obtain ⟨A9, c9, rfl⟩ := own_slice hown
          have hcv : ∀ q, (convert 49 9 (.slice A9 n c9)).run Try.prog (wr.drewN q) = .ok (.string ⟨o.toArray⟩) (wr.drewN q) := fun q =>
            conv_rd (w := wr.drewN q) 49 9 5 Try.underlying49 Try.underlying5 Try.underlying9 (c := c9) (Rd.own hown).1 (show Rd wr _ _ _ _ from (Rd.own hown).2.2.2.2)
          clear h1 he hown
          have hle2 : (k : Int) + 2 ≤ (s.size : Int) := by omega
          have h02 : (0 : Int) ≤ (k : Int) + 2 := by omega
          go_wp2_with fail
          have s2 : IntKind.i64.wrap ((k : Int) + 2) = (k : Int) + 2 := IntWalk.i64_in _ (by omega)
          have t2 : ((k : Int) + 2).toNat = k + 2 := by omega
          go_quiet (fail)
          clear s2 t2 hcv
          go_wp2_with fail
          go_ret3
          refine ⟨?_, HB.out.trans ((below_drewN' wr nq).mono HB.out.size)⟩
          rw [HE.out, extract_drop]
          rfl
        · have hz1 : ((s[k + 1].toNat : Int) == 1) = false := u8_ne (n := 1) (by omega) h1
          by_cases h2 : s[k + 1] = 255
          · have hz2 : ((s[k + 1].toNat : Int) != 255) = false := by
              have := u8_eq (n := 255) (by omega) h2
              simpa [bne] using this
            have H2 := Lib.hid h2
            clear h1 h2
            go_wp2_with (at_builtin; refine append_rd _ rfl _ _ 49 rfl w.heap.size 5 i0 (.int .u8 0) Try.underlying49 I0.out I1.out I2.out I3.out rfl _ _ _ rfl (hown.alloc _) _ _ _ 1 _ [0] rfl rfl (by intro h; cases h) (Rd.one _ _ _ _ rfl) (by have := HL.out; simp; omega) (by have := HB.out.size; simp; omega) ?_; intro v1 w1 hown1 hgrow1; have hb1 : Below w.heap.size w w1 := (HB.out.alloc HB.out.size _).grown hgrow1 (by have := HB.out.size; simp; omega) (fun g hg => (hown.lt g hg).1); clear hgrow1)
            go_roundg (gk - 2)
            case measure => have := HK.out; omega
            case rel =>
              refine ⟨k + 1 + 1, n + 1, o ++ [0], by have := HK.out; omega, by go_num, hown1, by have := HO.out; simp; omega, ?_, hb1⟩
              rw [HF.out, HD.out, HD1.out, HC.out, H2.out, first_ff]
              cases firstL (s.data.toList.drop (k + 1 + 1)) <;> simp
          · have hz2 : ((s[k + 1].toNat : Int) != 255) = true := by
              have := u8_ne (n := 255) (by omega) h2
              simpa [bne] using this
            have he : firstL s.data.toList = none := by
              rw [HF.out, HD.out, HD1.out, HC.out, first_bad h1 h2]
              rfl
            have HE := Lib.hid he
            clear he h1 h2 hown
            go_wp2_with fail
            go_ret3
            exact ⟨by rw [HE.out]; rfl, HB.out⟩
      · have hz : ((s[k].toNat : Int) != 0) = true := by
          have := u8_ne (n := 0) (by omega) hc
          simpa [bne] using this
        have HC := Lib.hid hc
        clear hc
        go_wp2_with (at_builtin; refine append_rd _ rfl _ _ 49 rfl w.heap.size 5 i0 (.int .u8 0) Try.underlying49 I0.out I1.out I2.out I3.out rfl _ _ _ rfl (hown.alloc _) _ _ _ 1 _ [s[k]'hj0] rfl rfl (by intro h; cases h) (Rd.one _ _ _ _ rfl) (by have := HL.out; simp; omega) (by have := HB.out.size; simp; omega) ?_; intro v1 w1 hown1 hgrow1; have hb1 : Below w.heap.size w w1 := (HB.out.alloc HB.out.size _).grown hgrow1 (by have := HB.out.size; simp; omega) (fun g hg => (hown.lt g hg).1); clear hgrow1)
        go_roundg (gk - 1)
        case measure => have := HK.out; omega
        case rel =>
          refine ⟨k + 1, n + 1, o ++ [s[k]'hj0], by have := HK.out; omega, by go_num, hown1, by have := HO.out; simp; omega, ?_, hb1⟩
          rw [HF.out, HD.out, first_ne HC.out]
          cases firstL (s.data.toList.drop (k + 1)) <;> simp
    · have hlt : decide ((k : Int) + 1 < (s.size : Int)) = false := by
        rw [decide_eq_false_iff_not]; omega
      have he : firstL s.data.toList = none := by
        rw [HF.out, first_short (by rw [List.length_drop]; have : s.data.toList.length = s.size := rfl; omega)]
        rfl
      have HE := Lib.hid he
      have hk64 : (k : Int) + 1 ≤ 5001 := by omega
      clear he hk hown
      go_wp2_with fail
      go_ret3
      exact ⟨by rw [HE.out]; rfl, HB.out⟩

theorem first_l (l : List UInt8) (w : World) (h : l.length ≤ 5000) :
    Calls Try.prog 28 #[.string ⟨l.toArray⟩] w fun r w' => r = .returned (firstV (firstL l)) ∧ Below w.heap.size w w' := by
  have := first_any ⟨l.toArray⟩ w (by simpa [ByteArray.size] using h)
  simpa using this

def toBA (l : List UInt8) : ByteArray := ⟨l.toArray⟩
/-- A key's kind and parts, and the error. -/
def parseL : List UInt8 → Int × List (List UInt8) × Int
  | [] => (0, [], 31)
  | c :: t => match partsL t.length t with
    | none => (0, [], 31)
    | some ps => ((c.toNat : Int), ps, 0)
theorem parseL_some {c : UInt8} {t : List UInt8} {ps : List (List UInt8)} (h : partsL t.length t = some ps) : parseL (c :: t) = ((c.toNat : Int), ps, 0) := by
  show (match partsL t.length t with | none => ((0 : Int), ([] : List (List UInt8)), (31 : Int)) | some ps => ((c.toNat : Int), ps, 0)) = _
  rw [h]
theorem parseL_none {c : UInt8} {t : List UInt8} (h : partsL t.length t = none) : parseL (c :: t) = (0, [], 31) := by
  show (match partsL t.length t with | none => ((0 : Int), ([] : List (List UInt8)), (31 : Int)) | some ps => ((c.toNat : Int), ps, 0)) = _
  rw [h]
def RetParse (L : List UInt8) (w : World) (r : Ending) (w' : World) : Prop :=
  ∃ A c, r = .returned (.tuple #[.int .u8 (parseL L).1, .slice A (parseL L).2.1.length c, .int .i64 (parseL L).2.2]) ∧ (parseL L).2.1.length ≤ c ∧ (A = none → c = 0) ∧ RowS w' w.heap.size w'.heap.size A ((parseL L).2.1.map toBA) ∧ Below w.heap.size w w'

theorem parts_step {r x m : List UInt8} (h : firstL r = some (x, m)) : partsL r.length r = (partsL m.length m).map fun l => x :: l := by
  have hl := first_len h
  cases r with
  | nil => cases h
  | cons c r =>
    show (firstL (c :: r)).bind _ = _
    rw [h]
    show (partsL r.length m).map _ = _
    rw [parts_fuel r.length (by simp at hl; omega)]
theorem parts_stop {r : List UInt8} (h : firstL r = none) (hn : r ≠ []) : partsL r.length r = none := by
  cases r with
  | nil => exact absurd rfl hn
  | cons c r =>
    show (firstL (c :: r)).bind _ = _
    rw [h]
    rfl

set_option maxRecDepth 100000 in
set_option maxHeartbeats 2000000 in
theorem refParse_any (c : UInt8) (t : List UInt8) (w : World) (ht : t.length ≤ 5000) :
    Calls Try.prog 12 #[.string ⟨(c :: t).toArray⟩] w (RetParse (c :: t) w) := by
  obtain ⟨i0, hi0, hz0, hz1, hz2⟩ := infoStr
  have I0 := Lib.hid hi0
  have I1 := Lib.hid hz0
  have I2 := Lib.hid hz1
  have I3 := Lib.hid hz2
  clear hi0 hz0 hz1 hz2
  go_enter Try.func12, Try.ntmps12
  go_wp2
  go_loopg [5, 6] t.length (fun q v u wr => ∃ (rest : List UInt8) (ps : List (List UInt8)) (n : Nat), q = rest.length ∧ u = .string ⟨rest.toArray⟩ ∧ wr.ownsRow w.heap.size 9 1 v n ((ps.map toBA).map Value.string) ∧ ps.length + rest.length ≤ t.length ∧ partsL t.length t = (partsL rest.length rest).map (fun l => ps ++ l) ∧ Below w.heap.size w wr)
  case atStart =>
    refine ⟨t, [], 0, rfl, ?_, World.ownsRow_nil _ _ _ _, by simp, ?_, Below.refl _ _⟩
    · have h := extract_drop ⟨(c :: t).toArray⟩ 1
      have hz : (⟨(c :: t).toArray⟩ : ByteArray).size = t.length + 1 := by simp [ByteArray.size]
      rw [hz] at h
      rw [h]
      simp
    · cases partsL t.length t <;> simp
  case round =>
    obtain ⟨rest, ps, n, hk, rfl, hown, hle, hp, hb⟩ := hrel
    have HK := Lib.hid hk
    have HP := Lib.hid hp
    have HB := Lib.hid hb
    have HL := Lib.hid hle
    clear hk hp hb hle
    rcases rest with _ | ⟨a, rest⟩
    · have he : parseL (c :: t) = ((c.toNat : Int), ps, 0) := parseL_some (by rw [HP.out]; simp [partsL])
      have HE := Lib.hid he
      obtain ⟨A9, c9, rfl, hn9, hc9, hz9, hr9⟩ := RowS.own hown
      have HX := Lib.hid (And.intro hn9 (And.intro hz9 hr9))
      have HC9 := Lib.hid hc9
      clear he hn9 hc9 hz9 hr9 hown
      go_wp2_with fail
      go_ret3
      have hn : n = ps.length := by simpa using HX.out.1
      refine ⟨A9, c9, ?_, ?_, HX.out.2.1, ?_, HB.out⟩
      · rw [HE.out, hn]; rfl
      · rw [HE.out]
        have h9 := HC9.out
        rw [hn] at h9
        exact h9
      · rw [HE.out]; exact HX.out.2.2
    · cases hf : firstL (a :: rest) with
      | none =>
        have he : parseL (c :: t) = (0, [], 31) := parseL_none (by rw [HP.out, parts_stop hf (by simp)]; rfl)
        have HE := Lib.hid he
        have HF := Lib.hid hf
        have hl5 : (a :: rest).length ≤ 5000 := by have := HL.out; omega
        have HL5 := Lib.hid hl5
        clear he hf hl5 hown
        go_wp2_with fail
        refine (first_l (a :: rest) _ HL5.out).mono ?_
        rw [HF.out]
        rintro r w2 ⟨rfl, hb2⟩
        have HB2 := Lib.hid (HB.out.trans (hb2.mono HB.out.size))
        clear hb2
        rw [show firstV none = .tuple #[.string ⟨#[]⟩, .string ⟨#[]⟩, .bool false] from rfl]
        go_wp2_with fail
        go_ret3
        refine ⟨none, 0, ?_, ?_, fun _ => rfl, fun h => ?_, HB2.out⟩
        · rw [HE.out]; rfl
        · rw [HE.out]; exact Nat.le_refl _
        · rw [HE.out] at h; exact absurd h (by simp)
      | some xm =>
        obtain ⟨x, m⟩ := xm
        have HF := Lib.hid hf
        have hl5 : (a :: rest).length ≤ 5000 := by have := HL.out; omega
        have HL5 := Lib.hid hl5
        have HM := Lib.hid (first_len hf)
        clear hf hl5
        go_wp2_with fail
        refine (first_l (a :: rest) _ HL5.out).mono ?_
        rw [HF.out]
        rintro r w2 ⟨rfl, hb2⟩
        have HB2 := Lib.hid (HB.out.trans (hb2.mono HB.out.size))
        have HO := Lib.hid (own_below hown (w' := w2) (B' := w.heap.size) (fun g _ hg => hb2.block g hg) (Nat.le_refl _))
        clear hb2 hown
        rw [show firstV (some (x, m)) = .tuple #[.string ⟨x.toArray⟩, .string ⟨m.toArray⟩, .bool true] from rfl]
        go_wp2_with (at_builtin; refine append_strs _ rfl _ _ 22 rfl w.heap.size 9 i0 _ Try.underlying22 I0.out I1.out I2.out I3.out rfl _ _ (ps.map toBA) rfl (HO.out.alloc _) _ _ _ 1 _ [toBA x] rfl rfl (by intro h; cases h) (RowS.one _ _ _) (by have := HL.out; simp at this ⊢; omega) (by have := HB2.out.size; simp; omega) ?_; intro v1 w3 hown1 hgrow1; have hb3 : Below w.heap.size w w3 := (HB2.out.alloc HB2.out.size _).grown hgrow1 (by have := HB2.out.size; simp; omega) (fun g hg => (HO.out.lt g hg).1); clear hgrow1)
        go_roundg m.length
        case measure => have := HK.out; have := HM.out; omega
        case rel =>
          refine ⟨m, ps ++ [x], n + 1, rfl, rfl, ?_, ?_, ?_, hb3⟩
          · simpa using hown1
          · have := HL.out
            have := HM.out
            simp at *
            omega
          · rw [HP.out, parts_step HF.out]
            cases partsL m.length m <;> simp
end Go.Proofs.Ytaldjfijcoppiaa
