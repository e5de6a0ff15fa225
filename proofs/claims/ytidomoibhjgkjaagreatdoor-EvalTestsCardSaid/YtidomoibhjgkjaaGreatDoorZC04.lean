import Derived.Test.YtidomoibhjgkjaaGreatDoorZC01
import Derived.WalkKit
import Derived.Laws.NewBlocks
import Derived.Deep.LoopGhost
import Derived.Test.YtidomoibhjgkjaaGreatDoorZC03
/-
  Names, as package key answers them (Name), apart from all else that is known of keys: for the stages that call it.
-/
namespace Go.Proofs.YtidomoibhjgkjaaGreatDoor.nm
open Go.RowKit

theorem u8_ne {b : UInt8} {n : Nat} (hn : n < 256) (h : b ≠ UInt8.ofNat n) : ((b.toNat : Int) == (n : Int)) = false := by
  rw [beq_eq_false_iff_ne]
  intro e
  apply h
  apply UInt8.toNat_inj.1
  rw [UInt8.toNat_ofNat']
  omega
theorem u8_eq {b : UInt8} {n : Nat} (hn : n < 256) (h : b = UInt8.ofNat n) : ((b.toNat : Int) == (n : Int)) = true := by
  rw [h, beq_iff_eq, UInt8.toNat_ofNat']
  omega
/-- Is it a name? By its bytes, from number j on. -/
def letterB (c : UInt8) : Bool := decide (97 ≤ c.toNat) && decide (c.toNat ≤ 122)
def laterB (c : UInt8) : Bool := letterB c || c == 45 || (decide (48 ≤ c.toNat) && decide (c.toNat ≤ 57))
def okAt (l : List UInt8) (j : Nat) : Bool := match l[j]? with
  | none => true
  | some c => letterB c || (decide (j ≠ 0) && laterB c)
def nameL (l : List UInt8) : Bool := (List.range l.length).all (okAt l) && decide (1 ≤ l.length) && decide (l.length ≤ 16)
theorem name_no {l : List UInt8} {j : Nat} (h : j < l.length) (hb : okAt l j = false) : nameL l = false := by
  unfold nameL
  have : (List.range l.length).all (okAt l) = false := by
    rw [List.all_eq_false]
    exact ⟨j, List.mem_range.2 h, by simpa using hb⟩
  rw [this]
  rfl
theorem name_end {l : List UInt8} (h : ∀ j, j < l.length → okAt l j = true) : nameL l = (decide (1 ≤ l.length) && decide (l.length ≤ 16)) := by
  unfold nameL
  have : (List.range l.length).all (okAt l) = true := by
    rw [List.all_eq_true]
    intro j hj
    exact h j (List.mem_range.1 hj)
  rw [this, Bool.true_and]
theorem ok_at (s : ByteArray) (j : Nat) (h : j < s.size) : okAt s.data.toList j = (letterB s[j] || (decide (j ≠ 0) && laterB s[j])) := by
  unfold okAt
  rw [List.getElem?_eq_getElem (by simpa using h)]
  rfl

def numeralB (c : UInt8) : Bool := decide (48 ≤ c.toNat) && decide (c.toNat ≤ 57)
theorem later_or (c : UInt8) : laterB c = (letterB c || c == 45 || numeralB c) := rfl

theorem letter_any (c : UInt8) (w : World) : Calls Tryz.prog 129 #[.int .u8 (c.toNat : Int)] w fun r w' => r = .returned (.bool (letterB c)) ∧ w = w' := by
  by_cases h1 : 97 ≤ c.toNat
  · have b1 : decide ((97 : Int) ≤ (c.toNat : Int)) = true := by rw [decide_eq_true_iff]; omega
    by_cases h2 : c.toNat ≤ 122
    · have b2 : decide ((c.toNat : Int) ≤ 122) = true := by rw [decide_eq_true_iff]; omega
      have HL := Lib.hid (show letterB c = true by simp [letterB, h1, h2])
      go_enter Tryz.func129, Tryz.ntmps129
      go_wp2
      go_ret
      exact ⟨by rw [HL.out]; rfl, rfl⟩
    · have b2 : decide ((c.toNat : Int) ≤ 122) = false := by rw [decide_eq_false_iff_not]; omega
      have HL := Lib.hid (show letterB c = false by simp [letterB, h2])
      go_enter Tryz.func129, Tryz.ntmps129
      go_wp2
      go_ret
      exact ⟨by rw [HL.out]; rfl, rfl⟩
  · have b1 : decide ((97 : Int) ≤ (c.toNat : Int)) = false := by rw [decide_eq_false_iff_not]; omega
    have HL := Lib.hid (show letterB c = false by simp [letterB, h1])
    go_enter Tryz.func129, Tryz.ntmps129
    go_wp2
    go_ret
    exact ⟨by rw [HL.out]; rfl, rfl⟩
theorem numeral_any (c : UInt8) (w : World) : Calls Tryz.prog 130 #[.int .u8 (c.toNat : Int)] w fun r w' => r = .returned (.bool (numeralB c)) ∧ w = w' := by
  by_cases h1 : 48 ≤ c.toNat
  · have b1 : decide ((48 : Int) ≤ (c.toNat : Int)) = true := by rw [decide_eq_true_iff]; omega
    by_cases h2 : c.toNat ≤ 57
    · have b2 : decide ((c.toNat : Int) ≤ 57) = true := by rw [decide_eq_true_iff]; omega
      have HL := Lib.hid (show numeralB c = true by simp [numeralB, h1, h2])
      go_enter Tryz.func130, Tryz.ntmps130
      go_wp2
      go_ret
      exact ⟨by rw [HL.out]; rfl, rfl⟩
    · have b2 : decide ((c.toNat : Int) ≤ 57) = false := by rw [decide_eq_false_iff_not]; omega
      have HL := Lib.hid (show numeralB c = false by simp [numeralB, h2])
      go_enter Tryz.func130, Tryz.ntmps130
      go_wp2
      go_ret
      exact ⟨by rw [HL.out]; rfl, rfl⟩
  · have b1 : decide ((48 : Int) ≤ (c.toNat : Int)) = false := by rw [decide_eq_false_iff_not]; omega
    have HL := Lib.hid (show numeralB c = false by simp [numeralB, h1])
    go_enter Tryz.func130, Tryz.ntmps130
    go_wp2
    go_ret
    exact ⟨by rw [HL.out]; rfl, rfl⟩

/-- By its first byte and the later ones. -/
theorem name_by {s : ByteArray} (h0 : 0 < s.size) (h1 : s.size ≤ 16) (hl : letterB s[0] = true) (h : ∀ j (hj : j < s.size), laterB s[j] = true) : nameL s.data.toList = true := by
  have hsz : s.data.toList.length = s.size := rfl
  rw [name_end, hsz]
  · simp [h1]
    omega
  · intro j hj
    rw [ok_at s j hj]
    by_cases e : j = 0
    · subst e
      simp [hl]
    · simp [e, h j hj]
theorem name_short {s : ByteArray} (h : s.size < 1) : nameL s.data.toList = false := by
  have hsz : s.data.toList.length = s.size := rfl
  have e : s.size = 0 := by omega
  simp [nameL, hsz, e]
theorem name_long {s : ByteArray} (h : 16 < s.size) : nameL s.data.toList = false := by
  have hsz : s.data.toList.length = s.size := rfl
  have e : ¬ s.size ≤ 16 := by omega
  simp [nameL, hsz, e]
theorem name_first {s : ByteArray} (h0 : 0 < s.size) (hl : letterB s[0] = false) : nameL s.data.toList = false :=
  name_no (j := 0) h0 (by rw [ok_at s 0 h0, hl]; rfl)
theorem name_later {s : ByteArray} {j : Nat} (hj : j < s.size) (hl : laterB s[j] = false) : nameL s.data.toList = false := by
  have h1 : letterB s[j] = false := by
    rw [later_or, Bool.or_eq_false_iff, Bool.or_eq_false_iff] at hl
    exact hl.1.1
  exact name_no (j := j) hj (by rw [ok_at s j hj, h1, hl]; simp)

set_option maxRecDepth 100000 in
set_option maxHeartbeats 2000000 in
theorem name_s (s : ByteArray) (w : World) (hs : s.size ≤ 5000) :
    Calls Tryz.prog 114 #[.string s] w fun r w' => r = .returned (.bool (nameL s.data.toList)) ∧ w = w' := by
  by_cases h1 : s.size < 1
  · have b1 : decide ((s.size : Int) < 1) = true := by rw [decide_eq_true_iff]; omega
    have HN := Lib.hid (name_short h1)
    clear h1
    go_enter Tryz.func114, Tryz.ntmps114
    go_wp2
    go_ret
    exact ⟨by rw [HN.out]; rfl, rfl⟩
  · have b1 : decide ((s.size : Int) < 1) = false := by rw [decide_eq_false_iff_not]; omega
    have h0 : 0 < s.size := by omega
    by_cases h2 : 16 < s.size
    · have b2 : decide ((16 : Int) < (s.size : Int)) = true := by rw [decide_eq_true_iff]; omega
      have HN := Lib.hid (name_long h2)
      clear h1 h2
      go_enter Tryz.func114, Tryz.ntmps114
      go_wp2
      go_ret
      exact ⟨by rw [HN.out]; rfl, rfl⟩
    · have b2 : decide ((16 : Int) < (s.size : Int)) = false := by rw [decide_eq_false_iff_not]; omega
      have h16 : s.size ≤ 16 := by omega
      have H0 := Lib.hid (letter_any s[0])
      cases hl : letterB s[0] with
      | false =>
        have HL := Lib.hid hl
        have HN := Lib.hid (name_first h0 hl)
        clear h1 h2 hl
        go_enter Tryz.func114, Tryz.ntmps114
        go_wp2_with fail
        refine (H0.out _).mono ?_
        rw [HL.out]
        rintro r w2 ⟨rfl, rfl⟩
        go_wp2
        go_ret
        exact ⟨by rw [HN.out]; rfl, rfl⟩
      | true =>
        have HL := Lib.hid hl
        clear h1 h2 hl
        go_enter Tryz.func114, Tryz.ntmps114
        go_wp2_with fail
        refine (H0.out _).mono ?_
        rw [HL.out]
        rintro r w2 ⟨rfl, rfl⟩
        go_wp2_with fail
        go_loopg [20] s.size (fun q i wr => ∃ j : Nat, j + q = s.size ∧ i = .int .i64 j ∧ (∀ i (hi : i < s.size), i < j → laterB s[i] = true) ∧ w = wr)
        case atStart => exact ⟨0, by omega, rfl, fun i _ h => absurd h (by omega), rfl⟩
        case round =>
          obtain ⟨j, hk, rfl, hall, rfl⟩ := hrel
          have HK := Lib.hid hk
          have HA := Lib.hid hall
          clear hk hall
          by_cases hj : j < s.size
          · have hlt : decide ((j : Int) < (s.size : Int)) = true := by simpa using hj
            have go_on : laterB s[j] = true → ∀ i (hi : i < s.size), i < j + 1 → laterB s[i] = true := by
              intro h i hi hij
              by_cases e : i = j
              · subst e; exact h
              · exact HA.out i hi (by omega)
            have GO := Lib.hid go_on
            have HNo := Lib.hid (fun h => name_later hj h)
            clear go_on
            cases hc : letterB s[j] with
            | true =>
              have HC := Lib.hid hc
              have HO := Lib.hid (GO.out (by rw [later_or, hc]; rfl))
              clear hc
              go_wp2_with fail
              refine (letter_any s[j] _).mono ?_
              rw [HC.out]
              rintro r w2 ⟨rfl, rfl⟩
              go_wp2_with fail
              go_roundg (gk - 1)
              case measure => have := HK.out; omega
              case rel => exact ⟨j + 1, by have := HK.out; omega, by go_num, HO.out, rfl⟩
            | false =>
              have HC := Lib.hid hc
              cases hd : numeralB s[j] with
              | true =>
                have HD := Lib.hid hd
                have HO := Lib.hid (GO.out (by rw [later_or, hd]; simp))
                clear hc hd
                go_wp2_with fail
                refine (letter_any s[j] _).mono ?_
                rw [HC.out]
                rintro r w2 ⟨rfl, rfl⟩
                go_wp2_with fail
                refine (numeral_any s[j] _).mono ?_
                rw [HD.out]
                rintro r w2 ⟨rfl, rfl⟩
                go_wp2_with fail
                go_roundg (gk - 1)
                case measure => have := HK.out; omega
                case rel => exact ⟨j + 1, by have := HK.out; omega, by go_num, HO.out, rfl⟩
              | false =>
                have HD := Lib.hid hd
                by_cases he : s[j] = 45
                · have e1 : ((s[j].toNat : Int) != 45) = false := by
                    have := u8_eq (n := 45) (by omega) he
                    simpa [bne] using this
                  have HO := Lib.hid (GO.out (by rw [later_or, he]; rfl))
                  clear hc hd he
                  go_wp2_with fail
                  refine (letter_any s[j] _).mono ?_
                  rw [HC.out]
                  rintro r w2 ⟨rfl, rfl⟩
                  go_wp2_with fail
                  refine (numeral_any s[j] _).mono ?_
                  rw [HD.out]
                  rintro r w2 ⟨rfl, rfl⟩
                  go_wp2_with fail
                  go_roundg (gk - 1)
                  case measure => have := HK.out; omega
                  case rel => exact ⟨j + 1, by have := HK.out; omega, by go_num, HO.out, rfl⟩
                · have e1 : ((s[j].toNat : Int) != 45) = true := by
                    have := u8_ne (n := 45) (by omega) he
                    simpa [bne] using this
                  have HN := Lib.hid (HNo.out (by rw [later_or, hc, hd]; simp [he]))
                  clear hc hd he
                  go_wp2_with fail
                  refine (letter_any s[j] _).mono ?_
                  rw [HC.out]
                  rintro r w2 ⟨rfl, rfl⟩
                  go_wp2_with fail
                  refine (numeral_any s[j] _).mono ?_
                  rw [HD.out]
                  rintro r w2 ⟨rfl, rfl⟩
                  go_wp2_with fail
                  go_ret
                  exact ⟨by rw [HN.out]; rfl, rfl⟩
          · have hlt : decide ((j : Int) < (s.size : Int)) = false := by simpa using hj
            have hn := name_by h0 h16 HL.out (fun i hi => HA.out i hi (by omega))
            have HN := Lib.hid hn
            clear hn
            go_wp2
            go_ret
            exact ⟨by rw [HN.out]; rfl, rfl⟩

/-- Which texts are names. -/
def nameOk (s : ByteArray) : Bool := nameL s.data.toList
theorem name_any (s : ByteArray) (w : World) (hs : s.size ≤ 5000) : Calls Tryz.prog 114 #[.string s] w fun r w' => r = .returned (.bool (nameOk s)) ∧ w = w' := name_s s w hs
end Go.Proofs.YtidomoibhjgkjaaGreatDoor.nm

/-
  Expressions in plain words: terms, trees, what is wrong with terms, and their text.
-/
namespace Go.Proofs.YtidomoibhjgkjaaGreatDoor

instance : DecidableEq V := fun a b => decidable_of_iff (a.k = b.k ∧ a.n = b.n ∧ a.s = b.s) (by cases a; cases b; simp)
/-- A term: what it does, its value, its name. -/
structure TM where
  op : Int
  v : V
  nm : ByteArray
/-- A tree of terms. -/
inductive Ex where
  | val (v : V)
  | var (nm : ByteArray)
  | has (nm : ByteArray)
  | one (op : Int) (a : Ex)
  | two (op : Int) (a b : Ex)
def mtS : ByteArray := ⟨#[]⟩
def opT (op : Int) : TM := ⟨op, V0, mtS⟩
/-- A tree's terms, each behind those whose values it takes. -/
def postE : Ex → List TM
  | .val v => [⟨0, v, mtS⟩]
  | .var nm => [⟨1, V0, nm⟩]
  | .has nm => [⟨2, V0, nm⟩]
  | .one op a => postE a ++ [opT op]
  | .two op a b => postE a ++ (postE b ++ [opT op])
def topE : Ex → Int
  | .val _ => 0
  | .var _ => 1
  | .has _ => 2
  | .one op _ => op
  | .two op _ _ => op
theorem post_pos (t : Ex) : 0 < (postE t).length := by cases t <;> simp [postE] <;> omega

def takesT (op : Int) : Nat := if op < 3 then 0 else if op < 6 then 1 else 2
def strOf (op : Int) : Nat := if op = 18 then 0 else if op = 17 then 1 else if 11 ≤ op ∧ op ≤ 16 then 2 else if op = 9 ∨ op = 10 then 3 else if 6 ≤ op ∧ op ≤ 8 then 4 else 9
/-- Does what a term takes stand in brackets? -/
def inB (top x : Int) (right : Bool) : Bool :=
  if top = 5 ∨ strOf x = 9 then false else if strOf top = 9 then true else decide (strOf x < strOf top) || (decide (strOf x = strOf top) && (right || decide (strOf top = 2)))
def signL (op : Int) : List UInt8 :=
  if op = 3 then [45] else if op = 4 then [33] else if op = 6 then [42] else if op = 7 then [47] else if op = 8 then [37] else if op = 9 then [43] else if op = 10 then [45]
  else if op = 11 then [60] else if op = 12 then [60, 61] else if op = 13 then [62] else if op = 14 then [62, 61] else if op = 15 then [61, 61] else if op = 16 then [33, 61] else if op = 17 then [38, 38] else if op = 18 then [124, 124] else []
def wrapL (b : Bool) (l : List UInt8) : List UInt8 := if b = true then 40 :: (l ++ [41]) else l
def wrapN (b : Bool) (n : Nat) : Nat := if b = true then n + 1 else n
/-- A tree's text. -/
def txtE : Ex → List UInt8
  | .val v => printV v
  | .var nm => nm.data.toList
  | .has nm => [104, 97, 115, 40] ++ nm.data.toList ++ [41]
  | .one op a => if op = 5 then [108, 101, 110, 40] ++ txtE a ++ [41] else signL op ++ wrapL (inB op (topE a) true) (txtE a)
  | .two op a b => wrapL (inB op (topE a) false) (txtE a) ++ [32] ++ signL op ++ [32] ++ wrapL (inB op (topE b) true) (txtE b)
/-- How many are open at once in it. -/
def deepE : Ex → Nat
  | .val _ => 0
  | .var _ => 0
  | .has _ => 1
  | .one op a => if op = 5 then deepE a + 1 else wrapN (inB op (topE a) true) (deepE a) + 1
  | .two op a b => max (wrapN (inB op (topE a) false) (deepE a)) (wrapN (inB op (topE b) true) (deepE b))

/-! ### what is wrong with terms -/
def wordsNo : List (List UInt8) := [[116, 114, 117, 101], [102, 97, 108, 115, 101], [104, 97, 115], [108, 101, 110]]
def reservedB (nm : ByteArray) : Bool := wordsNo.contains nm.data.toList
def ownT (t : TM) : Int :=
  if t.op < 0 ∨ 18 < t.op ∨ (t.op ≠ 0 ∧ t.v ≠ V0) ∨ (t.op ≠ 1 ∧ t.op ≠ 2 ∧ t.nm ≠ mtS) then 1
  else if t.op = 0 then (if rightV t.v ≠ 0 then rightV t.v else if t.v.k = 1 ∧ t.v.n < 0 then 1 else 0)
  else if t.op = 1 ∨ t.op = 2 then (if nm.nameOk t.nm = false ∨ reservedB t.nm = true then 30 else 0)
  else 0
/-- Term by term: the error, or how many values are there. -/
def checkGo : Nat → List TM → Int × Nat
  | n, [] => (0, n)
  | n, t :: l => if ownT t ≠ 0 then (ownT t, n) else if n < takesT t.op then (6, n) else checkGo (n + 1 - takesT t.op) l
/-- The trees that terms make, the last one first. -/
def stepE (st : List Ex) (t : TM) : List Ex :=
  if t.op = 0 then .val t.v :: st else if t.op = 1 then .var t.nm :: st else if t.op = 2 then .has t.nm :: st
  else if t.op < 6 then (match st with | a :: r => .one t.op a :: r | [] => []) else (match st with | b :: a :: r => .two t.op a b :: r | _ => [])
def treesE (st : List Ex) (l : List TM) : List Ex := l.foldl stepE st
def postS : List Ex → List TM
  | [] => []
  | t :: st => postS st ++ postE t
theorem own_op {t : TM} (h : ownT t = 0) : 0 ≤ t.op ∧ t.op ≤ 18 ∧ (t.op ≠ 0 → t.v = V0) ∧ (t.op ≠ 1 → t.op ≠ 2 → t.nm = mtS) := by
  unfold ownT at h
  split at h
  · cases h
  · next h1 =>
    refine ⟨by omega, by omega, fun h2 => ?_, fun h2 h3 => ?_⟩
    · by_cases hv : t.v = V0
      · exact hv
      · exact absurd (.inr (.inr (.inl ⟨h2, hv⟩))) h1
    · by_cases hv : t.nm = mtS
      · exact hv
      · exact absurd (.inr (.inr (.inr ⟨h2, h3, hv⟩))) h1
theorem step_post {t : TM} (h : ownT t = 0) {st : List Ex} (hn : takesT t.op ≤ st.length) : postS (stepE st t) = postS st ++ [t] ∧ (stepE st t).length = st.length + 1 - takesT t.op := by
  obtain ⟨h0, h18, hv, hm⟩ := own_op h
  obtain ⟨op, v, nm⟩ := t
  simp only at h0 h18 hv hm hn
  unfold stepE
  simp only
  by_cases e0 : op = 0
  · subst e0
    have := hm (by decide) (by decide)
    subst this
    simp [postS, postE, takesT]
  · have hv' := hv e0
    subst hv'
    rw [if_neg e0]
    by_cases e1 : op = 1
    · subst e1
      simp [postS, postE, takesT]
    · rw [if_neg e1]
      by_cases e2 : op = 2
      · subst e2
        simp [postS, postE, takesT]
      · rw [if_neg e2]
        have := hm e1 e2
        subst this
        by_cases e6 : op < 6
        · have ht : takesT op = 1 := by unfold takesT; rw [if_neg (by omega), if_pos e6]
          rw [ht] at hn ⊢
          rw [if_pos e6]
          cases st with
          | nil => simp at hn
          | cons a r => simp [postS, postE, opT]
        · have ht : takesT op = 2 := by unfold takesT; rw [if_neg (by omega), if_neg e6]
          rw [ht] at hn ⊢
          rw [if_neg e6]
          match st, hn with
          | b :: a :: r, _ => simp [postS, postE, opT]
theorem check_trees : ∀ (l : List TM) (st : List Ex) (m : Nat), checkGo st.length l = (0, m) → (treesE st l).length = m ∧ postS (treesE st l) = postS st ++ l
  | [], st, m, h => by
    simp only [checkGo, Prod.mk.injEq, true_and] at h
    simp [treesE, h]
  | t :: l, st, m, h => by
    rw [checkGo] at h
    by_cases hown : ownT t = 0
    · rw [if_neg (by simp [hown])] at h
      by_cases hlt : st.length < takesT t.op
      · rw [if_pos hlt] at h; cases h
      · rw [if_neg hlt] at h
        obtain ⟨e1, e2⟩ := step_post hown (st := st) (by omega)
        rw [← e2] at h
        obtain ⟨g1, g2⟩ := check_trees l (stepE st t) m h
        refine ⟨g1, ?_⟩
        show postS (treesE (stepE st t) l) = _
        rw [g2, e1, List.append_assoc]
        rfl
    · rw [if_pos hown] at h
      simp only [Prod.mk.injEq] at h
      exact absurd h.1 hown
/-- The one tree of terms that are right. -/
def treeE (l : List TM) : Ex := (treesE [] l).headD (.val V0)
theorem tree_post {l : List TM} (h : checkGo 0 l = (0, 1)) : postE (treeE l) = l := by
  obtain ⟨h1, h2⟩ := check_trees l [] 1 h
  unfold treeE
  match hst : treesE [] l, h1 with
  | [t], _ =>
    rw [hst] at h2
    simpa [postS] using h2
def checkL (l : List TM) : Int :=
  if 40 < l.length then 3
  else if (checkGo 0 l).1 ≠ 0 then (checkGo 0 l).1
  else if (checkGo 0 l).2 = 0 then 6
  else if 1 < (checkGo 0 l).2 then 8
  else if 12 < deepE (treeE l) then 50
  else 0
/-- The text of terms, or what is wrong with them. -/
def printE (l : List TM) : List UInt8 × Int := if checkL l ≠ 0 then ([], checkL l) else if 128 < (txtE (treeE l)).length then ([], 3) else (txtE (treeE l), 0)
/-- The names of variables, rising, each once. -/
def insName (x : List UInt8) : List (List UInt8) → List (List UInt8)
  | [] => [x]
  | y :: l => if blt x y = true then x :: y :: l else if x = y then y :: l else y :: insName x l
def namesE (l : List TM) : List (List UInt8) := l.foldl (fun out t => if t.op = 1 ∨ t.op = 2 then insName t.nm.data.toList out else out) []
end Go.Proofs.YtidomoibhjgkjaaGreatDoor
