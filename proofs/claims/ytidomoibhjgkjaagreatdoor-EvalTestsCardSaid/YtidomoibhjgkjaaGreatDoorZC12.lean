import Derived.Test.YtidomoibhjgkjaaGreatDoorZC04
/-
  Expressions in plain words: tokens, and what they are parsed to: signs that bind by their strength.
-/
namespace Go.Proofs.YtidomoibhjgkjaaGreatDoor

/-- A token: a value, a word, or a sign: 4: '!'; 20, 21: brackets; of two: the number of what it does. -/
inductive Tok where
  | lit (v : V)
  | word (w : ByteArray)
  | sg (c : Int)
inductive Res where
  | ok (e : List TM) (r : List Tok)
  | err (c : Int)
inductive Mode where
  | one
  | climb (least : Nat)
  | loop (least most : Nat) (e : List TM)
def hasW : ByteArray := ⟨#[104, 97, 115]⟩
def lenW : ByteArray := ⟨#[108, 101, 110]⟩
/-- What is wrong where something else must follow; z: what is wrong with what stands behind the last token; 0: nothing does. -/
def unfit (z : Int) : List Tok → Int
  | [] => if z ≠ 0 then z else 6
  | _ => 8
def Res.then_ (t : TM) : Res → Res
  | .ok e r => .ok (e ++ [t]) r
  | .err c => .err c
def Res.close (z : Int) : Res → Res
  | .ok e (.sg 21 :: r) => .ok e r
  | .ok _ r => .err (unfit z r)
  | .err c => .err c
/-- What stands behind 'has'. -/
def hasRes (z : Int) (o : Nat) : List Tok → Res
  | .sg 20 :: r => if 12 ≤ o then .err 50 else match r with
    | .word x :: r2 => if reservedB x = true then .err 8 else match r2 with
      | .sg 21 :: r3 => .ok [⟨2, V0, x⟩] r3
      | l => .err (unfit z l)
    | l => .err (unfit z l)
  | l => .err (unfit z l)
/-- Is it a sign of two that goes on? -/
def goesOn (least most : Nat) : Tok → Bool
  | .sg c => decide (6 ≤ c) && decide (c ≤ 18) && decide (least ≤ strOf c) && decide (strOf c ≤ most)
  | _ => false
def begins : Tok → Bool
  | .lit _ => true
  | .word _ => true
  | .sg c => decide (c = 4) || decide (c = 10) || decide (c = 20)

/-- What tokens are parsed to. -/
inductive PP (z : Int) : Mode → Nat → List Tok → Res → Prop where
  | signDeep (o : Nat) (c : Int) (r : List Tok) : 12 ≤ o → c = 4 ∨ c = 10 → PP z .one o (.sg c :: r) (.err 50)
  | sign (o : Nat) (c : Int) (r : List Tok) (x : Res) : o < 12 → c = 4 ∨ c = 10 → PP z .one (o + 1) r x → PP z .one o (.sg c :: r) (x.then_ (opT (if c = 4 then 4 else 3)))
  | lit (o : Nat) (v : V) (r : List Tok) : PP z .one o (.lit v :: r) (.ok [⟨0, v, mtS⟩] r)
  | parDeep (o : Nat) (r : List Tok) : 12 ≤ o → PP z .one o (.sg 20 :: r) (.err 50)
  | par (o : Nat) (r : List Tok) (x : Res) : o < 12 → PP z (.climb 0) (o + 1) r x → PP z .one o (.sg 20 :: r) (x.close z)
  | has (o : Nat) (r : List Tok) : PP z .one o (.word hasW :: r) (hasRes z o r)
  | lenNone (o : Nat) (r : List Tok) : (∀ t, r ≠ .sg 20 :: t) → PP z .one o (.word lenW :: r) (.err (unfit z r))
  | lenDeep (o : Nat) (r : List Tok) : 12 ≤ o → PP z .one o (.word lenW :: .sg 20 :: r) (.err 50)
  | len (o : Nat) (r : List Tok) (x : Res) : o < 12 → PP z (.climb 0) (o + 1) r x → PP z .one o (.word lenW :: .sg 20 :: r) ((x.close z).then_ (opT 5))
  | var (o : Nat) (w : ByteArray) (r : List Tok) : w ≠ hasW → w ≠ lenW → PP z .one o (.word w :: r) (if reservedB w = true then .err 8 else .ok [⟨1, V0, w⟩] r)
  | none (o : Nat) (l : List Tok) : (∀ t r, l = t :: r → begins t = false) → PP z .one o l (.err (unfit z l))
  | climbNo (o least : Nat) (l : List Tok) (c : Int) : PP z .one o l (.err c) → PP z (.climb least) o l (.err c)
  | climb (o least : Nat) (l r : List Tok) (e : List TM) (x : Res) : PP z .one o l (.ok e r) → PP z (.loop least 9 e) o r x → PP z (.climb least) o l x
  | loopEnd (o least most : Nat) (e : List TM) : PP z (.loop least most e) o [] (if z ≠ 0 then .err z else .ok e [])
  | loopStop (o least most : Nat) (e : List TM) (t : Tok) (r : List Tok) : goesOn least most t = false → PP z (.loop least most e) o (t :: r) (.ok e (t :: r))
  | loopNo (o least most : Nat) (e : List TM) (k : Int) (r : List Tok) (c : Int) : goesOn least most (.sg k) = true → PP z (.climb (strOf k + 1)) o r (.err c) → PP z (.loop least most e) o (.sg k :: r) (.err c)
  | loopOn (o least most : Nat) (e e2 : List TM) (k : Int) (r r2 : List Tok) (x : Res) : goesOn least most (.sg k) = true → PP z (.climb (strOf k + 1)) o r (.ok e2 r2) → PP z (.loop least (if strOf k = 2 then 1 else strOf k) (e ++ (e2 ++ [opT k]))) o r2 x →
      PP z (.loop least most e) o (.sg k :: r) x

/-! ### there: a tree's tokens are parsed to its terms -/
def wrapT (b : Bool) (l : List Tok) : List Tok := if b = true then .sg 20 :: (l ++ [.sg 21]) else l
def toksE : Ex → List Tok
  | .val v => [.lit v]
  | .var nm => [.word nm]
  | .has nm => [.word hasW, .sg 20, .word nm, .sg 21]
  | .one op a => if op = 5 then .word lenW :: .sg 20 :: (toksE a ++ [.sg 21]) else .sg (if op = 4 then 4 else 10) :: wrapT (inB op (topE a) true) (toksE a)
  | .two op a b => wrapT (inB op (topE a) false) (toksE a) ++ .sg op :: wrapT (inB op (topE b) true) (toksE b)
/-- Trees whose parts are of their kinds. -/
def Good : Ex → Prop
  | .val _ => True
  | .var nm => reservedB nm = false
  | .has nm => reservedB nm = false
  | .one op a => (op = 3 ∨ op = 4 ∨ op = 5) ∧ Good a
  | .two op a b => (6 ≤ op ∧ op ≤ 18) ∧ Good a ∧ Good b
def strE (t : Ex) : Nat := strOf (topE t)
theorem strOf_two {op : Int} (h : 6 ≤ op ∧ op ≤ 18) : strOf op ≤ 4 := by
  unfold strOf
  split
  · omega
  · split
    · omega
    · split
      · omega
      · split
        · omega
        · rw [if_pos (by omega)]; omega
theorem strOf_other {op : Int} (h : op < 6) : strOf op = 9 := by
  unfold strOf
  rw [if_neg (by omega), if_neg (by omega), if_neg (by omega), if_neg (by omega), if_neg (by omega)]
/-- How strong a sign may be that follows a tree. -/
def mostE (t : Ex) : Nat := if strE t = 2 then 1 else strE t
/-- What follows a tree is no sign that binds more than it. -/
def Rest (k : Nat) : List Tok → Prop
  | .sg c :: _ => 6 ≤ c → c ≤ 18 → strOf c ≤ k
  | _ => True
theorem Rest.mono {k k' : Nat} (h : k ≤ k') : ∀ {l : List Tok}, Rest k l → Rest k' l
  | [], _ => trivial
  | .lit _ :: _, _ => trivial
  | .word _ :: _, _ => trivial
  | .sg _ :: _, g => fun a b => Nat.le_trans (g a b) h
/-- A loop stops where what follows binds less. -/
theorem loop_stops {z : Int} {o least most : Nat} {e : List TM} {l : List Tok} (hz : z = 0) (h : ∀ c r, l = .sg c :: r → 6 ≤ c → c ≤ 18 → strOf c < least) : PP z (.loop least most e) o l (.ok e l) := by
  cases l with
  | nil =>
    have := PP.loopEnd (z := z) o least most e
    rw [if_neg (by simp [hz])] at this
    exact this
  | cons t r =>
    refine PP.loopStop o least most e t r ?_
    cases t with
    | lit v => rfl
    | word w => rfl
    | sg c =>
      unfold goesOn
      by_cases h1 : 6 ≤ c ∧ c ≤ 18
      · have := h c r rfl h1.1 h1.2
        simp [h1.1, h1.2, show ¬ least ≤ strOf c by omega]
      · by_cases h2 : 6 ≤ c
        · simp [show ¬ c ≤ 18 by omega]
        · simp [h2]
theorem reserved_has : reservedB hasW = true := rfl
theorem reserved_len : reservedB lenW = true := rfl

/-- One that is not two is read whole; and any tree as far as its last sign. -/
theorem tree_parsed {z : Int} (hz : z = 0) : ∀ (t : Ex), Good t →
    (∀ (o : Nat) (rest : List Tok), strE t = 9 → o + deepE t ≤ 12 → PP z .one o (toksE t ++ rest) (.ok (postE t) rest)) ∧
    (∀ (o least : Nat) (rest : List Tok) (x : Res), o + deepE t ≤ 12 → least ≤ strE t → Rest (strE t) rest → PP z (.loop least (mostE t) (postE t)) o rest x → PP z (.climb least) o (toksE t ++ rest) x) := by
  -- what stands in brackets, or not, where a sign takes it
  have inner : ∀ (a : Ex), (∀ (o least : Nat) (rest : List Tok) (x : Res), o + deepE a ≤ 12 → least ≤ strE a → Rest (strE a) rest → PP z (.loop least (mostE a) (postE a)) o rest x → PP z (.climb least) o (toksE a ++ rest) x) →
      ∀ (o : Nat) (rest : List Tok), o + deepE a ≤ 12 → PP z (.climb 0) o (toksE a ++ .sg 21 :: rest) (.ok (postE a) (.sg 21 :: rest)) := by
    intro a ih o rest hd
    refine ih o 0 _ _ hd (Nat.zero_le _) (fun _ h => absurd h (by omega)) (loop_stops hz ?_)
    intro c r e _ h18
    injection e with e1 _
    injection e1 with e1
    omega
  have wrapped : ∀ (a : Ex), (∀ (o : Nat) (rest : List Tok), strE a = 9 → o + deepE a ≤ 12 → PP z .one o (toksE a ++ rest) (.ok (postE a) rest)) →
      (∀ (o least : Nat) (rest : List Tok) (x : Res), o + deepE a ≤ 12 → least ≤ strE a → Rest (strE a) rest → PP z (.loop least (mostE a) (postE a)) o rest x → PP z (.climb least) o (toksE a ++ rest) x) →
      ∀ (b : Bool) (o : Nat) (rest : List Tok), (b = false → strE a = 9) → o + wrapN b (deepE a) ≤ 12 → PP z .one o (wrapT b (toksE a) ++ rest) (.ok (postE a) rest) := by
    intro a ih1 ih2 b o rest hb hd
    cases b with
    | false => exact ih1 o rest (hb rfl) hd
    | true =>
      have hd' : o + (deepE a + 1) ≤ 12 := hd
      have h := PP.par o _ _ (by omega) (inner a ih2 (o + 1) rest (by omega))
      have e : wrapT true (toksE a) ++ rest = .sg 20 :: (toksE a ++ .sg 21 :: rest) := by simp [wrapT]
      rw [e]
      exact h
  intro t
  induction t with
  | val v =>
    intro _
    have one : ∀ (o : Nat) (rest : List Tok), PP z .one o (toksE (.val v) ++ rest) (.ok (postE (.val v)) rest) := fun o rest => PP.lit o v rest
    exact ⟨fun o rest _ _ => one o rest, fun o least rest x _ _ _ h => PP.climb o least _ rest _ x (one o rest) h⟩
  | var nm =>
    intro hg
    have hr : reservedB nm = false := hg
    have h1 : nm ≠ hasW := fun e => by rw [e, reserved_has] at hr; cases hr
    have h2 : nm ≠ lenW := fun e => by rw [e, reserved_len] at hr; cases hr
    have one : ∀ (o : Nat) (rest : List Tok), PP z .one o (toksE (.var nm) ++ rest) (.ok (postE (.var nm)) rest) := fun o rest => by
      have := PP.var (z := z) o nm rest h1 h2
      rw [if_neg (by simp [hr])] at this
      exact this
    exact ⟨fun o rest _ _ => one o rest, fun o least rest x _ _ _ h => PP.climb o least _ rest _ x (one o rest) h⟩
  | has nm =>
    intro hg
    have hr : reservedB nm = false := hg
    have one : ∀ (o : Nat) (rest : List Tok), o + 1 ≤ 12 → PP z .one o (toksE (.has nm) ++ rest) (.ok (postE (.has nm)) rest) := fun o rest ho => by
      have := PP.has (z := z) o (.sg 20 :: .word nm :: .sg 21 :: rest)
      have e : hasRes z o (.sg 20 :: .word nm :: .sg 21 :: rest) = .ok [⟨2, V0, nm⟩] rest := by
        simp [hasRes, hr, show ¬ 12 ≤ o by omega]
      rw [e] at this
      exact this
    exact ⟨fun o rest _ hd => one o rest hd, fun o least rest x hd _ _ h => PP.climb o least _ rest _ x (one o rest hd) h⟩
  | one op a ih =>
    intro ⟨hop, hga⟩
    obtain ⟨ih1, ih2⟩ := ih hga
    have hs9 : strE (.one op a) = 9 := strOf_other (show op < 6 by omega)
    have one : ∀ (o : Nat) (rest : List Tok), o + deepE (.one op a) ≤ 12 → PP z .one o (toksE (.one op a) ++ rest) (.ok (postE (.one op a)) rest) := fun o rest hd => by
      by_cases h5 : op = 5
      · subst h5
        have hd' : o + (deepE a + 1) ≤ 12 := by simpa [deepE] using hd
        have h := PP.len o _ _ (by omega) (inner a ih2 (o + 1) rest (by omega))
        have e : toksE (.one 5 a) ++ rest = .word lenW :: .sg 20 :: (toksE a ++ .sg 21 :: rest) := by simp [toksE]
        rw [e]
        exact h
      · have hd' : o + (wrapN (inB op (topE a) true) (deepE a) + 1) ≤ 12 := by simpa [deepE, h5] using hd
        have hw := wrapped a ih1 ih2 (inB op (topE a) true) (o + 1) rest (fun hb => by
          unfold inB at hb
          by_cases h9 : strOf (topE a) = 9
          · exact h9
          · rw [if_neg (by omega), if_pos (strOf_other (by omega))] at hb
            cases hb) (by omega)
        have e : toksE (.one op a) ++ rest = .sg (if op = 4 then 4 else 10) :: (wrapT (inB op (topE a) true) (toksE a) ++ rest) := by simp [toksE, h5]
        rw [e]
        by_cases h4 : op = 4
        · subst h4
          exact PP.sign o 4 _ _ (by omega) (.inl rfl) hw
        · have h3 : op = 3 := by omega
          subst h3
          exact PP.sign o 10 _ _ (by omega) (.inr rfl) hw
    refine ⟨fun o rest _ hd => one o rest hd, fun o least rest x hd _ _ h => ?_⟩
    have hm : mostE (.one op a) = 9 := by unfold mostE; rw [hs9]; rfl
    rw [hm] at h
    exact PP.climb o least _ rest _ x (one o rest hd) h
  | two op a b iha ihb =>
    intro ⟨hop, hga, hgb⟩
    obtain ⟨a1, a2⟩ := iha hga
    obtain ⟨b1, b2⟩ := ihb hgb
    have hs4 := strOf_two hop
    have hs : strE (.two op a b) = strOf op := rfl
    refine ⟨fun o rest h9 _ => by rw [hs] at h9; omega, fun o least rest x hd hl hrest h => ?_⟩
    rw [hs] at hl hrest
    have hm : mostE (.two op a b) = if strOf op = 2 then 1 else strOf op := rfl
    rw [hm] at h
    have hda : o + wrapN (inB op (topE a) false) (deepE a) ≤ 12 := by
      have : deepE (.two op a b) = max (wrapN (inB op (topE a) false) (deepE a)) (wrapN (inB op (topE b) true) (deepE b)) := rfl
      rw [this] at hd
      omega
    have hdb : o + wrapN (inB op (topE b) true) (deepE b) ≤ 12 := by
      have : deepE (.two op a b) = max (wrapN (inB op (topE a) false) (deepE a)) (wrapN (inB op (topE b) true) (deepE b)) := rfl
      rw [this] at hd
      omega
    -- the right one, up to what follows
    have right : PP z (.climb (strOf op + 1)) o (wrapT (inB op (topE b) true) (toksE b) ++ rest) (.ok (postE b) rest) := by
      have stop : ∀ most e, PP z (.loop (strOf op + 1) most e) o rest (.ok e rest) := fun most e => loop_stops hz fun c r er h6 h18 => by
        rw [er] at hrest
        have := hrest h6 h18
        omega
      by_cases hb : inB op (topE b) true = false ∧ strE b ≠ 9
      · have hlt : strOf op < strE b := by
          have hb1 := hb.1
          unfold inB at hb1
          rw [if_neg (by unfold strE at hb; omega), if_neg (by omega)] at hb1
          simp at hb1
          unfold strE
          omega
        rw [hb.1] at hdb ⊢
        exact b2 o _ rest _ hdb (by omega) (hrest.mono (by omega)) (stop _ _)
      · refine PP.climb o _ _ rest _ _ (wrapped b b1 b2 _ o rest (fun h1 => ?_) hdb) (stop _ _)
        by_cases h9 : strE b = 9
        · exact h9
        · exact absurd ⟨h1, h9⟩ hb
    -- behind the left one
    have behind : ∀ most, strOf op ≤ most → PP z (.loop least most (postE a)) o (.sg op :: (wrapT (inB op (topE b) true) (toksE b) ++ rest)) x := fun most hmost => by
      refine PP.loopOn o least most _ _ op _ rest x ?_ right h
      unfold goesOn
      simp [hop.1, hop.2, hl, hmost]
    have e : toksE (.two op a b) ++ rest = wrapT (inB op (topE a) false) (toksE a) ++ .sg op :: (wrapT (inB op (topE b) true) (toksE b) ++ rest) := by simp [toksE]
    rw [e]
    by_cases ha : inB op (topE a) false = false ∧ strE a ≠ 9
    · have hle : strOf op ≤ strE a ∧ ¬ (strE a = 2 ∧ strOf op = 2) := by
        have ha1 := ha.1
        unfold inB at ha1
        rw [if_neg (by unfold strE at ha; omega), if_neg (by omega)] at ha1
        simp at ha1
        unfold strE
        omega
      rw [ha.1] at hda ⊢
      refine a2 o least _ x hda (by omega) (fun _ _ => hle.1) (behind _ ?_)
      unfold mostE
      split <;> omega
    · refine PP.climb o least _ _ _ x (wrapped a a1 a2 _ o _ (fun h1 => ?_) hda) (behind 9 (by omega))
      by_cases h9 : strE a = 9
      · exact h9
      · exact absurd ⟨h1, h9⟩ ha

/-- A whole tree. -/
theorem tree_whole {t : Ex} (hg : Good t) (hd : deepE t ≤ 12) : PP 0 (.climb 0) 0 (toksE t) (.ok (postE t) []) := by
  have h := (tree_parsed (z := 0) rfl t hg).2 0 0 [] (.ok (postE t) []) (by omega) (Nat.zero_le _) trivial (loop_stops rfl (fun c r e => by cases e))
  rwa [List.append_nil] at h
end Go.Proofs.YtidomoibhjgkjaaGreatDoor
