import Derived.Test.YtfdiidhilonkoaaZC21
import Derived.Test.YtfdiidhilonkoaaZC20
set_option linter.unusedVariables false
/-
  Package order: a row that passes over those that are laid: from.
-/
namespace Go.Proofs.Ytfdiidhilonkoaa
open Go.RowKit

/-- A row in memory: places, where to look on, and who tells what is laid. -/
structure RowP_ (w : World) (q g1 g2 n : Nat) (fv : Value) (pp nn : Nat → Nat) : Prop where
  box : w.heap[q]? = some (.cells #[.slice (some ⟨g1, 0, none⟩) n n, .slice (some ⟨g2, 0, none⟩) n n, fv] 49 (0, 0))
  pl : IntsAt w g1 n fun i => (pp i : Int)
  nx : IntsAt w g2 n fun i => (nn i : Int)
def NextP (dn : Nat → Bool) (pp nn : Nat → Nat) (n : Nat) : Prop := ∀ i, i < n → i < nn i ∧ nn i ≤ n ∧ ∀ j, i < j → j < nn i → dn (pp j) = true
def FromP (dn : Nat → Bool) (pp : Nat → Nat) (n k e : Nat) : Prop := k ≤ e ∧ e ≤ n ∧ (∀ j, k ≤ j → j < e → dn (pp j) = true) ∧ (e = n ∨ dn (pp e) = false)
theorem NextP.set {dn : Nat → Bool} {pp nn : Nat → Nat} {n k e x : Nat} (h : NextP dn pp nn n) (f : FromP dn pp n k e) (h1 : k ≤ x) (h2 : x < e) : NextP dn pp (fun i => if i = x then e else nn i) n := fun i hi => by
  by_cases q : i = x
  · subst q
    simp only [if_pos]
    exact ⟨h2, f.2.1, fun j j1 j2 => f.2.2.1 j (by omega) j2⟩
  · simp only [if_neg q]
    exact h i hi
set_option maxRecDepth 100000 in
set_option maxHeartbeats 8000000 in
theorem from_any (dn : Nat → Bool) (pp nn : Nat → Nat) (q g1 g2 n k gf : Nat) (lb : Array Value) (w : World) (hr : RowP_ w q g1 g2 n (.func (.func gf) #[] lb) pp nn) (hq : q ≠ g2) (hg : g1 ≠ g2) (hn : NextP dn pp nn n) (hp : ∀ i, i < n → pp i < n) (hk : k ≤ n) (hl : n ≤ 1000000)
    (eg : ∀ args W, (callFunc gf args).run Try.prog W = .ok (.enter gf args) W)
    (hL : ∀ (W : World) (x : Nat), x < n → Below w.heap.size w W → Calls Try.prog gf (#[.int .i64 (x : Nat)] ++ lb) W fun r w' => r = .returned (.bool (dn x)) ∧ Below W.heap.size W w') :
    Calls Try.prog 25 #[.pointer (some ⟨q, 0, none⟩), .int .i64 (k : Nat)] w fun r w' => ∃ e nn', r = .returned (.int .i64 (e : Nat)) ∧ FromP dn pp n k e ∧ NextP dn pp nn' n ∧ RowP_ w' q g1 g2 n (.func (.func gf) #[] lb) pp nn' ∧ Mut (fun k => k = g2) w w' := by
  have HR := Lib.hid hr
  have HN := Lib.hid hn
  have HL := Lib.hid hL
  have HPp := Lib.hid hp
  have HCb := Lib.hid (fun (W : World) (hb : Below w.heap.size w W) => And.intro (show W.cell? ⟨q, 0, none⟩ = some (.slice (some ⟨g1, 0, none⟩) n n) by rw [cell_of_row W q 0 _ _ _ (heap_below hr.box hb (lt_of_heap hr.box))]; rfl) (And.intro (show W.cell? ⟨q, 1, none⟩ = some (.slice (some ⟨g2, 0, none⟩) n n) by rw [cell_of_row W q 1 _ _ _ (heap_below hr.box hb (lt_of_heap hr.box))]; rfl) (show W.cell? ⟨q, 2, none⟩ = some (.func (.func gf) #[] lb) by rw [cell_of_row W q 2 _ _ _ (heap_below hr.box hb (lt_of_heap hr.box))]; rfl)))
  clear hr hn hL hp
  go_enter Try.func25, Try.ntmps25
  go_wp2_with fail
  go_loopg [5] n (fun z i wr => ∃ e : Nat, i = .int .i64 (e : Nat) ∧ k ≤ e ∧ e ≤ n ∧ n ≤ e + z ∧ (∀ j, k ≤ j → j < e → dn (pp j) = true) ∧ Below w.heap.size w wr)
  case atStart => exact ⟨k, rfl, Nat.le_refl _, hk, by omega, fun j h1 h2 => absurd h2 (by omega), Below.refl _ _⟩
  case round =>
    obtain ⟨e, rfl, h1, h2, h3, h4, hb⟩ := hrel
    have HB := Lib.hid hb
    have HA := Lib.hid h4
    clear h4 hb
    by_cases he : e < n
    · have hlt : decide ((e : Int) < (n : Int)) = true := by simpa using he
      have HCl := Lib.hid (fun (W : World) (hW : Below wr.heap.size wr W) => And.intro (HCb.out W (HB.out.trans (hW.mono HB.out.size))) (And.intro ((HR.out.pl.keep ((HB.out.trans (hW.mono HB.out.size)).block g1 HR.out.pl.lt)).cell he) ((HR.out.nx.keep ((HB.out.trans (hW.mono HB.out.size)).block g2 HR.out.nx.lt)).cell he)))
      have HCall : Hid (∀ W : World, Below wr.heap.size wr W → Calls Try.prog gf (#[.int .i64 (pp e : Nat)] ++ lb) W fun r w' => r = .returned (.bool (dn (pp e))) ∧ Below wr.heap.size wr w') :=
        Lib.hid fun W hW => (HL.out W (pp e) (HPp.out e he) (HB.out.trans (hW.mono HB.out.size))).mono fun _ _ z => ⟨z.1, hW.trans (z.2.mono hW.size)⟩
      obtain ⟨bd, hbd⟩ : ∃ bd, dn (pp e) = bd := ⟨_, rfl⟩
      rw [hbd] at HCall
      have HBd := Lib.hid hbd
      clear hbd
      have q1 : (e : Int) < (n : Int) := by omega
      go_wp2_with fail
      refine wp_region_classJ (C := fun w' => Below wr.heap.size wr w') (by kernel_rfl) (by kernel_rfl) (Below.refl _ _).drew ?_
      repeat (quiet_step (first
        | (intro hw; with_reducible exact HCall.out _ hw)
        | (intro _; with_reducible rfl)
        | (intro _; with_reducible exact ⟨rfl, rfl⟩)
        | (intro hw; obtain ⟨⟨c0, c1, c2⟩, c3, c4⟩ := HCl.out _ hw; go_simp; with_reducible exact ⟨rfl, rfl⟩)
        | (intro hw; obtain ⟨⟨c0, c1, c2⟩, c3, c4⟩ := HCl.out _ hw; go_simp; with_reducible rfl)))
      refine wpQuiet_nil ?_
      intro w8 hb8
      have HB8 := Lib.hid (HB.out.trans (hb8.mono HB.out.size))
      obtain ⟨⟨c0, c1, c2⟩, c3, c4⟩ := HCl.out _ hb8
      clear hb8 HCl HCall
      cases bd with
      | true =>
        have HA2 := Lib.hid (show ∀ j, k ≤ j → j < nn e → dn (pp j) = true from fun j j1 j2 => by
          rcases Nat.lt_trichotomy j e with z | z | z
          · exact HA.out j j1 z
          · rw [z]; exact HBd.out
          · exact (HN.out e he).2.2 j z j2)
        have hne := HN.out e he
        have g4 := hne.1
        have g5 := hne.2.1
        clear hne
        go_wp2_with fail
        go_roundg (gk - 1)
        case measure => omega
        case rel => exact ⟨nn e, rfl, by omega, g5, by omega, HA2.out, HB8.out⟩
      | false =>
        have HEnd : e = n ∨ dn (pp e) = false := .inr HBd.out
        have HFp := Lib.hid (show FromP dn pp n k e from ⟨h1, h2, HA.out, HEnd⟩)
        have hr8 : RowP_ w8 q g1 g2 n (.func (.func gf) #[] lb) pp nn := ⟨heap_below HR.out.box HB8.out (lt_of_heap HR.out.box), HR.out.pl.keep (HB8.out.block g1 HR.out.pl.lt), HR.out.nx.keep (HB8.out.block g2 HR.out.nx.lt)⟩
        have HR8 := Lib.hid hr8
        have HM8 := Lib.hid (Below.mut HB8.out (fun k => k = g2))
        clear hr8 HEnd
        go_wp2_with fail
        go_loopg [1, 6] n (fun z i _ wq => ∃ (x : Nat) (nx : Nat → Nat), i = .int .i64 (x : Nat) ∧ k ≤ x ∧ e ≤ x + z ∧ NextP dn pp nx n ∧ RowP_ wq q g1 g2 n (.func (.func gf) #[] lb) pp nx ∧ Mut (fun k => k = g2) w wq)
        case atStart => exact ⟨k, nn, rfl, Nat.le_refl _, by omega, HN.out, HR8.out, HM8.out⟩
        case round =>
          obtain ⟨x, nx, rfl, x1, x2, xn, xr, xm⟩ := hrel
          have HXn := Lib.hid xn
          have HXr := Lib.hid xr
          have HXm := Lib.hid xm
          clear xn xr xm
          by_cases hx : x < e
          · have hlt2 : decide ((x : Int) < (e : Int)) = true := by simpa using hx
            have c5 : wr.cell? ⟨q, 1, none⟩ = some (.slice (some ⟨g2, 0, none⟩) n n) := by rw [cell_of_row wr q 1 _ _ _ HXr.out.box]; rfl
            have c6 := HXr.out.nx.cell (i := x) (by omega)
            have f6 := HXr.out.nx.frozen x
            have HNew := Lib.hid (show RowP_ (wr.setCell ⟨g2, x, none⟩ (.int .i64 (e : Nat))) q g1 g2 n (.func (.func gf) #[] lb) pp (fun i => if i = x then e else nx i) from
              ⟨((mut_setI wr g2 x _).block q (lt_of_heap HXr.out.box) hq).trans HXr.out.box, HXr.out.pl.keep ((mut_setI wr g2 x _).block g1 HXr.out.pl.lt hg), (HXr.out.nx.set x (e : Nat)).eq fun i _ => by
                unfold updI
                by_cases z : i = x
                · rw [if_pos z, if_pos z]
                · rw [if_neg z, if_neg z]⟩)
            have HXn2 := Lib.hid (HXn.out.set HFp.out x1 hx)
            have g7 := (HXn.out x (by omega)).1
            have q7 : (x : Int) < (n : Int) := by omega
            go_wp2
            go_roundg (gk - 1)
            case measure => omega
            case rel => exact ⟨nx x, fun i => if i = x then e else nx i, rfl, by omega, by omega, HXn2.out, HNew.out, HXm.out.trans (mut_setI wr g2 x _) (fun _ e => .inl e)⟩
          · have hlt2 : decide ((x : Int) < (e : Int)) = false := by simpa using (by omega : (e : Int) ≤ (x : Int))
            go_wp2_with fail
            go_ret
            exact ⟨e, nx, rfl, HFp.out, HXn.out, HXr.out, HXm.out⟩
    · have hlt : decide ((e : Int) < (n : Int)) = false := by simpa using (by omega : (n : Int) ≤ (e : Int))
      obtain ⟨c0, c1, c2⟩ := HCb.out _ HB.out
      have HB9 := Lib.hid (show Below w.heap.size w wr.drew from HB.out.drew)
      have HEnd : e = n ∨ dn (pp e) = false := .inl (by omega)
      go_wp2_with fail
      go_region
      have HFp := Lib.hid (show FromP dn pp n k e from ⟨h1, h2, HA.out, HEnd⟩)
      have hr8 : RowP_ wr.drew q g1 g2 n (.func (.func gf) #[] lb) pp nn := ⟨heap_below HR.out.box HB9.out (lt_of_heap HR.out.box), HR.out.pl.keep (HB9.out.block g1 HR.out.pl.lt), HR.out.nx.keep (HB9.out.block g2 HR.out.nx.lt)⟩
      have HR8 := Lib.hid hr8
      have HM8 := Lib.hid (Below.mut HB9.out (fun k => k = g2))
      clear hr8 HEnd
      go_wp2_with fail
      go_loopg [1, 6] n (fun z i _ wq => ∃ (x : Nat) (nx : Nat → Nat), i = .int .i64 (x : Nat) ∧ k ≤ x ∧ e ≤ x + z ∧ NextP dn pp nx n ∧ RowP_ wq q g1 g2 n (.func (.func gf) #[] lb) pp nx ∧ Mut (fun k => k = g2) w wq)
      case atStart => exact ⟨k, nn, rfl, Nat.le_refl _, by omega, HN.out, HR8.out, HM8.out⟩
      case round =>
        obtain ⟨x, nx, rfl, x1, x2, xn, xr, xm⟩ := hrel
        have HXn := Lib.hid xn
        have HXr := Lib.hid xr
        have HXm := Lib.hid xm
        clear xn xr xm
        by_cases hx : x < e
        · have hlt2 : decide ((x : Int) < (e : Int)) = true := by simpa using hx
          have c5 : wr.cell? ⟨q, 1, none⟩ = some (.slice (some ⟨g2, 0, none⟩) n n) := by rw [cell_of_row wr q 1 _ _ _ HXr.out.box]; rfl
          have c6 := HXr.out.nx.cell (i := x) (by omega)
          have f6 := HXr.out.nx.frozen x
          have HNew := Lib.hid (show RowP_ (wr.setCell ⟨g2, x, none⟩ (.int .i64 (e : Nat))) q g1 g2 n (.func (.func gf) #[] lb) pp (fun i => if i = x then e else nx i) from
            ⟨((mut_setI wr g2 x _).block q (lt_of_heap HXr.out.box) hq).trans HXr.out.box, HXr.out.pl.keep ((mut_setI wr g2 x _).block g1 HXr.out.pl.lt hg), (HXr.out.nx.set x (e : Nat)).eq fun i _ => by
              unfold updI
              by_cases z : i = x
              · rw [if_pos z, if_pos z]
              · rw [if_neg z, if_neg z]⟩)
          have HXn2 := Lib.hid (HXn.out.set HFp.out x1 hx)
          have g7 := (HXn.out x (by omega)).1
          have q7 : (x : Int) < (n : Int) := by omega
          go_wp2
          go_roundg (gk - 1)
          case measure => omega
          case rel => exact ⟨nx x, fun i => if i = x then e else nx i, rfl, by omega, by omega, HXn2.out, HNew.out, HXm.out.trans (mut_setI wr g2 x _) (fun _ e => .inl e)⟩
        · have hlt2 : decide ((x : Int) < (e : Int)) = false := by simpa using (by omega : (e : Int) ≤ (x : Int))
          go_wp2_with fail
          go_ret
          exact ⟨e, nx, rfl, HFp.out, HXn.out, HXr.out, HXm.out⟩
end Go.Proofs.Ytfdiidhilonkoaa

/-
  What package order asks of those that are left, in plain words: does one wait for another one's end, or for what another one read.
-/
namespace Go.Proofs.Ytfdiidhilonkoaa

def readsZ (a b : DoneZ) : Bool := meetB a.reads b.writes && decide (a.began < b.at_)
def waitE (l : List DoneZ) (dn : Nat → Bool) (i : Nat) : Bool := (List.range l.length).any fun k => k != i && !dn k && decide ((atD l k).end_ < (atD l i).start)
def waitR (l : List DoneZ) (dn : Nat → Bool) (i : Nat) : Bool := (List.range l.length).any fun k => k != i && !dn k && readsZ (atD l k) (atD l i)
def freeD (l : List DoneZ) (dn : Nat → Bool) (i : Nat) : Bool := (List.range l.length).all fun k => k == i || dn k || !edgeD (atD l k) (atD l i)
theorem free_is (l : List DoneZ) (laid : List Nat) (i : Nat) : freeO l laid i = freeD l (fun k => laid.contains k) i := rfl
theorem free_waits (l : List DoneZ) (dn : Nat → Bool) (i : Nat) : freeD l dn i = (!waitE l dn i && !waitR l dn i) := by
  rw [Bool.eq_iff_iff]
  unfold freeD waitE waitR
  rw [Bool.and_eq_true, Bool.not_eq_true', Bool.not_eq_true', List.all_eq_true, List.any_eq_false, List.any_eq_false]
  constructor
  · intro h
    refine ⟨fun k hk => ?_, fun k hk => ?_⟩
    all_goals
      have := h k hk
      unfold edgeD at this
      unfold readsZ at *
      cases h1 : k == i <;> cases h2 : dn k <;> cases h3 : decide ((atD l k).end_ < (atD l i).start) <;> cases h4 : meetB (atD l k).reads (atD l i).writes <;> cases h5 : decide ((atD l k).began < (atD l i).at_) <;> simp_all [bne]
  · rintro ⟨ha, hb⟩ k hk
    have h6 := ha k hk
    have h7 := hb k hk
    unfold edgeD
    unfold readsZ at *
    cases h1 : k == i <;> cases h2 : dn k <;> cases h3 : decide ((atD l k).end_ < (atD l i).start) <;> cases h4 : meetB (atD l k).reads (atD l i).writes <;> cases h5 : decide ((atD l k).began < (atD l i).at_) <;> simp_all [bne]
theorem ByEnd.inj {l : List DoneZ} {pp : Nat → Nat} (h : ByEnd l pp) {i j : Nat} (hi : i < l.length) (hj : j < l.length) (e : pp i = pp j) : i = j := by
  rcases Nat.lt_trichotomy i j with z | z | z
  · have := h.sort i j z hj
    rw [e] at this
    omega
  · exact z
  · have := h.sort j i z hi
    rw [e] at this
    omega
theorem ByEnd.le {l : List DoneZ} {pp : Nat → Nat} (h : ByEnd l pp) {i j : Nat} (hij : i ≤ j) (hj : j < l.length) : (atD l (pp i)).end_ ≤ (atD l (pp j)).end_ := by
  rcases Nat.lt_or_ge i j with z | z
  · have := h.sort i j z hj
    omega
  · have : i = j := by omega
    subst this
    exact Int.le_refl _
/-- All up to k, but i itself, are laid: whom i may wait for ended with the one at k, or later. -/
theorem waitE_no {l : List DoneZ} {dn : Nat → Bool} {pp : Nat → Nat} (h : ByEnd l pp) {i k : Nat} (hk : ∀ j, j < k → dn (pp j) = true ∨ pp j = i) (hn : k < l.length → (atD l i).start ≤ (atD l (pp k)).end_) (hkn : k ≤ l.length) : waitE l dn i = false := by
  unfold waitE
  rw [List.any_eq_false]
  intro x hx
  obtain ⟨j, hj, rfl⟩ := h.all x (List.mem_range.1 hx)
  by_cases z : j < k
  · rcases hk j z with q | q
    · simp [q]
    · simp [q]
  · have h1 := hn (by omega)
    have h2 := h.le (i := k) (j := j) (by omega) hj
    have : ¬ (atD l (pp j)).end_ < (atD l i).start := by omega
    simp [this]
theorem waitE_yes {l : List DoneZ} {dn : Nat → Bool} {x i : Nat} (hx : x < l.length) (hi : x ≠ i) (hd : dn x = false) (he : (atD l x).end_ < (atD l i).start) : waitE l dn i = true := by
  unfold waitE
  rw [List.any_eq_true]
  exact ⟨x, List.mem_range.2 hx, by simp [hi, hd, he]⟩
/-- A row of all places by Began. -/
structure ByBegan (l : List DoneZ) (pp : Nat → Nat) : Prop where
  in_ : ∀ k, k < l.length → pp k < l.length
  all : ∀ x, x < l.length → ∃ k, k < l.length ∧ pp k = x
  le : ∀ i j, i ≤ j → j < l.length → (atD l (pp i)).began ≤ (atD l (pp j)).began
/-- Nobody ahead of k is waited for. -/
def NoneTo (l : List DoneZ) (dn : Nat → Bool) (pp : Nat → Nat) (i k : Nat) : Prop := ∀ j, j < k → dn (pp j) = true ∨ pp j = i ∨ readsZ (atD l (pp j)) (atD l i) = false
/-- What is kept of a place: where one stood that it waited for. -/
def AheadP (l : List DoneZ) (dn : Nat → Bool) (pp : Nat → Nat) (i : Nat) (a : Int) : Prop :=
  -1 ≤ a ∧ a < (l.length : Int) ∧ NoneTo l dn pp i a.toNat ∧ (0 ≤ a → pp a.toNat ≠ i ∧ readsZ (atD l (pp a.toNat)) (atD l i) = true)
theorem AheadP.mono {l : List DoneZ} {dn dn' : Nat → Bool} {pp : Nat → Nat} {i : Nat} {a : Int} (h : AheadP l dn pp i a) (hd : ∀ k, dn k = true → dn' k = true) : AheadP l dn' pp i a :=
  ⟨h.1, h.2.1, fun j hj => (h.2.2.1 j hj).imp (hd _) id, h.2.2.2⟩
theorem aheadP_start (l : List DoneZ) (dn : Nat → Bool) (pp : Nat → Nat) (i : Nat) : AheadP l dn pp i (-1) := ⟨by omega, by omega, (fun j hj => absurd hj (by simp)), fun h => absurd h (by omega)⟩
theorem AheadP.put {l : List DoneZ} {dn : Nat → Bool} {pp : Nat → Nat} {i k : Nat} (hk : k < l.length) (hn : NoneTo l dn pp i k) (h1 : pp k ≠ i) (h2 : readsZ (atD l (pp k)) (atD l i) = true) : AheadP l dn pp i (k : Nat) :=
  ⟨by omega, by omega, by simpa using hn, fun _ => by simpa using ⟨h1, h2⟩⟩
theorem AheadP.next {l : List DoneZ} {dn : Nat → Bool} {pp : Nat → Nat} {i : Nat} {a : Int} (h : AheadP l dn pp i a) (hd : 0 ≤ a → dn (pp a.toNat) = true) : NoneTo l dn pp i (a + 1).toNat := fun j hj => by
  by_cases z : j < a.toNat
  · exact h.2.2.1 j z
  · have h0 : 0 ≤ a := by omega
    have : j = a.toNat := by omega
    subst this
    exact .inl (hd h0)
theorem NoneTo.from {l : List DoneZ} {dn : Nat → Bool} {pp : Nat → Nat} {i k e : Nat} (h : NoneTo l dn pp i k) (hf : ∀ j, k ≤ j → j < e → dn (pp j) = true) : NoneTo l dn pp i e := fun j hj => by
  by_cases z : j < k
  · exact h j z
  · exact .inl (hf j (by omega) hj)
theorem NoneTo.step {l : List DoneZ} {dn : Nat → Bool} {pp : Nat → Nat} {i k : Nat} (h : NoneTo l dn pp i k) (hk : pp k = i ∨ readsZ (atD l (pp k)) (atD l i) = false) : NoneTo l dn pp i (k + 1) := fun j hj => by
  by_cases z : j < k
  · exact h j z
  · have : j = k := by omega
    subst this
    exact .inr hk
theorem NoneTo.over {l : List DoneZ} {dn : Nat → Bool} {pp : Nat → Nat} {i k : Nat} (hB : ByBegan l pp) (h : NoneTo l dn pp i k) (hk : k < l.length → (atD l i).at_ ≤ (atD l (pp k)).began) : waitR l dn i = false := by
  unfold waitR
  rw [List.any_eq_false]
  intro x hx
  obtain ⟨j, hj, rfl⟩ := hB.all x (List.mem_range.1 hx)
  by_cases z : j < k
  · rcases h j z with q | q | q
    · simp [q]
    · simp [q]
    · simp [q]
  · have h1 := hk (by omega)
    have h2 := hB.le k j (by omega) hj
    have : ¬ (atD l (pp j)).began < (atD l i).at_ := by omega
    simp [readsZ, this]
theorem waitR_yes {l : List DoneZ} {dn : Nat → Bool} {x i : Nat} (hx : x < l.length) (hi : x ≠ i) (hd : dn x = false) (he : readsZ (atD l x) (atD l i) = true) : waitR l dn i = true := by
  unfold waitR
  rw [List.any_eq_true]
  exact ⟨x, List.mem_range.2 hx, by simp [hi, hd, he]⟩
end Go.Proofs.Ytfdiidhilonkoaa
