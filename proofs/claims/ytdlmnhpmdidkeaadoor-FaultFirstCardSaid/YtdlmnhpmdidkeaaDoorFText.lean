/-
  Text of package fault, of any error that is made of places around an end.
-/
import Derived.Test.YtdlmnhpmdidkeaaDoorFTrail
import Derived.Test.YtdlmnhpmdidkeaaDoorFNeeded
import Derived.Test.YtdlmnhpmdidkeaaDoorFShelf
import Derived.Lib.LaidTab
namespace Go.Proofs.YtdlmnhpmdidkeaaDoor
open Go.RowKit

theorem tab_of {P : Program} {w : World} {name : String} {k : IntKind} {zs : List Int} {g : Nat} {t : TypeId} {fz : Nat × Nat} (hg : P.globalNamed name = some g)
    (h : w.heap[g]? = some (.cells (zs.map fun z => Value.int k z).toArray t fz)) : Lib.TabIs P w name k zs := by
  unfold Lib.TabIs World.var?
  rw [hg, Option.bind_some, h]

theorem itoa_any (n : Int) (h0 : -9223372036854775808 ≤ n) (h1 : n ≤ 9223372036854775807) (w : World) (hG : Glob w) :
    Calls Tryd.prog 34 #[.int .i64 n] w fun e w' => e = .returned (.string ⟨(Lib.itoa n).toArray⟩) ∧ Below w.heap.size w w' := by
  obtain ⟨t, fz, ht⟩ := hG.tab
  refine (Any.strconv_Itoa Tryd.laysM171 n h0 h1 w (tab_of (by kernel_rfl) ht)).mono ?_
  rintro e w' ⟨he, k, os, rfl⟩
  exact ⟨he, rfl, rfl, rfl, by simp, fun j hj => Sort.heap_grow_old _ _ hj⟩

theorem join_any (bk c : Nat) (xs : List ByteArray) (sep : ByteArray) (w : World) (hcells : ∀ (j : Nat) x, xs[j]? = some x → w.cell? ⟨bk, 0 + j, none⟩ = some (.string x)) (hbk : bk < w.heap.size) (hN : xs.length ≤ 1000001) (hcap : xs.length ≤ c)
    (hlen : (Lib.join (xs.map (·.data.toList)) sep.data.toList).length ≤ 281474976710656) :
    Calls Tryd.prog 35 #[.slice (some ⟨bk, 0, none⟩) xs.length c, .string sep] w fun e w' => e = .returned (.string ⟨(Lib.join (xs.map (·.data.toList)) sep.data.toList).toArray⟩) ∧ Below w.heap.size w w' :=
  Any.strings_Join_48 Tryd.lays156 Tryd.Builder_Extra_156 bk 0 c xs sep w hcells hbk (by omega) hcap hlen

theorem decDigits_le : ∀ u : Nat, (Lib.decDigits u).length ≤ u + 1 := by
  intro u
  induction u using Nat.strongRecOn with
  | _ u ih =>
    rw [Lib.decDigits]
    split
    · simp
    · have := ih (u / 10) (by omega)
      simp
      omega

theorem itoa_le (n : Int) (h0 : -2147483648 ≤ n) (h1 : n ≤ 2147483647) : (Lib.itoa n).length ≤ 2147483650 := by
  unfold Lib.itoa
  split
  · have := decDigits_le n.natAbs
    simp
    omega
  · have := decDigits_le n.toNat
    omega

/-- What went wrong, as Text tells it behind the places. -/
def whatOf : End → List UInt8
  | none => [101, 114, 114, 111, 114, 32] ++ Lib.itoa 20
  | some (.inl n) => [101, 114, 114, 111, 114, 32] ++ Lib.itoa n
  | some (.inr _) => [110, 101, 101, 100]

/-- The text of an error that is one. -/
def textOf (e : End) (ps : List ByteArray) : List UInt8 := Lib.join (ps.map (·.data.toList) ++ [whatOf e]) [58, 32]

theorem text_none (w : World) : Calls Tryd.prog 16 #[.nilIface] w fun r w' => r = .returned (.string ⟨#[]⟩) ∧ w = w' := by
  go_enter Tryd.func16, Tryd.ntmps16
  go_wp2
  go_ret
  exact ⟨rfl, rfl⟩

theorem join_row {w : World} {g cap n : Nat} {base : Nat} {xs : List ByteArray} (ho : w.ownsRow base 9 1 (.slice (some ⟨g, 0, none⟩) n cap) n (xs.map Value.string)) (hN : xs.length ≤ 1000001) (hp : 0 < xs.length) (sep : ByteArray)
    (hlen : (Lib.join (xs.map (·.data.toList)) sep.data.toList).length ≤ 281474976710656) :
    Calls Tryd.prog 35 #[.slice (some ⟨g, 0, none⟩) n cap, .string sep] w fun e w' => e = .returned (.string ⟨(Lib.join (xs.map (·.data.toList)) sep.data.toList).toArray⟩) ∧ Below w.heap.size w w' := by
  obtain ⟨A, c, hv, rfl, hc, _, hr⟩ := RowS.own ho
  injection hv with hA _ hcc
  subst hA hcc
  obtain ⟨b, o, he, _, hb, hcell⟩ := hr hp
  injection he with he
  injection he with e1 e2
  subst e1 e2
  exact join_any g cap xs sep w (fun j x hx => by obtain ⟨hj, rfl⟩ := List.getElem?_eq_some_iff.1 hx; exact hcell j hj) hb hN hc hlen

set_option maxHeartbeats 1000000 in
theorem text_any (ps : List ByteArray) (v : Value) (e : End) (hi : Nat) (w : World) (he : Err w hi e ps v) (hs : some? e ps) (hhi : hi ≤ w.heap.size) (hps : ps.length ≤ 1000000) (hG : Glob w)
    (h0 : -2147483648 ≤ codeOf e) (h1 : codeOf e ≤ 2147483647) (hlen : (textOf e ps).length ≤ 281474976710656) :
    Calls Tryd.prog 16 #[v] w fun r w' => r = .returned (.string ⟨(textOf e ps).toArray⟩) ∧ Below w.heap.size w w' := by
  obtain ⟨T, y, rfl⟩ := he.iface hs
  have hil := itoa_le _ h0 h1
  have HL := Lib.hid hlen
  clear hlen
  obtain ⟨i0, hi0, hz0, hz1, hz2⟩ := infoStr
  have I0 := Lib.hid hi0
  have I1 := Lib.hid hz0
  have I2 := Lib.hid hz1
  have I3 := Lib.hid hz2
  clear hi0 hz0 hz1 hz2
  go_enter Tryd.func16, Tryd.ntmps16
  go_wp2_with fail
  refine (code_any ps _ e hi _ he hs hhi hG).mono ?_
  rintro r w1 ⟨rfl, b1⟩
  have he1 := he.below b1 hhi
  have hG1 := hG.below b1 hG.big
  have hs1 := b1.size
  have hh1 : hi ≤ w1.heap.size := by omega
  clear he hG
  go_wp2_with fail
  refine (itoa_any _ (by omega) (by omega) _ hG1).mono ?_
  rintro r w2 ⟨rfl, b2⟩
  have he2 := he1.below b2 hh1
  have hG2 := hG1.below b2 hG1.big
  have hs2 := b2.size
  have hh2 : hi ≤ w2.heap.size := by omega
  clear he1 hG1
  go_wp2_with fail
  refine (needed_any ps _ e hi _ he2 hh2 hG2).mono ?_
  rintro r w3 ⟨rfl, b3⟩
  have hs3 := b3.size
  have b3' : Below w2.heap.size w2 (w3.alloc (.cells #[.string (needOf e).1, .string (needOf e).2.1] 31)) := b3.alloc (by omega) _
  have he3 := he2.below b3' hh2
  have hG3 := hG2.below b3' hG2.big
  have hbb := Lib.hid (b1.trans ((b2.mono hs1).trans (b3'.mono (by omega))))
  clear he2 hG2 b1 b2 b3 b3'
  by_cases hn : (needOf e).2.2 = true
  · have hw : whatOf e = [110, 101, 101, 100] := by
      rcases e with _ | n | ⟨a, b⟩
      · cases hn
      · cases hn
      · rfl
    have HW := Lib.hid hw
    clear hw
    go_wp2_with fail
    refine (trail_any ps _ e hi _ he3 (by simp; omega) hps hG3).mono ?_
    rintro r w4 ⟨sv, rfl, ho, b4⟩
    have hs4 := b4.size
    have HO := Lib.hid (own_below (w' := w4.alloc (.cells #[.string (⟨#[110, 101, 101, 100]⟩)] 9)) (B' := w3.heap.size + 1) ho (fun g _ hg => Below.heap_alloc _ _ _ hg) (by simp))
    have HN := Lib.hid (RowS.one w4 9 (⟨#[110, 101, 101, 100]⟩))
    have hb4 := Lib.hid (hbb.out.trans (b4.mono (by simp; omega)))
    clear ho b4 hbb he3 hG3
    simp at hs4
    go_wp2_with (at_builtin; refine append_strs _ rfl _ _ 22 rfl (w3.heap.size + 1) 9 i0 _ Tryd.underlying22 I0.out I1.out I2.out I3.out rfl sv ps.length ps rfl HO.out _ _ _ 1 _ [⟨#[110, 101, 101, 100]⟩] rfl rfl (by intro h; cases h) HN.out (by simp; omega) (by simp; omega) ?_; intro v' w5 ho5 hg5; obtain ⟨g, cap, rfl⟩ := Joins.ownsRow_form ho5 (by omega))
    have b5 : Below w.heap.size w w5 := (hb4.out.alloc (by omega) _).grown hg5 (by simp; omega) (fun k hk => by have := own_row HO.out k hk; omega)
    clear hg5
    refine (join_row ho5 (by simp; omega) (by simp) _ (by simpa [textOf, HW.out] using HL.out)).mono ?_
    rintro r w6 ⟨rfl, b6⟩
    have hs5 := b5.size
    have b7 := Lib.hid (b5.trans (b6.mono hs5))
    clear b5 b6 ho5
    go_wp2_with fail
    go_ret
    refine ⟨?_, b7.out⟩
    simp [textOf, HW.out]
  · have hn : (needOf e).2.2 = false := by simpa using hn
    have hw : whatOf e = [101, 114, 114, 111, 114, 32] ++ Lib.itoa (codeOf e) := by
      rcases e with _ | n | ⟨a, b⟩
      · rfl
      · rfl
      · cases hn
    have HW := Lib.hid hw
    clear hw
    go_wp2_with fail
    refine (trail_any ps _ e hi _ he3 (by simp; omega) hps hG3).mono ?_
    rintro r w4 ⟨sv, rfl, ho, b4⟩
    have hs4 := b4.size
    have HO := Lib.hid (own_below (w' := w4.alloc (.cells #[.string (⟨#[101, 114, 114, 111, 114, 32]⟩ ++ ⟨(Lib.itoa (codeOf e)).toArray⟩)] 9)) (B' := w3.heap.size + 1) ho (fun g _ hg => Below.heap_alloc _ _ _ hg) (by simp))
    have HN := Lib.hid (RowS.one w4 9 (⟨#[101, 114, 114, 111, 114, 32]⟩ ++ ⟨(Lib.itoa (codeOf e)).toArray⟩))
    have hb4 := Lib.hid (hbb.out.trans (b4.mono (by simp; omega)))
    clear ho b4 hbb he3 hG3
    simp at hs4
    go_wp2_with (at_builtin; refine append_strs _ rfl _ _ 22 rfl (w3.heap.size + 1) 9 i0 _ Tryd.underlying22 I0.out I1.out I2.out I3.out rfl sv ps.length ps rfl HO.out _ _ _ 1 _ [⟨#[101, 114, 114, 111, 114, 32]⟩ ++ ⟨(Lib.itoa (codeOf e)).toArray⟩] rfl rfl (by intro h; cases h) HN.out (by simp; omega) (by simp; omega) ?_; intro v' w5 ho5 hg5; obtain ⟨g, cap, rfl⟩ := Joins.ownsRow_form ho5 (by omega))
    have b5 : Below w.heap.size w w5 := (hb4.out.alloc (by omega) _).grown hg5 (by simp; omega) (fun k hk => by have := own_row HO.out k hk; omega)
    clear hg5
    refine (join_row ho5 (by simp; omega) (by simp) _ (by simpa [textOf, HW.out] using HL.out)).mono ?_
    rintro r w6 ⟨rfl, b6⟩
    have hs5 := b5.size
    have b7 := Lib.hid (b5.trans (b6.mono hs5))
    clear b5 b6 ho5
    go_wp2_with fail
    go_ret
    refine ⟨?_, b7.out⟩
    simp [textOf, HW.out]
end Go.Proofs.YtdlmnhpmdidkeaaDoor
