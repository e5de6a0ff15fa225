import Derived.Shelf.Strings.OnBuilder
import Derived.Room.Shelf.Join48
import Derived.Shelf.LaysM
import Derived.Shelf.Strconv.Itoa3
import Derived.Test.YtidomoibhjgkjaaGreatDoorProg
import Derived.Test.YtidomoibhjgkjaaGreatDoorZC16
import Derived.Test.YtidomoibhjgkjaaGreatDoorZC17
import Derived.Lib.LaidTab
/-
  The tables by which the library's contracts for strings.Join and strconv.Itoa are read at this program: laid by program.
-/
namespace Go.Proofs
open Go.Shelf
def Tryz.lays156_ren : Go.Shelf.Ren := ⟨fun | 156 => 62 | 165 => 99 | 166 => 100 | 169 => 101 | 240 => 123 | 241 => 124 | 276 => 137 | 277 => 138 | n => n, fun | 31 => 32 | 9 => 9 | 3 => 3 | 4 => 4 | 0 => 0 | 20 => 20 | 72 => 145 | 76 => 147 | 70 => 142 | 37 => 143 | 75 => 29 | 127 => 179 | 164 => 104 | 5 => 5 | 80 => 149 | n => n, fun | n => n⟩
theorem Tryz.lays156 : Go.Proofs.Lays.n156 Tryz.prog Tryz.lays156_ren := {
  mixed := by kernel_rfl
  f156 := Tryz.func62.trans (congrArg some (by kernel_rfl))
  f165 := Tryz.func99.trans (congrArg some (by kernel_rfl))
  f166 := Tryz.func100.trans (congrArg some (by kernel_rfl))
  f169 := Tryz.func101.trans (congrArg some (by kernel_rfl))
  f240 := Tryz.func123.trans (congrArg some (by kernel_rfl))
  f241 := Tryz.func124.trans (congrArg some (by kernel_rfl))
  f276 := Tryz.func137.trans (congrArg some (by kernel_rfl))
  f277 := Tryz.func138.trans (congrArg some (by kernel_rfl))
  t0 := Tryz.underlying0
  a0 := Tryz.isAgg0
  z0 := Tryz.sizeOf0
  v0 := Tryz.zeroValue0
  t3 := Tryz.underlying3
  a3 := Tryz.isAgg3
  z3 := Tryz.sizeOf3
  v3 := Tryz.zeroValue3
  t4 := Tryz.underlying4
  a4 := Tryz.isAgg4
  z4 := Tryz.sizeOf4
  v4 := Tryz.zeroValue4
  t9 := Tryz.underlying9
  a9 := Tryz.isAgg9
  z9 := Tryz.sizeOf9
  v9 := Tryz.zeroValue9
  t20 := Tryz.underlying20
  a20 := Tryz.isAgg20
  z20 := Tryz.sizeOf20
  v20 := Tryz.zeroValue20
  t31 := Tryz.underlying32
  a31 := Tryz.isAgg32
  z31 := Tryz.sizeOf32
  v31 := Tryz.zeroValue32
  t37 := Tryz.underlying143
  a37 := Tryz.isAgg143
  z37 := Tryz.sizeOf143
  v37 := Tryz.zeroValue143
  t70 := Tryz.underlying142
  a70 := Tryz.isAgg142
  z70 := Tryz.sizeOf142
  v70 := Tryz.zeroValue142
  t72 := Tryz.underlying145
  a72 := Tryz.isAgg145
  z72 := Tryz.sizeOf145
  v72 := Tryz.zeroValue145
  t75 := Tryz.underlying29
  a75 := Tryz.isAgg29
  z75 := Tryz.sizeOf29
  v75 := Tryz.zeroValue29
  t76 := Tryz.underlying147
  a76 := Tryz.isAgg147
  z76 := Tryz.sizeOf147
  v76 := Tryz.zeroValue147
  t127 := Tryz.underlying179
  a127 := Tryz.isAgg179
  z127 := Tryz.sizeOf179
  v127 := Tryz.zeroValue179
  t164 := Tryz.underlying104
  a164 := Tryz.isAgg104
  z164 := Tryz.sizeOf104
  v164 := Tryz.zeroValue104 }
theorem Tryz.Builder_Extra_156 : Builder.Extra Tryz.prog Tryz.lays156_ren := {
  sizeBuilder := by kernel_rfl
  liesBuilder := by kernel_rfl
  t5 := Tryz.underlying5
  a5 := Tryz.isAgg5
  z5 := Tryz.sizeOf5
  v5 := Tryz.zeroValue5
  infoByte := by kernel_rfl
  cellsByte := by kernel_rfl
  sizeByte := by kernel_rfl
  neB5 := by decide }
def Tryz.laysM171_ren : Go.Shelf.Ren := ⟨fun | 171 => 61 | 243 => 98 | 246 => 122 | 283 => 133 | 284 => 134 | 285 => 135 | 286 => 136 | 129 => 142 | 317 => 141 | 318 => 143 | 319 => 144 | 320 => 145 | 337 => 146 | 338 => 147 | n => n, fun | 3 => 3 | 9 => 9 | 2 => 2 | 4 => 4 | 171 => 184 | 0 => 0 | 53 => 152 | 37 => 143 | 5 => 5 | 173 => 187 | 212 => 192 | 51 => 193 | 20 => 20 | 213 => 194 | 46 => 196 | 232 => 199 | 233 => 200 | n => n, fun | 17 => 1 | 18 => 3 | 19 => 4 | n => n⟩
theorem Tryz.laysM171 : Go.Proofs.LaysM.n171 Tryz.prog Tryz.laysM171_ren := {
  mixed := by kernel_rfl
  f129 := Tryz.func142.trans (congrArg some (by kernel_rfl))
  f171 := Tryz.func61.trans (congrArg some (by kernel_rfl))
  f243 := Tryz.func98.trans (congrArg some (by kernel_rfl))
  f246 := Tryz.func122.trans (congrArg some (by kernel_rfl))
  f283 := Tryz.func133.trans (congrArg some (by kernel_rfl))
  f284 := Tryz.func134.trans (congrArg some (by kernel_rfl))
  f285 := Tryz.func135.trans (congrArg some (by kernel_rfl))
  f286 := Tryz.func136.trans (congrArg some (by kernel_rfl))
  f317 := Tryz.func141.trans (congrArg some (by kernel_rfl))
  f318 := Tryz.func143.trans (congrArg some (by kernel_rfl))
  f319 := Tryz.func144.trans (congrArg some (by kernel_rfl))
  f320 := Tryz.func145.trans (congrArg some (by kernel_rfl))
  f337 := Tryz.func146.trans (congrArg some (by kernel_rfl))
  f338 := Tryz.func147.trans (congrArg some (by kernel_rfl))
  t0 := Tryz.underlying0
  a0 := Tryz.isAgg0
  z0 := Tryz.sizeOf0
  v0 := Tryz.zeroValue0
  t2 := Tryz.underlying2
  a2 := Tryz.isAgg2
  z2 := Tryz.sizeOf2
  v2 := Tryz.zeroValue2
  t3 := Tryz.underlying3
  a3 := Tryz.isAgg3
  z3 := Tryz.sizeOf3
  v3 := Tryz.zeroValue3
  t4 := Tryz.underlying4
  a4 := Tryz.isAgg4
  z4 := Tryz.sizeOf4
  v4 := Tryz.zeroValue4
  t5 := Tryz.underlying5
  a5 := Tryz.isAgg5
  z5 := Tryz.sizeOf5
  v5 := Tryz.zeroValue5
  t9 := Tryz.underlying9
  a9 := Tryz.isAgg9
  z9 := Tryz.sizeOf9
  v9 := Tryz.zeroValue9
  t20 := Tryz.underlying20
  a20 := Tryz.isAgg20
  z20 := Tryz.sizeOf20
  v20 := Tryz.zeroValue20
  t37 := Tryz.underlying143
  a37 := Tryz.isAgg143
  z37 := Tryz.sizeOf143
  v37 := Tryz.zeroValue143
  t46 := Tryz.underlying196
  a46 := Tryz.isAgg196
  z46 := Tryz.sizeOf196
  v46 := Tryz.zeroValue196
  t51 := Tryz.underlying193
  a51 := Tryz.isAgg193
  z51 := Tryz.sizeOf193
  v51 := Tryz.zeroValue193
  t53 := Tryz.underlying152
  a53 := Tryz.isAgg152
  z53 := Tryz.sizeOf152
  v53 := Tryz.zeroValue152
  t171 := Tryz.underlying184
  a171 := Tryz.isAgg184
  z171 := Tryz.sizeOf184
  v171 := Tryz.zeroValue184
  t173 := Tryz.underlying187
  a173 := Tryz.isAgg187
  z173 := Tryz.sizeOf187
  v173 := Tryz.zeroValue187
  t212 := Tryz.underlying192
  a212 := Tryz.isAgg192
  z212 := Tryz.sizeOf192
  v212 := Tryz.zeroValue192
  t213 := Tryz.underlying194
  a213 := Tryz.isAgg194
  z213 := Tryz.sizeOf194
  t232 := Tryz.underlying199
  a232 := Tryz.isAgg199
  z232 := Tryz.sizeOf199
  v232 := Tryz.zeroValue199
  t233 := Tryz.underlying200
  a233 := Tryz.isAgg200
  z233 := Tryz.sizeOf200
  v233 := Tryz.zeroValue200
  g17 := by kernel_rfl
  g18 := by kernel_rfl
  g19 := by kernel_rfl
  i0 := by kernel_rfl
  i2 := by kernel_rfl
  i3 := by kernel_rfl
  i4 := by kernel_rfl
  i5 := by kernel_rfl
  i9 := by kernel_rfl
  i20 := by kernel_rfl
  i37 := by kernel_rfl
  i46 := by kernel_rfl
  i51 := by kernel_rfl
  i53 := by kernel_rfl
  i171 := by kernel_rfl
  i173 := by kernel_rfl
  i212 := by kernel_rfl
  i232 := by kernel_rfl
  i233 := by kernel_rfl
  m17 := by kernel_rfl
  m18 := by kernel_rfl
  m19 := by kernel_rfl }
end Go.Proofs

/-
  Text of package fault, of any error that is made of places around an end.
-/
namespace Go.Proofs.YtidomoibhjgkjaaGreatDoor
open Go.RowKit

theorem tab_of {P : Program} {w : World} {name : String} {k : IntKind} {zs : List Int} {g : Nat} {t : TypeId} {fz : Nat × Nat} (hg : P.globalNamed name = some g)
    (h : w.heap[g]? = some (.cells (zs.map fun z => Value.int k z).toArray t fz)) : Lib.TabIs P w name k zs := by
  unfold Lib.TabIs World.var?
  rw [hg, Option.bind_some, h]

theorem itoa_any (n : Int) (h0 : -9223372036854775808 ≤ n) (h1 : n ≤ 9223372036854775807) (w : World) (hG : Glob w) :
    Calls Tryz.prog 61 #[.int .i64 n] w fun e w' => e = .returned (.string ⟨(Lib.itoa n).toArray⟩) ∧ Below w.heap.size w w' := by
  obtain ⟨t, fz, ht⟩ := hG.tab
  refine (Any.strconv_Itoa Tryz.laysM171 n h0 h1 w (tab_of (by kernel_rfl) ht)).mono ?_
  rintro e w' ⟨he, k, os, rfl⟩
  exact ⟨he, rfl, rfl, rfl, by simp, fun j hj => Sort.heap_grow_old _ _ hj⟩

theorem joinE_any (bk c : Nat) (xs : List ByteArray) (sep : ByteArray) (w : World) (hcells : ∀ (j : Nat) x, xs[j]? = some x → w.cell? ⟨bk, 0 + j, none⟩ = some (.string x)) (hbk : bk < w.heap.size) (hN : xs.length ≤ 1000001) (hcap : xs.length ≤ c)
    (hlen : (Lib.join (xs.map (·.data.toList)) sep.data.toList).length ≤ 281474976710656) :
    Calls Tryz.prog 62 #[.slice (some ⟨bk, 0, none⟩) xs.length c, .string sep] w fun e w' => e = .returned (.string ⟨(Lib.join (xs.map (·.data.toList)) sep.data.toList).toArray⟩) ∧ Below w.heap.size w w' :=
  Any.strings_Join_48 Tryz.lays156 Tryz.Builder_Extra_156 bk 0 c xs sep w hcells hbk (by omega) hcap hlen

theorem decDigits_le : ∀ u : Nat, (Lib.decDigits u).length ≤ u + 1 := by
  intro u
  induction u using Nat.strongRecOn with
  | _ u ih =>
    rw [Lib.decDigits]
    split
    · simp
    · have := ih (u / 10) (by omega)
      simp
      omega

theorem itoa_le (n : Int) (h0 : -2147483648 ≤ n) (h1 : n ≤ 2147483647) : (Lib.itoa n).length ≤ 2147483650 := by
  unfold Lib.itoa
  split
  · have := decDigits_le n.natAbs
    simp
    omega
  · have := decDigits_le n.toNat
    omega

/-- What went wrong, as Text tells it behind the places. -/
def whatOf : End → List UInt8
  | none => [101, 114, 114, 111, 114, 32] ++ Lib.itoa 20
  | some (.inl n) => [101, 114, 114, 111, 114, 32] ++ Lib.itoa n
  | some (.inr _) => [110, 101, 101, 100]

/-- The text of an error that is one. -/
def textE (e : End) (ps : List ByteArray) : List UInt8 := Lib.join (ps.map (·.data.toList) ++ [whatOf e]) [58, 32]

theorem text_none (w : World) : Calls Tryz.prog 30 #[.nilIface] w fun r w' => r = .returned (.string ⟨#[]⟩) ∧ w = w' := by
  go_enter Tryz.func30, Tryz.ntmps30
  go_wp2
  go_ret
  exact ⟨rfl, rfl⟩

theorem joinE_row {w : World} {g cap n : Nat} {base : Nat} {xs : List ByteArray} (ho : w.ownsRow base 9 1 (.slice (some ⟨g, 0, none⟩) n cap) n (xs.map Value.string)) (hN : xs.length ≤ 1000001) (hp : 0 < xs.length) (sep : ByteArray)
    (hlen : (Lib.join (xs.map (·.data.toList)) sep.data.toList).length ≤ 281474976710656) :
    Calls Tryz.prog 62 #[.slice (some ⟨g, 0, none⟩) n cap, .string sep] w fun e w' => e = .returned (.string ⟨(Lib.join (xs.map (·.data.toList)) sep.data.toList).toArray⟩) ∧ Below w.heap.size w w' := by
  obtain ⟨A, c, hv, rfl, hc, _, hr⟩ := RowS.own ho
  injection hv with hA _ hcc
  subst hA hcc
  obtain ⟨b, o, he, _, hb, hcell⟩ := hr hp
  injection he with he
  injection he with e1 e2
  subst e1 e2
  exact joinE_any g cap xs sep w (fun j x hx => by obtain ⟨hj, rfl⟩ := List.getElem?_eq_some_iff.1 hx; exact hcell j hj) hb hN hc hlen

set_option maxHeartbeats 1000000 in
theorem textE_any (ps : List ByteArray) (v : Value) (e : End) (hi : Nat) (w : World) (he : Err w hi e ps v) (hs : some? e ps) (hhi : hi ≤ w.heap.size) (hps : ps.length ≤ 1000000) (hG : Glob w)
    (h0 : -2147483648 ≤ codeOf e) (h1 : codeOf e ≤ 2147483647) (hlen : (textE e ps).length ≤ 281474976710656) :
    Calls Tryz.prog 30 #[v] w fun r w' => r = .returned (.string ⟨(textE e ps).toArray⟩) ∧ Below w.heap.size w w' := by
  obtain ⟨T, y, rfl⟩ := he.iface hs
  have hil := itoa_le _ h0 h1
  have HL := Lib.hid hlen
  clear hlen
  obtain ⟨i0, hi0, hz0, hz1, hz2⟩ := infoStr
  have I0 := Lib.hid hi0
  have I1 := Lib.hid hz0
  have I2 := Lib.hid hz1
  have I3 := Lib.hid hz2
  clear hi0 hz0 hz1 hz2
  go_enter Tryz.func30, Tryz.ntmps30
  go_wp2_with fail
  refine (code_any ps _ e hi _ he hs hhi hG.wg).mono ?_
  rintro r w1 ⟨rfl, b1⟩
  have he1 := he.below b1 hhi
  have hG1 := hG.below b1 hG.big
  have hs1 := b1.size
  have hh1 : hi ≤ w1.heap.size := by omega
  clear he hG
  go_wp2_with fail
  refine (itoa_any _ (by omega) (by omega) _ hG1).mono ?_
  rintro r w2 ⟨rfl, b2⟩
  have he2 := he1.below b2 hh1
  have hG2 := hG1.below b2 hG1.big
  have hs2 := b2.size
  have hh2 : hi ≤ w2.heap.size := by omega
  clear he1 hG1
  go_wp2_with fail
  refine (needed_any ps _ e hi _ he2 hh2 hG2.wg).mono ?_
  rintro r w3 ⟨rfl, b3⟩
  have hs3 := b3.size
  have b3' : Below w2.heap.size w2 (w3.alloc (.cells #[.string (needOf e).1, .string (needOf e).2.1] 35)) := b3.alloc (by omega) _
  have he3 := he2.below b3' hh2
  have hG3 := hG2.below b3' hG2.big
  have hbb := Lib.hid (b1.trans ((b2.mono hs1).trans (b3'.mono (by omega))))
  clear he2 hG2 b1 b2 b3 b3'
  by_cases hn : (needOf e).2.2 = true
  · have hw : whatOf e = [110, 101, 101, 100] := by
      rcases e with _ | n | ⟨a, b⟩
      · cases hn
      · cases hn
      · rfl
    have HW := Lib.hid hw
    clear hw
    go_wp2_with fail
    refine (trail_any ps _ e hi _ he3 (by simp; omega) hps hG3.wg).mono ?_
    rintro r w4 ⟨sv, rfl, ho, b4⟩
    have hs4 := b4.size
    have HO := Lib.hid (ownF_below (w' := w4.alloc (.cells #[.string (⟨#[110, 101, 101, 100]⟩)] 9)) (B' := w3.heap.size + 1) ho (fun g _ hg => Below.heap_alloc _ _ _ hg) (by simp))
    have HN := Lib.hid (RowS.one w4 9 (⟨#[110, 101, 101, 100]⟩))
    have hb4 := Lib.hid (hbb.out.trans (b4.mono (by simp; omega)))
    clear ho b4 hbb he3 hG3
    simp at hs4
    go_wp2_with (at_builtin; refine append_strs _ rfl _ _ 32 rfl (w3.heap.size + 1) 9 i0 _ Tryz.underlying32 I0.out I1.out I2.out I3.out rfl sv ps.length ps rfl HO.out _ _ _ 1 _ [⟨#[110, 101, 101, 100]⟩] rfl rfl (by intro h; cases h) HN.out (by simp; omega) (by simp; omega) ?_; intro v' w5 ho5 hg5; obtain ⟨g, cap, rfl⟩ := Joins.ownsRow_form ho5 (by omega))
    have b5 : Below w.heap.size w w5 := (hb4.out.alloc (by omega) _).grown hg5 (by simp; omega) (fun k hk => by have := own_row HO.out k hk; omega)
    clear hg5
    refine (joinE_row ho5 (by simp; omega) (by simp) _ (by simpa [textE, HW.out] using HL.out)).mono ?_
    rintro r w6 ⟨rfl, b6⟩
    have hs5 := b5.size
    have b7 := Lib.hid (b5.trans (b6.mono hs5))
    clear b5 b6 ho5
    go_wp2_with fail
    go_ret
    refine ⟨?_, b7.out⟩
    simp [textE, HW.out]
  · have hn : (needOf e).2.2 = false := by simpa using hn
    have hw : whatOf e = [101, 114, 114, 111, 114, 32] ++ Lib.itoa (codeOf e) := by
      rcases e with _ | n | ⟨a, b⟩
      · rfl
      · rfl
      · cases hn
    have HW := Lib.hid hw
    clear hw
    go_wp2_with fail
    refine (trail_any ps _ e hi _ he3 (by simp; omega) hps hG3.wg).mono ?_
    rintro r w4 ⟨sv, rfl, ho, b4⟩
    have hs4 := b4.size
    have HO := Lib.hid (ownF_below (w' := w4.alloc (.cells #[.string (⟨#[101, 114, 114, 111, 114, 32]⟩ ++ ⟨(Lib.itoa (codeOf e)).toArray⟩)] 9)) (B' := w3.heap.size + 1) ho (fun g _ hg => Below.heap_alloc _ _ _ hg) (by simp))
    have HN := Lib.hid (RowS.one w4 9 (⟨#[101, 114, 114, 111, 114, 32]⟩ ++ ⟨(Lib.itoa (codeOf e)).toArray⟩))
    have hb4 := Lib.hid (hbb.out.trans (b4.mono (by simp; omega)))
    clear ho b4 hbb he3 hG3
    simp at hs4
    go_wp2_with (at_builtin; refine append_strs _ rfl _ _ 32 rfl (w3.heap.size + 1) 9 i0 _ Tryz.underlying32 I0.out I1.out I2.out I3.out rfl sv ps.length ps rfl HO.out _ _ _ 1 _ [⟨#[101, 114, 114, 111, 114, 32]⟩ ++ ⟨(Lib.itoa (codeOf e)).toArray⟩] rfl rfl (by intro h; cases h) HN.out (by simp; omega) (by simp; omega) ?_; intro v' w5 ho5 hg5; obtain ⟨g, cap, rfl⟩ := Joins.ownsRow_form ho5 (by omega))
    have b5 : Below w.heap.size w w5 := (hb4.out.alloc (by omega) _).grown hg5 (by simp; omega) (fun k hk => by have := own_row HO.out k hk; omega)
    clear hg5
    refine (joinE_row ho5 (by simp; omega) (by simp) _ (by simpa [textE, HW.out] using HL.out)).mono ?_
    rintro r w6 ⟨rfl, b6⟩
    have hs5 := b5.size
    have b7 := Lib.hid (b5.trans (b6.mono hs5))
    clear b5 b6 ho5
    go_wp2_with fail
    go_ret
    refine ⟨?_, b7.out⟩
    simp [textE, HW.out]
end Go.Proofs.YtidomoibhjgkjaaGreatDoor

/-
  Of, Ask, Wrap, First of package fault, and Error of a Fault.
-/
namespace Go.Proofs.YtidomoibhjgkjaaGreatDoor
open Go.RowKit

theorem ask_any (a b : ByteArray) (w : World) : Calls Tryz.prog 23 #[.string a, .string b] w fun r w' => r = .returned (.iface 35 (.agg #[.string a, .string b])) ∧ w = w' := by
  go_enter Tryz.func23, Tryz.ntmps23
  go_wp2
  go_ret
  exact ⟨rfl, rfl⟩
theorem unwrap_none (w : World) : Calls Tryz.prog 171 #[.pointer none] w fun r w' => r = .returned .nilIface ∧ w = w' := by
  go_enter Tryz.func171, Tryz.ntmps171
  go_wp2
  go_ret
  exact ⟨rfl, rfl⟩

end Go.Proofs.YtidomoibhjgkjaaGreatDoor
