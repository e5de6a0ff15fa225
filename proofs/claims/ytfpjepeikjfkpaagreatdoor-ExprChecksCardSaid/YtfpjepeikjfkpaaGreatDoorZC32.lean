import Derived.Test.YtfpjepeikjfkpaaGreatDoorZC22
import Derived.Shelf.LaysM
import Derived.Shelf.Strconv.Itoa3
import Derived.Shelf.Sort.Plain
import Derived.Shelf.Slices.Cells
import Derived.Test.YtfpjepeikjfkpaaGreatDoorProg
import Derived.Test.YtfpjepeikjfkpaaGreatDoorZC30
import Derived.Test.YtfpjepeikjfkpaaGreatDoorZC31
import Derived.Lib.LaidTab
/-
  Of and Wrap of package fault.
-/
namespace Go.Proofs.YtfpjepeikjfkpaaGreatDoor
open Go.RowKit

theorem of_zero (w : World) : Calls Tryz.prog 33 #[.int .i64 0] w fun r w' => r = .returned .nilIface ∧ w = w' := by
  go_enter Tryz.func33, Tryz.ntmps33
  go_wp2
  go_ret
  exact ⟨rfl, rfl⟩
theorem of_num (n : Int) (w : World) (hn : n ≠ 0) : Calls Tryz.prog 33 #[.int .i64 n] w fun r w' => r = .returned (.iface 25 (.int .i64 n)) ∧ w = w' := by
  have h : (n == 0) = false := by simpa using hn
  clear hn
  go_enter Tryz.func33, Tryz.ntmps33
  go_wp2
  go_ret
  exact ⟨rfl, rfl⟩
theorem wrap_none (p : ByteArray) (w : World) : Calls Tryz.prog 36 #[.string p, .nilIface] w fun r w' => r = .returned .nilIface ∧ w = w' := by
  go_enter Tryz.func36, Tryz.ntmps36
  go_wp2
  go_ret
  exact ⟨rfl, rfl⟩
theorem wrap_raw (p : ByteArray) (T : TypeId) (y : Value) (w : World) : Calls Tryz.prog 36 #[.string p, .iface T y] w
    fun r w' => r = .returned (.iface 90 (.pointer (some ⟨w.heap.size, 0, none⟩))) ∧ w.alloc (.cells #[.string p, .iface T y] 92) = w' := by
  go_enter Tryz.func36, Tryz.ntmps36
  go_wp2
  go_ret
  exact ⟨rfl, rfl⟩

def RetE (e : End) (ps : List ByteArray) (w : World) (r : Ending) (w' : World) : Prop := ∃ v, r = .returned v ∧ Err w' w'.heap.size e ps v ∧ Below w.heap.size w w'

theorem wrap_any (p : ByteArray) (ps : List ByteArray) (v : Value) (e : End) (hi : Nat) (w : World) (he : Err w hi e ps v) (hs : some? e ps) (hhi : hi ≤ w.heap.size) :
    Calls Tryz.prog 36 #[.string p, v] w (RetE e (p :: ps) w) := by
  obtain ⟨T, y, rfl⟩ := he.iface hs
  refine (wrap_raw p T y w).mono ?_
  rintro r w' ⟨rfl, rfl⟩
  have hb : Below w.heap.size w (w.alloc (.cells #[.string p, .iface T y] 92)) := (Below.refl _ w).alloc (Nat.le_refl _) _
  exact ⟨_, rfl, ⟨w.heap.size, _, rfl, by simp, heap_alloc_new w _, (he.below hb hhi).wide (by simp; omega)⟩, hb⟩

end Go.Proofs.YtfpjepeikjfkpaaGreatDoor

/-
  The tables by which the library's contracts for strconv.Itoa, slices.Sort and slices.Compact are read at this program: laid by program.
-/
namespace Go.Proofs
open Go.Shelf
def Tryz.laysM171_ren : Go.Shelf.Ren := ⟨fun | 171 => 37 | 243 => 69 | 246 => 110 | 283 => 130 | 284 => 131 | 285 => 132 | 286 => 133 | 129 => 95 | 317 => 140 | 318 => 141 | 319 => 142 | 320 => 143 | 337 => 150 | 338 => 151 | n => n, fun | 3 => 3 | 9 => 9 | 2 => 2 | 4 => 4 | 171 => 165 | 0 => 0 | 53 => 126 | 37 => 152 | 5 => 5 | 173 => 167 | 212 => 175 | 51 => 124 | 20 => 20 | 213 => 176 | 46 => 81 | 232 => 188 | 233 => 189 | n => n, fun | 17 => 2 | 18 => 5 | 19 => 6 | n => n⟩
theorem Tryz.laysM171 : Go.Proofs.LaysM.n171 Tryz.prog Tryz.laysM171_ren := {
  mixed := by kernel_rfl
  f129 := Tryz.func95.trans (congrArg some (by kernel_rfl))
  f171 := Tryz.func37.trans (congrArg some (by kernel_rfl))
  f243 := Tryz.func69.trans (congrArg some (by kernel_rfl))
  f246 := Tryz.func110.trans (congrArg some (by kernel_rfl))
  f283 := Tryz.func130.trans (congrArg some (by kernel_rfl))
  f284 := Tryz.func131.trans (congrArg some (by kernel_rfl))
  f285 := Tryz.func132.trans (congrArg some (by kernel_rfl))
  f286 := Tryz.func133.trans (congrArg some (by kernel_rfl))
  f317 := Tryz.func140.trans (congrArg some (by kernel_rfl))
  f318 := Tryz.func141.trans (congrArg some (by kernel_rfl))
  f319 := Tryz.func142.trans (congrArg some (by kernel_rfl))
  f320 := Tryz.func143.trans (congrArg some (by kernel_rfl))
  f337 := Tryz.func150.trans (congrArg some (by kernel_rfl))
  f338 := Tryz.func151.trans (congrArg some (by kernel_rfl))
  t0 := Tryz.underlying0
  a0 := Tryz.isAgg0
  z0 := Tryz.sizeOf0
  v0 := Tryz.zeroValue0
  t2 := Tryz.underlying2
  a2 := Tryz.isAgg2
  z2 := Tryz.sizeOf2
  v2 := Tryz.zeroValue2
  t3 := Tryz.underlying3
  a3 := Tryz.isAgg3
  z3 := Tryz.sizeOf3
  v3 := Tryz.zeroValue3
  t4 := Tryz.underlying4
  a4 := Tryz.isAgg4
  z4 := Tryz.sizeOf4
  v4 := Tryz.zeroValue4
  t5 := Tryz.underlying5
  a5 := Tryz.isAgg5
  z5 := Tryz.sizeOf5
  v5 := Tryz.zeroValue5
  t9 := Tryz.underlying9
  a9 := Tryz.isAgg9
  z9 := Tryz.sizeOf9
  v9 := Tryz.zeroValue9
  t20 := Tryz.underlying20
  a20 := Tryz.isAgg20
  z20 := Tryz.sizeOf20
  v20 := Tryz.zeroValue20
  t37 := Tryz.underlying152
  a37 := Tryz.isAgg152
  z37 := Tryz.sizeOf152
  v37 := Tryz.zeroValue152
  t46 := Tryz.underlying81
  a46 := Tryz.isAgg81
  z46 := Tryz.sizeOf81
  v46 := Tryz.zeroValue81
  t51 := Tryz.underlying124
  a51 := Tryz.isAgg124
  z51 := Tryz.sizeOf124
  v51 := Tryz.zeroValue124
  t53 := Tryz.underlying126
  a53 := Tryz.isAgg126
  z53 := Tryz.sizeOf126
  v53 := Tryz.zeroValue126
  t171 := Tryz.underlying165
  a171 := Tryz.isAgg165
  z171 := Tryz.sizeOf165
  v171 := Tryz.zeroValue165
  t173 := Tryz.underlying167
  a173 := Tryz.isAgg167
  z173 := Tryz.sizeOf167
  v173 := Tryz.zeroValue167
  t212 := Tryz.underlying175
  a212 := Tryz.isAgg175
  z212 := Tryz.sizeOf175
  v212 := Tryz.zeroValue175
  t213 := Tryz.underlying176
  a213 := Tryz.isAgg176
  z213 := Tryz.sizeOf176
  t232 := Tryz.underlying188
  a232 := Tryz.isAgg188
  z232 := Tryz.sizeOf188
  v232 := Tryz.zeroValue188
  t233 := Tryz.underlying189
  a233 := Tryz.isAgg189
  z233 := Tryz.sizeOf189
  v233 := Tryz.zeroValue189
  g17 := by kernel_rfl
  g18 := by kernel_rfl
  g19 := by kernel_rfl
  i0 := by kernel_rfl
  i2 := by kernel_rfl
  i3 := by kernel_rfl
  i4 := by kernel_rfl
  i5 := by kernel_rfl
  i9 := by kernel_rfl
  i20 := by kernel_rfl
  i37 := by kernel_rfl
  i46 := by kernel_rfl
  i51 := by kernel_rfl
  i53 := by kernel_rfl
  i171 := by kernel_rfl
  i173 := by kernel_rfl
  i212 := by kernel_rfl
  i232 := by kernel_rfl
  i233 := by kernel_rfl
  m17 := by kernel_rfl
  m18 := by kernel_rfl
  m19 := by kernel_rfl }
def Tryz.lays190_ren : Go.Shelf.Ren := ⟨fun | 190 => 28 | 125 => 55 | 258 => 54 | 128 => 94 | 129 => 95 | 302 => 85 | 303 => 86 | 304 => 87 | 305 => 88 | 306 => 89 | 307 => 90 | 308 => 91 | 309 => 92 | 310 => 93 | 333 => 118 | 329 => 119 | 330 => 120 | 334 => 121 | 335 => 122 | 336 => 123 | 344 => 135 | n => n, fun | 31 => 28 | 9 => 9 | 3 => 3 | 46 => 81 | 0 => 0 | 51 => 124 | 53 => 126 | 4 => 4 | 183 => 116 | 182 => 115 | 131 => 121 | 5 => 5 | 218 => 153 | 222 => 157 | 228 => 169 | 229 => 170 | n => n, fun | n => n⟩
theorem Tryz.lays190 : Go.Proofs.Lays.n190 Tryz.prog Tryz.lays190_ren := {
  mixed := by kernel_rfl
  f125 := Tryz.func55.trans (congrArg some (by kernel_rfl))
  f128 := Tryz.func94.trans (congrArg some (by kernel_rfl))
  f129 := Tryz.func95.trans (congrArg some (by kernel_rfl))
  f190 := Tryz.func28.trans (congrArg some (by kernel_rfl))
  f258 := Tryz.func54.trans (congrArg some (by kernel_rfl))
  f302 := Tryz.func85.trans (congrArg some (by kernel_rfl))
  f303 := Tryz.func86.trans (congrArg some (by kernel_rfl))
  f304 := Tryz.func87.trans (congrArg some (by kernel_rfl))
  f305 := Tryz.func88.trans (congrArg some (by kernel_rfl))
  f306 := Tryz.func89.trans (congrArg some (by kernel_rfl))
  f307 := Tryz.func90.trans (congrArg some (by kernel_rfl))
  f308 := Tryz.func91.trans (congrArg some (by kernel_rfl))
  f309 := Tryz.func92.trans (congrArg some (by kernel_rfl))
  f310 := Tryz.func93.trans (congrArg some (by kernel_rfl))
  f329 := Tryz.func119.trans (congrArg some (by kernel_rfl))
  f330 := Tryz.func120.trans (congrArg some (by kernel_rfl))
  f333 := Tryz.func118.trans (congrArg some (by kernel_rfl))
  f334 := Tryz.func121.trans (congrArg some (by kernel_rfl))
  f335 := Tryz.func122.trans (congrArg some (by kernel_rfl))
  f336 := Tryz.func123.trans (congrArg some (by kernel_rfl))
  f344 := Tryz.func135.trans (congrArg some (by kernel_rfl))
  t0 := Tryz.underlying0
  a0 := Tryz.isAgg0
  z0 := Tryz.sizeOf0
  v0 := Tryz.zeroValue0
  t3 := Tryz.underlying3
  a3 := Tryz.isAgg3
  z3 := Tryz.sizeOf3
  v3 := Tryz.zeroValue3
  t4 := Tryz.underlying4
  a4 := Tryz.isAgg4
  z4 := Tryz.sizeOf4
  v4 := Tryz.zeroValue4
  t5 := Tryz.underlying5
  a5 := Tryz.isAgg5
  z5 := Tryz.sizeOf5
  v5 := Tryz.zeroValue5
  t9 := Tryz.underlying9
  a9 := Tryz.isAgg9
  z9 := Tryz.sizeOf9
  v9 := Tryz.zeroValue9
  t31 := Tryz.underlying28
  a31 := Tryz.isAgg28
  z31 := Tryz.sizeOf28
  v31 := Tryz.zeroValue28
  t46 := Tryz.underlying81
  a46 := Tryz.isAgg81
  z46 := Tryz.sizeOf81
  v46 := Tryz.zeroValue81
  t51 := Tryz.underlying124
  a51 := Tryz.isAgg124
  z51 := Tryz.sizeOf124
  v51 := Tryz.zeroValue124
  t53 := Tryz.underlying126
  a53 := Tryz.isAgg126
  z53 := Tryz.sizeOf126
  v53 := Tryz.zeroValue126
  t131 := Tryz.underlying121
  a131 := Tryz.isAgg121
  z131 := Tryz.sizeOf121
  v131 := Tryz.zeroValue121
  t182 := Tryz.underlying115
  a182 := Tryz.isAgg115
  z182 := Tryz.sizeOf115
  v182 := Tryz.zeroValue115
  t183 := Tryz.underlying116
  a183 := Tryz.isAgg116
  z183 := Tryz.sizeOf116
  v183 := Tryz.zeroValue116
  t218 := Tryz.underlying153
  a218 := Tryz.isAgg153
  z218 := Tryz.sizeOf153
  v218 := Tryz.zeroValue153
  t222 := Tryz.underlying157
  a222 := Tryz.isAgg157
  z222 := Tryz.sizeOf157
  v222 := Tryz.zeroValue157
  t228 := Tryz.underlying169
  a228 := Tryz.isAgg169
  z228 := Tryz.sizeOf169
  v228 := Tryz.zeroValue169
  t229 := Tryz.underlying170
  a229 := Tryz.isAgg170
  z229 := Tryz.sizeOf170
  v229 := Tryz.zeroValue170 }
def Tryz.lays194_ren : Go.Shelf.Ren := ⟨fun | 194 => 29 | n => n, fun | 31 => 28 | 9 => 9 | 3 => 3 | 4 => 4 | 0 => 0 | n => n, fun | n => n⟩
theorem Tryz.lays194 : Go.Proofs.Lays.n194 Tryz.prog Tryz.lays194_ren := {
  mixed := by kernel_rfl
  f194 := Tryz.func29.trans (congrArg some (by kernel_rfl))
  t0 := Tryz.underlying0
  a0 := Tryz.isAgg0
  z0 := Tryz.sizeOf0
  v0 := Tryz.zeroValue0
  t3 := Tryz.underlying3
  a3 := Tryz.isAgg3
  z3 := Tryz.sizeOf3
  v3 := Tryz.zeroValue3
  t4 := Tryz.underlying4
  a4 := Tryz.isAgg4
  z4 := Tryz.sizeOf4
  v4 := Tryz.zeroValue4
  t9 := Tryz.underlying9
  a9 := Tryz.isAgg9
  z9 := Tryz.sizeOf9
  v9 := Tryz.zeroValue9
  t31 := Tryz.underlying28
  a31 := Tryz.isAgg28
  z31 := Tryz.sizeOf28
  v31 := Tryz.zeroValue28 }
end Go.Proofs

/-
  Package expr: Parse.
-/
namespace Go.Proofs.YtfpjepeikjfkpaaGreatDoor
open Go.RowKit

theorem dItoa_any (n : Int) (h0 : -9223372036854775808 ≤ n) (h1 : n ≤ 9223372036854775807) (w : World) (hG : TabW w) :
    Calls Tryz.prog 37 #[.int .i64 n] w fun e w' => e = .returned (.string ⟨(intL n).toArray⟩) ∧ Below w.heap.size w w' := by
  obtain ⟨t, fz, ht⟩ := hG
  refine (Any.strconv_Itoa Tryz.laysM171 n h0 h1 w (tab_of' (by kernel_rfl) ht)).mono ?_
  rintro e w' ⟨he, k, os, rfl⟩
  rw [intL_itoa] at he
  exact ⟨he, rfl, rfl, rfl, by simp, fun j hj => Sort.heap_grow_old _ _ hj⟩

/-! ### what holds of a reader -/
def totS (s : ST) : Nat := s.st.length + s.out.length
theorem totals_popOnes : ∀ (S o : List TM), (popOnes S o).1.length + (popOnes S o).2.length = S.length + o.length
  | [], o => rfl
  | t :: S, o => by
    rw [popOnes]
    split
    · rw [totals_popOnes S (o ++ [t])]; simp; omega
    · rfl
theorem totals_popSign (k : Int) : ∀ (S o S2 o2 : List TM), popSign k S o = some (S2, o2) → S2.length + o2.length = S.length + o.length
  | [], o, S2, o2, h => by
    rw [popSign] at h
    injection h with h
    simp only [Prod.mk.injEq] at h
    rw [← h.1, ← h.2]
  | t :: S, o, S2, o2, h => by
    rw [popSign] at h
    split at h
    · split at h
      · cases h
      · rw [totals_popSign k S (o ++ [t]) S2 o2 h]; simp; omega
    · injection h with h
      simp only [Prod.mk.injEq] at h
      rw [← h.1, ← h.2]
theorem whole_ok (c : Int) (S o : List TM) : OkS (wholeM c S o) ∧ totS (wholeM c S o) = S.length + o.length :=
  ⟨⟨⟨by show (0 : Int) ≤ 1; decide, by show (1 : Int) ≤ 4; decide⟩, fun h => absurd h (by show ¬ (1 : Int) = 2; decide), fun h => absurd h (by show ¬ (1 : Int) = 3; decide)⟩, totals_popOnes S o⟩
theorem begin_ok {s s' : ST} {op w : Int} (h : beginM s op w = .inl s') (hw : w = 0 ∨ w = 3) : OkS s' ∧ totS s' ≤ totS s + 1 := by
  unfold beginM at h
  split at h
  · cases h
  · injection h with h
    subst h
    refine ⟨⟨⟨by show 0 ≤ w; omega, by show w ≤ 4; omega⟩, fun h => ?_, fun _ => by simp⟩, by unfold totS; simp; omega⟩
    have : w = 2 := h
    omega
theorem close_ok' {s s' : ST} (h : closeM s = .inl s') : OkS s' ∧ totS s' ≤ totS s + 1 := by
  have ht := totals_popTwo s.st s.out
  unfold closeM at h
  split at h
  · cases h
  · next x S o heq =>
    injection h with h
    subst h
    rw [heq] at ht
    simp only [List.length_cons] at ht
    obtain ⟨h1, h2⟩ := whole_ok s.call S (putM x o)
    have := putM_len x o
    exact ⟨h1, by rw [h2]; unfold totS; omega⟩
theorem add_ok {s s' : ST} {t : Tok} (h : addM s t = .inl s') (hok : OkS s) : OkS s' ∧ totS s' ≤ totS s + 1 := by
  unfold addM at h
  split at h
  · unfold valueM at h
    split at h
    · injection h with h; subst h
      obtain ⟨h1, h2⟩ := whole_ok s.call s.st (s.out ++ [⟨0, _, mtS⟩])
      exact ⟨h1, by rw [h2]; unfold totS; simp; omega⟩
    · split at h
      · injection h with h; subst h
        exact ⟨⟨⟨by show (0 : Int) ≤ 2; decide, by show (2 : Int) ≤ 4; decide⟩, fun _ => .inl rfl, fun h => absurd h (by show ¬ (2 : Int) = 3; decide)⟩, Nat.le_succ _⟩
      · split at h
        · injection h with h; subst h
          exact ⟨⟨⟨by show (0 : Int) ≤ 2; decide, by show (2 : Int) ≤ 4; decide⟩, fun _ => .inr rfl, fun h => absurd h (by show ¬ (2 : Int) = 3; decide)⟩, Nat.le_succ _⟩
        · split at h
          · cases h
          · injection h with h; subst h
            obtain ⟨h1, h2⟩ := whole_ok s.call s.st (s.out ++ [⟨1, V0, _⟩])
            exact ⟨h1, by rw [h2]; unfold totS; simp; omega⟩
    · split at h
      · exact begin_ok h (.inl rfl)
      · split at h
        · exact begin_ok h (.inl rfl)
        · split at h
          · exact begin_ok h (.inl rfl)
          · cases h
  · split at h
    · unfold signM at h
      split at h
      · split at h
        · exact close_ok' h
        · split at h
          · split at h
            · cases h
            · next S o heq =>
              injection h with h; subst h
              have := totals_popSign _ _ _ _ _ heq
              exact ⟨⟨⟨by show (0 : Int) ≤ 0; decide, by show (0 : Int) ≤ 4; decide⟩, fun h => absurd h (by show ¬ (0 : Int) = 2; decide), fun h => absurd h (by show ¬ (0 : Int) = 3; decide)⟩, by unfold totS; simp; omega⟩
          · cases h
      · cases h
    · split at h
      · unfold callM at h
        split at h
        · split at h
          · split at h
            · exact begin_ok h (.inr rfl)
            · exact begin_ok h (.inl rfl)
          · cases h
        · cases h
      · split at h
        · unfold nameM at h
          split at h
          · split at h
            · cases h
            · split at h
              · cases h
              · next x S heq =>
                injection h with h; subst h
                refine ⟨⟨⟨by show (0 : Int) ≤ 4; decide, by show (4 : Int) ≤ 4; decide⟩, fun h => absurd h (by show ¬ (4 : Int) = 2; decide), fun h => absurd h (by show ¬ (4 : Int) = 3; decide)⟩, ?_⟩
                unfold totS
                rw [heq]
                simp
          · cases h
        · unfold shutM at h
          split at h
          · split at h
            · exact close_ok' h
            · cases h
          · cases h
end Go.Proofs.YtfpjepeikjfkpaaGreatDoor
