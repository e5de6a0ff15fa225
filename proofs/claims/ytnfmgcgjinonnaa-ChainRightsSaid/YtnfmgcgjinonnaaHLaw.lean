/-
  Chains: the contracts in any world behind a first one, for the walks of the statements.
-/
import Derived.Test.YtnfmgcgjinonnaaHCon
namespace Go.Proofs.Ytnfmgcgjinonnaa
open Go.RowKit

theorem fewH_len {l : List Ver} (h : fewH l = true) : okLen l := by
  obtain ⟨h1, h2⟩ := fewH_yes h
  refine ⟨by omega, ?_⟩
  have : ∀ m : List Ver, (∀ x ∈ m, x.dat.length ≤ 1000) → sizeH m ≤ m.length * 1000 := by
    intro m
    induction m with
    | nil => intro _; simp [sizeH]
    | cons x m ih =>
      intro h
      have e : sizeH (x :: m) = x.dat.length + sizeH m := by simp [sizeH]
      have h3 := ih (fun y hy => h y (List.mem_cons_of_mem _ hy))
      have h4 := h x (List.mem_cons_self ..)
      rw [e, List.length_cons]
      omega
  have := this l h1
  omega
/-- What every walk of these statements starts from: W is the world in which the statement's arguments lie. -/
structure FromH (K : ChainC) (W : World) : Prop where
  live : ∀ wx, Below W.heap.size W wx → Calls Try.prog 10 #[] wx fun r w' => r = .returned (.bool true) ∧ Below W.heap.size W w'
  few : ∀ (l : List Ver) (A : Option Addr) (c : Nat), ChH W W.heap.size A c l → ∀ wx, Below W.heap.size W wx → Calls Try.prog 11 #[.slice A l.length c] wx fun r w' => r = .returned (.bool (fewH l)) ∧ Below W.heap.size W w'
  right : ∀ (l : List Ver) (A : Option Addr) (c : Nat), okLen l → ChH W W.heap.size A c l → ∀ wx, Below W.heap.size W wx → Calls Try.prog 12 #[.slice A l.length c] wx fun r w' => r = .returned (.bool (rightC l)) ∧ Below W.heap.size W w'
  right2 : ∀ (l : List Ver) (A : Option Addr) (c : Nat), okLen l → ChH W W.heap.size A c l → ∀ wx, Below W.heap.size W wx → Calls Try.prog 13 #[.slice A l.length c] wx fun r w' => r = .returned (.bool (rightC l)) ∧ Below W.heap.size W w'
  size : ∀ (l : List Ver) (A : Option Addr) (c : Nat), okLen l → ChH W W.heap.size A c l → ∀ wx, Below W.heap.size W wx → Calls Try.prog 14 #[.slice A l.length c] wx fun r w' => r = .returned (.int .i64 (sizeH l : Nat)) ∧ Below W.heap.size W w'
  size2 : ∀ (l : List Ver) (A : Option Addr) (c : Nat), okLen l → ChH W W.heap.size A c l → ∀ wx, Below W.heap.size W wx → Calls Try.prog 15 #[.slice A l.length c] wx fun r w' => r = .returned (.int .i64 (sizeH l : Nat)) ∧ Below W.heap.size W w'
  same : ∀ (l m : List Ver) (A B : Option Addr) (c d : Nat), okLen l → okLen m → ChH W W.heap.size A c l → ChH W W.heap.size B d m → ∀ wx, Below W.heap.size W wx → Calls Try.prog 16 #[.slice A l.length c, .slice B m.length d] wx fun r w' => r = .returned (.bool (sameH l m)) ∧ Below W.heap.size W w'
  same2 : ∀ (l m : List Ver) (A B : Option Addr) (c d : Nat), okLen l → okLen m → ChH W W.heap.size A c l → ChH W W.heap.size B d m → ∀ wx, Below W.heap.size W wx → Calls Try.prog 17 #[.slice A l.length c, .slice B m.length d] wx fun r w' => r = .returned (.bool (sameH l m)) ∧ Below W.heap.size W w'
  last : ∀ (l : List Ver) (A : Option Addr) (c : Nat), okLen l → ChH W W.heap.size A c l → rightC l = true → ∀ wx, Below W.heap.size W wx → Calls Try.prog 24 #[.slice A l.length c] wx fun r w' => r = .returned (.int .u64 (lastH l : Nat)) ∧ Below W.heap.size W w'
  last2 : ∀ (l : List Ver) (A : Option Addr) (c : Nat), okLen l → ChH W W.heap.size A c l → ∀ wx, Below W.heap.size W wx → Calls Try.prog 25 #[.slice A l.length c] wx fun r w' => r = .returned (.int .u64 (lastH l : Nat)) ∧ Below W.heap.size W w'
  find : ∀ (l : List Ver) (A : Option Addr) (c t : Nat), okLen l → ChH W W.heap.size A c l → rightC l = true → t < 18446744073709551616 → ∀ wx, Below W.heap.size W wx → Calls Try.prog 18 #[.slice A l.length c, .int .u64 t] wx fun r w' => ∃ B d, r = .returned (.tuple #[verVal (optH (findH l t)) B d, .bool (findH l t).isSome]) ∧ Sl w' w'.heap.size B d (optH (findH l t)).dat ∧ Below W.heap.size W w' ∧ Below wx.heap.size wx w'
  find2 : ∀ (l : List Ver) (A : Option Addr) (c t : Nat), okLen l → ChH W W.heap.size A c l → ∀ wx, Below W.heap.size W wx → Calls Try.prog 19 #[.slice A l.length c, .int .u64 t] wx fun r w' => ∃ B d, r = .returned (.tuple #[verVal (optH (findH l t)) B d, .bool (findH l t).isSome]) ∧ Sl w' w'.heap.size B d (optH (findH l t)).dat ∧ Below W.heap.size W w' ∧ Below wx.heap.size wx w'
  get : ∀ (l : List Ver) (A : Option Addr) (c t : Nat), okLen l → rightC l = true → t < 18446744073709551616 → ∀ wx, ChH wx wx.heap.size A c l → Below W.heap.size W wx → Calls Try.prog 20 #[.slice A l.length c, .int .u64 t] wx fun r w' => ∃ B d, r = .returned (.tuple #[.slice B ((getH l t).getD []).length d, .bool (getH l t).isSome]) ∧ Sl w' w'.heap.size B d ((getH l t).getD []) ∧ Below W.heap.size W w' ∧ Below wx.heap.size wx w'
  get2 : ∀ (l : List Ver) (A : Option Addr) (c t : Nat), okLen l → ChH W W.heap.size A c l → ∀ wx, Below W.heap.size W wx → Calls Try.prog 21 #[.slice A l.length c, .int .u64 t] wx fun r w' => ∃ B d, r = .returned (.tuple #[.slice B ((getH l t).getD []).length d, .bool (getH l t).isSome]) ∧ Sl w' w'.heap.size B d ((getH l t).getD []) ∧ Below W.heap.size W w' ∧ Below wx.heap.size wx w'
  put : ∀ (l : List Ver) (A : Option Addr) (c : Nat) (v : Ver) (B : Option Addr) (d : Nat), okLen l → ChH W W.heap.size A c l → v.tm < 18446744073709551616 → v.dat.length ≤ 4294967296 → Sl W W.heap.size B d v.dat → ∀ wx, Below W.heap.size W wx → Calls Try.prog 26 #[.slice A l.length c, verVal v B d] wx fun r w' => ∃ C e, r = .returned (.tuple #[.slice C (putH l v).1.length e, .int .i64 (putH l v).2]) ∧ ChH w' w'.heap.size C e (putH l v).1 ∧ Below W.heap.size W w' ∧ Below wx.heap.size wx w'
  put2 : ∀ (l : List Ver) (A : Option Addr) (c : Nat) (v : Ver) (B : Option Addr) (d : Nat), okLen l → ChH W W.heap.size A c l → v.tm < 18446744073709551616 → Sl W W.heap.size B d v.dat → ∀ wx, Below W.heap.size W wx → Calls Try.prog 27 #[.slice A l.length c, verVal v B d] wx fun r w' => ∃ C e, r = .returned (.tuple #[.slice C (putH l v).1.length e, .int .i64 (putH l v).2]) ∧ ChH w' w'.heap.size C e (putH l v).1 ∧ Below W.heap.size W w' ∧ Below wx.heap.size wx w'
  trim : ∀ (l : List Ver) (A : Option Addr) (c low : Nat), okLen l → rightC l = true → low < 18446744073709551616 → ∀ wx, ChH wx wx.heap.size A c l → Below W.heap.size W wx → Calls Try.prog 28 #[.slice A l.length c, .int .u64 low] wx fun r w' => ∃ B d, r = .returned (.slice B (trimH l low).length d) ∧ ChH w' w'.heap.size B d (trimH l low) ∧ Below W.heap.size W w' ∧ Below wx.heap.size wx w'
  trim2 : ∀ (l : List Ver) (A : Option Addr) (c low : Nat), okLen l → ChH W W.heap.size A c l → ∀ wx, Below W.heap.size W wx → Calls Try.prog 29 #[.slice A l.length c, .int .u64 low] wx fun r w' => ∃ B d, r = .returned (.slice B (trimH l low).length d) ∧ ChH w' w'.heap.size B d (trimH l low) ∧ Below W.heap.size W w' ∧ Below wx.heap.size wx w'

theorem fromH (K : ChainC) (W : World) : FromH K W where
  live := fun wx hb => (liveH_any K wx).mono fun _ _ q => ⟨q.1, hb.trans (q.2.mono hb.size)⟩
  few := fun l A c h wx hb => (fewH_any l A c W.heap.size wx (by have := h.1; have := h.2.1; unfold maxLen at this; omega) (h.2.2.2.below hb (Nat.le_refl _) (Nat.le_refl _)) hb.size).mono fun _ _ q => ⟨q.1, hb.trans (q.2.mono hb.size)⟩
  right := fun l A c hl h wx hb => (K.right l A c wx hl (h.below hb (Nat.le_refl _) hb.size)).mono fun _ _ q => ⟨q.1, hb.trans (q.2.mono hb.size)⟩
  right2 := fun l A c hl h wx hb => (refRight_any l A c W.heap.size wx (by have := hl.1; omega) (h.2.2.2.below hb (Nat.le_refl _) (Nat.le_refl _)) hb.size).mono fun _ _ q => ⟨q.1, hb.trans (q.2.mono hb.size)⟩
  size := fun l A c hl h wx hb => (K.size l A c wx hl (h.below hb (Nat.le_refl _) hb.size)).mono fun _ _ q => ⟨q.1, hb.trans (q.2.mono hb.size)⟩
  size2 := fun l A c hl h wx hb => (refSize_any l A c W.heap.size wx (by have := hl.1; omega) (by have := hl.2; omega) (h.2.2.2.below hb (Nat.le_refl _) (Nat.le_refl _)) hb.size).mono fun _ _ q => ⟨q.1, hb.trans (q.2.mono hb.size)⟩
  same := fun l m A B c d hl hm h k wx hb => (K.same l m A B c d wx hl hm (h.below hb (Nat.le_refl _) hb.size) (k.below hb (Nat.le_refl _) hb.size)).mono fun _ _ q => ⟨q.1, hb.trans (q.2.mono hb.size)⟩
  same2 := fun l m A B c d hl hm h k wx hb => (refSameH_any l m A B c d wx (by have := hl.1; omega) (by have := hm.1; omega) (h.2.2.2.below hb (Nat.le_refl _) hb.size) (k.2.2.2.below hb (Nat.le_refl _) hb.size)).mono fun _ _ q => ⟨q.1, hb.trans (q.2.mono hb.size)⟩
  last := fun l A c hl h hr wx hb => (K.last l A c wx hl (h.below hb (Nat.le_refl _) hb.size) hr).mono fun _ _ q => ⟨q.1, hb.trans (q.2.mono hb.size)⟩
  last2 := fun l A c hl h wx hb => (refLast_any l A c wx (by have := hl.1; omega) (h.2.2.2.below hb (Nat.le_refl _) hb.size)).mono fun _ _ q => ⟨q.1, hb.trans (q.2.mono hb.size)⟩
  find := fun l A c t hl h hr ht wx hb => (K.find l A c t wx hl (h.below hb (Nat.le_refl _) hb.size) hr ht).mono fun _ _ ⟨B, d, e, q, k⟩ => ⟨B, d, e, q, hb.trans (k.mono hb.size), k⟩
  find2 := fun l A c t hl h wx hb => (refFind_any l A c t wx (by have := hl.1; omega) (h.2.2.2.below hb (Nat.le_refl _) hb.size)).mono fun _ _ ⟨B, d, e, q, k⟩ => ⟨B, d, e, q, hb.trans (k.mono hb.size), k⟩
  get := fun l A c t hl hr ht wx h hb => (K.get l A c t wx hl h hr ht).mono fun _ _ ⟨B, d, e, q, k⟩ => ⟨B, d, e, q, hb.trans (k.mono hb.size), k⟩
  get2 := fun l A c t hl h wx hb => (refGetH_any l A c t wx (by have := hl.1; omega) (h.2.2.2.below hb (Nat.le_refl _) hb.size)).mono fun _ _ ⟨B, d, e, q, k⟩ => ⟨B, d, e, q, hb.trans (k.mono hb.size), k⟩
  put := fun l A c v B d hl h hv hd hs wx hb => (K.put l A c v B d wx hl (h.below hb (Nat.le_refl _) hb.size) hv hd (hs.below hb (Nat.le_refl _) hb.size)).mono fun _ _ ⟨C, e, q, k1, k2⟩ => ⟨C, e, q, k1, hb.trans (k2.mono hb.size), k2⟩
  put2 := fun l A c v B d hl h hv hs wx hb => (refPut_any l A c v B d wx hl.1 (h.below hb (Nat.le_refl _) hb.size) hv (hs.below hb (Nat.le_refl _) hb.size)).mono fun _ _ ⟨C, e, q, k1, k2⟩ => ⟨C, e, q, k1, hb.trans (k2.mono hb.size), k2⟩
  trim := fun l A c low hl hr ht wx h hb => (K.trim l A c low wx hl h hr ht).mono fun _ _ ⟨B, d, e, q, k⟩ => ⟨B, d, e, q, hb.trans (k.mono hb.size), k⟩
  trim2 := fun l A c low hl h wx hb => (refTrim_any l A c low wx hl.1 (h.2.2.2.below hb (Nat.le_refl _) hb.size)).mono fun _ _ ⟨B, d, e, q, k⟩ => ⟨B, d, e, q, hb.trans (k.mono hb.size), k⟩

/-- A row of the call's own, as a chain. -/
theorem own_ch {w : World} {lo hi : Nat} {v : Value} {ms : List MV} {l : List Ver} (h : OwnG 30 3 mvCells w lo v ms) (hok : ∀ x ∈ ms, OkMV w hi x) (hhi : hi ≤ w.heap.size) (hl : ms.map MV.v = l) : ∃ A c, v = .slice A l.length c ∧ ChH w w.heap.size A c l := by
  subst hl
  obtain ⟨A, c, rfl, k1, k2, k3, k4⟩ := h.form
  refine ⟨A, c, by rw [List.length_map], by rw [List.length_map]; exact k1, k2, k3, ms, rfl, k4.wide (Nat.zero_le _) (Nat.le_refl _), fun x hx => (hok x hx).below (Below.refl _ _) (Nat.le_refl _) hhi⟩
/-- Same of two chains that read alike. -/
theorem same_both {W wx : World} {l : List Ver} {A B : Option Addr} {c d : Nat} (hl : okLen l) (h1 : ChH wx wx.heap.size A c l) (h2 : ChH wx wx.heap.size B d l) (hb : Below W.heap.size W wx) :
    Calls Try.prog 17 #[.slice A l.length c, .slice B l.length d] wx fun r w' => r = .returned (.bool true) ∧ Below W.heap.size W w' ∧ Below wx.heap.size wx w' :=
  (refSameH_any l l A B c d wx (by have := hl.1; omega) (by have := hl.1; omega) h1.2.2.2 h2.2.2.2).mono fun _ _ q => ⟨by rw [q.1]; unfold sameH; rw [decide_eq_true rfl], hb.trans (q.2.mono hb.size), q.2⟩

/-- The values of a version that came in. -/
def VerIn (v : Ver) (A : Option Addr) (c : Nat) (W : World) : Prop := v.tm < 18446744073709551616 ∧ Sl W W.heap.size A c v.dat
end Go.Proofs.Ytnfmgcgjinonnaa
