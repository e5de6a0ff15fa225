import Derived.Test.YtidomoibhjgkjaaGreatDoorZC30
/-
  Expressions, the document's own answers: the text of a tree's terms, and how many are open in it.
-/
namespace Go.Proofs.YtidomoibhjgkjaaGreatDoor
open Go.RowKit

theorem ba_catT (a b : List UInt8) : (⟨a.toArray⟩ : ByteArray) ++ ⟨b.toArray⟩ = ⟨(a ++ b).toArray⟩ := by
  apply ByteArray.ext
  simp
def retText (l : List UInt8) (n : Nat) : Ending := .returned (.tuple #[.string ⟨l.toArray⟩, .int .i64 (n : Int)])
/-- The text of what ends with a term is a tree's. -/
def TextAt (l : List TM) (A : Option Addr) (c : Nat) (x : Int) (t : Ex) : Prop := ∀ w : World, RowT w 0 w.heap.size A l → Calls Tryz.prog 49 #[.slice A l.length c, .int .i64 x] w fun r w' => r = retText (txtE t) (deepE t) ∧ Below w.heap.size w w'
set_option maxRecDepth 100000 in
set_option maxHeartbeats 2000000 in
theorem held_any (l : List TM) (A : Option Addr) (c : Nat) (K : Nat) (x : TM) (right : Bool) (t : Ex) (hK : K < l.length) (ht : (l[K]'hK).op = topE t) (hT : TextAt l A c (K : Int) t) (hd : deepE t ≤ 1000000) (hlen : (txtE t).length ≤ 1000000) (w : World) (hr : RowT w 0 w.heap.size A l) :
    Calls Tryz.prog 80 #[.slice A l.length c, termVal x, .int .i64 (K : Int), .bool right] w fun r w' => r = retText (wrapL (inB x.op (topE t) right) (txtE t)) (wrapN (inB x.op (topE t) right) (deepE t)) ∧ Below w.heap.size w w' := by
  have HR := Lib.hid hr
  obtain ⟨b, o, rfl, _⟩ := hr.at_ hK
  have hlt : decide (K < l.length) = true := by simpa using hK
  have hKI : (K : Int) < (l.length : Int) := by omega
  have HT := Lib.hid (fun (wx : World) (hb : Below w.heap.size w wx) => hT wx ((hr.below hb (Nat.le_refl _)).wide (Nat.le_refl _) hb.size))
  have HB := Lib.hid (fun (y : TM) (wx : World) => brackets_any x y right wx)
  have hin : inB x.op (l[K]'hK).op right = inB x.op (topE t) right := by rw [ht]
  have HCells := Lib.hid (fun (wx : World) (hb : Below w.heap.size w wx) => (show TermAt wx b (o + K * 5) (l[K]'hK) from by
    obtain ⟨b', o', e, h⟩ := (HR.out.below hb (Nat.le_refl _)).at_ hK
    injection e with e
    injection e with e1 e2
    subst e1 e2
    exact h))
  clear ht hr hT
  generalize l[K]'hK = y at *
  obtain ⟨op, ⟨k, n, s⟩, nm⟩ := x
  obtain ⟨op', ⟨k', n', s'⟩, nm'⟩ := y
  simp only [termVal] at HB hin ⊢
  rw [← hin]
  clear hin
  generalize hTL : txtE t = tl at *
  generalize deepE t = dp at *
  simp only [retText] at HT
  have HKeep := Lib.hid (fun (w1 w' : World) (hb1 : Below (w.heap.size + 1) (w.alloc (.cells #[.int .i64 op, .int .i64 k, .int .i64 n, .string s, .string nm] 47)) w1) (hb : Below w1.heap.size w1 w') =>
    (show (w'.cell? ⟨w.heap.size, 0, none⟩ = some (.int .i64 op) ∧ w'.cell? ⟨w.heap.size, 1, none⟩ = some (.int .i64 k) ∧ w'.cell? ⟨w.heap.size, 2, none⟩ = some (.int .i64 n) ∧ w'.cell? ⟨w.heap.size, 3, none⟩ = some (.string s) ∧ w'.cell? ⟨w.heap.size, 4, none⟩ = some (.string nm)) ∧ TermAt w' b (o + K * 5) ⟨op', ⟨k', n', s'⟩, nm'⟩ from by
      have hall := hb1.trans (hb.mono (Nat.le_trans (by simp) hb1.size))
      have g : ∀ i v, (w.alloc (.cells #[.int .i64 op, .int .i64 k, .int .i64 n, .string s, .string nm] 47)).cell? ⟨w.heap.size, i, none⟩ = some v → w'.cell? ⟨w.heap.size, i, none⟩ = some v := fun i v h => (hall.cell (p := ⟨w.heap.size, i, none⟩) (Nat.lt_succ_self _)).trans h
      refine ⟨⟨g 0 _ (by simp [go_sem]), g 1 _ (by simp [go_sem]), g 2 _ (by simp [go_sem]), g 3 _ (by simp [go_sem]), g 4 _ (by simp [go_sem])⟩, ?_⟩
      exact HCells.out _ ((box_below w _ _).trans (hall.mono (Nat.le_succ _)))))
  have hbr := fun (w1 wx : World) (hb : Below w1.heap.size w1 wx) => (HB.out ⟨op', ⟨k', n', s'⟩, nm'⟩ wx).mono fun _ _ h => And.intro h.1 (hb.trans (h.2.mono hb.size))
  simp only at hbr
  clear HB
  generalize inB op op' right = v at *
  have HBr := Lib.hid hbr
  clear hbr
  cases v
  all_goals
    go_enter Tryz.func80, Tryz.ntmps80
    go_wp2_with fail
    refine (HT.out _ (box_below w _ _)).mono ?_
    rintro r w1 ⟨rfl, hb1⟩
    have hb2 := (box_below w _ _).trans (hb1.mono (by simp))
    have HB1 := Lib.hid hb2
    have hb1' : Below (w.heap.size + 1) (w.alloc (.cells #[.int .i64 op, .int .i64 k, .int .i64 n, .string s, .string nm] 47)) w1 := by simpa using hb1
    have HK1 := Lib.hid (fun w' hb => HKeep.out w1 w' hb1' hb)
    clear hb1 hb2 hb1'
    go_wp2_with fail
    refine region_class (C := fun w' => Below w1.heap.size w1 w') (by kernel_rfl) (by kernel_rfl) (Below.refl _ _).drew ?_
    repeat (quiet_step (first
      | (intro hw; with_reducible exact HBr.out w1 _ hw)
      | (intro _; with_reducible rfl)
      | (intro hw; obtain ⟨⟨c0, c1, c2, c3, c4⟩, e0, e1, e2, e3, e4⟩ := HK1.out _ hw; go_simp; with_reducible exact ⟨rfl, rfl⟩) | (intro hw; obtain ⟨⟨c0, c1, c2, c3, c4⟩, e0, e1, e2, e3, e4⟩ := HK1.out _ hw; go_simp; with_reducible rfl) | (intro _; exact rfl)))
    refine wpQuiet_nil ?_
    intro w8 hb8
    have HB8 := Lib.hid (HB1.out.trans (hb8.mono HB1.out.size))
    clear hb8
    go_wp2_with fail
    first
      | exact bodyPost_ret (v := .tuple #[.string ⟨tl.toArray⟩, .int .i64 (dp : Int)]) (by simp [results, Tryz.results80, go_sem]) rfl ⟨rfl, HB8.out⟩
      | (refine bodyPost_ret (v := .tuple #[.string (⟨#[40]⟩ ++ ⟨tl.toArray⟩ ++ ⟨#[41]⟩), .int .i64 ((dp : Int) + 1)]) (by simp [results, Tryz.results80, go_sem]) rfl ⟨?_, HB8.out⟩
         rw [ba_catT [40] tl, ba_catT _ [41]]
         rfl)
end Go.Proofs.YtidomoibhjgkjaaGreatDoor

/-
  Expressions, the document's own answers: the text of a tree's terms, case by case.
-/
namespace Go.Proofs.YtidomoibhjgkjaaGreatDoor
open Go.RowKit

theorem ba_selfT (p : ByteArray) : (⟨p.data.toList.toArray⟩ : ByteArray) = p := by cases p; simp
def RefPrintC : Prop := ∀ v : V, rightV v = 0 → -9223372036854775808 ≤ v.n ∧ v.n ≤ 9223372036854775807 → ∀ w : World, Calls Tryz.prog 79 #[v.val] w fun r w' => r = .returned (.string ⟨(printV v).toArray⟩) ∧ Below w.heap.size w w'

set_option maxRecDepth 100000 in
set_option maxHeartbeats 2000000 in
theorem part_val (hP : RefPrintC) (l : List TM) (A : Option Addr) (c : Nat) (K : Nat) (v : V) (hK : K < l.length) (ht : l[K]'hK = ⟨0, v, mtS⟩) (hr0 : rightV v = 0) (hb0 : -9223372036854775808 ≤ v.n ∧ v.n ≤ 9223372036854775807) : TextAt l A c (K : Int) (.val v) := by
  intro w hr
  obtain ⟨b, o, rfl, c0, c1, c2, c3, c4⟩ := hr.at_ hK
  have hlt : decide (K < l.length) = true := by simpa using hK
  have hKI : (K : Int) < (l.length : Int) := by omega
  rw [ht] at c0 c1 c2 c3 c4
  have HPr := Lib.hid (hP v hr0 hb0)
  obtain ⟨k, n, s⟩ := v
  simp only [V.val] at c0 c1 c2 c3 c4 HPr
  clear ht hr0 hb0
  show Calls _ _ _ _ fun r w' => r = retText (printV ⟨k, n, s⟩) 0 ∧ Below w.heap.size w w'
  generalize printV ⟨k, n, s⟩ = pl at *
  have hb := box_below w #[.int .i64 0, .int .i64 k, .int .i64 n, .string s, .string mtS] 47
  have HB := Lib.hid hb
  clear hb
  go_enter Tryz.func49, Tryz.ntmps49
  go_wp2_with fail
  refine (HPr.out _).mono ?_
  rintro r w1 ⟨rfl, hb1⟩
  have HB1 := Lib.hid (HB.out.trans (hb1.mono HB.out.size))
  clear hb1
  go_wp2_with fail
  exact bodyPost_ret (v := .tuple #[.string ⟨pl.toArray⟩, .int .i64 0]) (by simp [results, Tryz.results49, go_sem]) rfl ⟨rfl, HB1.out⟩
set_option maxRecDepth 100000 in
set_option maxHeartbeats 2000000 in
theorem part_var (l : List TM) (A : Option Addr) (c : Nat) (K : Nat) (m : ByteArray) (hK : K < l.length) (ht : l[K]'hK = ⟨1, V0, m⟩) : TextAt l A c (K : Int) (.var m) := by
  intro w hr
  obtain ⟨b, o, rfl, c0, c1, c2, c3, c4⟩ := hr.at_ hK
  have hlt : decide (K < l.length) = true := by simpa using hK
  have hKI : (K : Int) < (l.length : Int) := by omega
  rw [ht] at c0 c1 c2 c3 c4
  simp only [V0] at c0 c1 c2 c3 c4
  clear ht
  show Calls _ _ _ _ fun r w' => r = retText m.data.toList 0 ∧ Below w.heap.size w w'
  have hb := box_below w #[.int .i64 1, .int .i64 0, .int .i64 0, .string ⟨#[]⟩, .string m] 47
  have HB := Lib.hid hb
  clear hb
  unfold retText
  rw [ba_selfT]
  go_enter Tryz.func49, Tryz.ntmps49
  go_wp2_with fail
  exact bodyPost_ret (v := .tuple #[.string m, .int .i64 0]) (by simp [results, Tryz.results49, go_sem]) rfl ⟨rfl, HB.out⟩
set_option maxRecDepth 100000 in
set_option maxHeartbeats 2000000 in
theorem part_has (l : List TM) (A : Option Addr) (c : Nat) (K : Nat) (m : ByteArray) (hm : m.size ≤ 1000000) (hK : K < l.length) (ht : l[K]'hK = ⟨2, V0, m⟩) : TextAt l A c (K : Int) (.has m) := by
  intro w hr
  obtain ⟨b, o, rfl, c0, c1, c2, c3, c4⟩ := hr.at_ hK
  have hlt : decide (K < l.length) = true := by simpa using hK
  have hKI : (K : Int) < (l.length : Int) := by omega
  rw [ht] at c0 c1 c2 c3 c4
  simp only [V0] at c0 c1 c2 c3 c4
  clear ht
  show Calls _ _ _ _ fun r w' => r = retText ([104, 97, 115, 40] ++ m.data.toList ++ [41]) 1 ∧ Below w.heap.size w w'
  have hb := box_below w #[.int .i64 2, .int .i64 0, .int .i64 0, .string ⟨#[]⟩, .string m] 47
  have HB := Lib.hid hb
  clear hb
  unfold retText
  rw [← ba_catT, ← ba_catT, ba_selfT]
  go_enter Tryz.func49, Tryz.ntmps49
  go_wp2_with fail
  exact bodyPost_ret (v := .tuple #[.string (⟨#[104, 97, 115, 40]⟩ ++ m ++ ⟨#[41]⟩), .int .i64 1]) (by simp [results, Tryz.results49, go_sem]) rfl ⟨rfl, HB.out⟩
end Go.Proofs.YtidomoibhjgkjaaGreatDoor

/-
  Expressions, the document's own answers: the text of a tree's terms, at operations of one and of two.
-/
namespace Go.Proofs.YtidomoibhjgkjaaGreatDoor
open Go.RowKit

def HeldAt (l : List TM) (A : Option Addr) (c : Nat) (x : TM) (y : Int) (right : Bool) (tl : List UInt8) (dp : Nat) : Prop := ∀ w : World, RowT w 0 w.heap.size A l → Calls Tryz.prog 80 #[.slice A l.length c, termVal x, .int .i64 y, .bool right] w fun r w' => r = retText tl dp ∧ Below w.heap.size w w'
set_option maxRecDepth 100000 in
set_option maxHeartbeats 2000000 in
theorem part_one (l : List TM) (A : Option Addr) (c : Nat) (K : Nat) (op : Int) (tl : List UInt8) (dp : Nat) (hop : op = 3 ∨ op = 4 ∨ op = 5) (hK : K < l.length) (hl : l.length ≤ 1000000) (ht : l[K]'hK = opT op) (htl : tl.length ≤ 1000000) (hdp : dp ≤ 1000000) (hH : HeldAt l A c (opT op) ((K : Int) - 1) true tl dp) (w : World) (hr : RowT w 0 w.heap.size A l) :
    Calls Tryz.prog 49 #[.slice A l.length c, .int .i64 (K : Int)] w fun r w' => r = retText (if op = 5 then [108, 101, 110, 40] ++ tl ++ [41] else signL op ++ tl) (dp + 1) ∧ Below w.heap.size w w' := by
  have hh := fun (wx : World) (hb : Below w.heap.size w wx) => hH wx ((hr.below hb (Nat.le_refl _)).wide (Nat.le_refl _) hb.size)
  obtain ⟨b, o, rfl, c0, c1, c2, c3, c4⟩ := hr.at_ hK
  have hlt : decide (K < l.length) = true := by simpa using hK
  have hKI : (K : Int) < (l.length : Int) := by omega
  rw [ht] at c0 c1 c2 c3 c4
  simp only [opT, V0, termVal, mtS, retText] at c0 c1 c2 c3 c4 hh
  clear ht
  have HH := Lib.hid hh
  clear hh hr hH
  rcases hop with rfl | rfl | rfl
  · have hb := box_below w #[.int .i64 3, .int .i64 0, .int .i64 0, .string ⟨#[]⟩, .string ⟨#[]⟩] 47
    have HB := Lib.hid hb
    have HTk := Lib.hid (fun w => (takes_any 3 w).mono fun _ _ h => And.intro h.1 h.2.symm)
    have hsg := fun w => sign_any 3 w
    rw [show signS 3 = ⟨#[45]⟩ from rfl] at hsg
    have HSg := Lib.hid hsg
    clear hb hsg
    go_enter Tryz.func49, Tryz.ntmps49
    go_wp2_with fail
    refine (HH.out _ HB.out).mono ?_
    rintro r w1 ⟨rfl, hb1⟩
    have c5 := (hb1.cell (p := ⟨w.heap.size, 0, none⟩) (by simp)).trans (show _ = some (Value.int .i64 3) by simp [go_sem])
    have HB1 := Lib.hid (HB.out.trans (hb1.mono HB.out.size))
    clear hb1
    go_wp2_with (first | (go_at_call 48; refine (HTk.out _).mono ?_; rintro r w' ⟨rfl, rfl⟩))
    refine (HSg.out _).mono ?_
    rintro r w2 ⟨rfl, hb2⟩
    have HB2 := Lib.hid (HB1.out.trans (hb2.mono HB1.out.size))
    clear hb2
    go_wp2_with fail
    refine bodyPost_ret (v := .tuple #[.string (⟨#[45]⟩ ++ ⟨tl.toArray⟩), .int .i64 ((dp : Int) + 1)]) (by simp [results, Tryz.results49, go_sem]) rfl ⟨?_, HB2.out⟩
    rw [ba_catT [45] tl]
    rfl
  · have hb := box_below w #[.int .i64 4, .int .i64 0, .int .i64 0, .string ⟨#[]⟩, .string ⟨#[]⟩] 47
    have HB := Lib.hid hb
    have HTk := Lib.hid (fun w => (takes_any 4 w).mono fun _ _ h => And.intro h.1 h.2.symm)
    have hsg := fun w => sign_any 4 w
    rw [show signS 4 = ⟨#[33]⟩ from rfl] at hsg
    have HSg := Lib.hid hsg
    clear hb hsg
    go_enter Tryz.func49, Tryz.ntmps49
    go_wp2_with fail
    refine (HH.out _ HB.out).mono ?_
    rintro r w1 ⟨rfl, hb1⟩
    have c5 := (hb1.cell (p := ⟨w.heap.size, 0, none⟩) (by simp)).trans (show _ = some (Value.int .i64 4) by simp [go_sem])
    have HB1 := Lib.hid (HB.out.trans (hb1.mono HB.out.size))
    clear hb1
    go_wp2_with (first | (go_at_call 48; refine (HTk.out _).mono ?_; rintro r w' ⟨rfl, rfl⟩))
    refine (HSg.out _).mono ?_
    rintro r w2 ⟨rfl, hb2⟩
    have HB2 := Lib.hid (HB1.out.trans (hb2.mono HB1.out.size))
    clear hb2
    go_wp2_with fail
    refine bodyPost_ret (v := .tuple #[.string (⟨#[33]⟩ ++ ⟨tl.toArray⟩), .int .i64 ((dp : Int) + 1)]) (by simp [results, Tryz.results49, go_sem]) rfl ⟨?_, HB2.out⟩
    rw [ba_catT [33] tl]
    rfl
  · have hb := box_below w #[.int .i64 5, .int .i64 0, .int .i64 0, .string ⟨#[]⟩, .string ⟨#[]⟩] 47
    have HB := Lib.hid hb
    clear hb
    go_enter Tryz.func49, Tryz.ntmps49
    go_wp2_with fail
    refine (HH.out _ HB.out).mono ?_
    rintro r w1 ⟨rfl, hb1⟩
    have c5 := (hb1.cell (p := ⟨w.heap.size, 0, none⟩) (by simp)).trans (show _ = some (Value.int .i64 5) by simp [go_sem])
    have HB1 := Lib.hid (HB.out.trans (hb1.mono HB.out.size))
    clear hb1
    go_wp2_with fail
    refine bodyPost_ret (v := .tuple #[.string (⟨#[108, 101, 110, 40]⟩ ++ ⟨tl.toArray⟩ ++ ⟨#[41]⟩), .int .i64 ((dp : Int) + 1)]) (by simp [results, Tryz.results49, go_sem]) rfl ⟨?_, HB1.out⟩
    rw [ba_catT [108, 101, 110, 40] tl, ba_catT _ [41]]
    rfl

theorem signL_two {op : Int} (h : 6 ≤ op ∧ op ≤ 18) : (signL op).length ≤ 2 := by
  have hs : op = 6 ∨ op = 7 ∨ op = 8 ∨ op = 9 ∨ op = 10 ∨ op = 11 ∨ op = 12 ∨ op = 13 ∨ op = 14 ∨ op = 15 ∨ op = 16 ∨ op = 17 ∨ op = 18 := by omega
  rcases hs with rfl | rfl | rfl | rfl | rfl | rfl | rfl | rfl | rfl | rfl | rfl | rfl | rfl <;> decide
set_option maxRecDepth 100000 in
set_option maxHeartbeats 4000000 in
theorem part_two (l : List TM) (A : Option Addr) (c : Nat) (K y : Nat) (op : Int) (sl tl : List UInt8) (da db : Nat) (hop : 6 ≤ op ∧ op ≤ 18) (hK : K < l.length) (hl : l.length ≤ 1000000) (hy : y ≤ 1000000) (ht : l[K]'hK = opT op) (htl : tl.length ≤ 1000000) (hsl : sl.length ≤ 1000000) (_hda : da ≤ 1000000) (_hdb : db ≤ 1000000)
    (hH : HeldAt l A c (opT op) ((K : Int) - 1) true tl db) (hS : Part l A c ((K : Int) - 1) y) (hG : HeldAt l A c (opT op) ((y : Int) - 1) false sl da) (w : World) (hr : RowT w 0 w.heap.size A l) :
    Calls Tryz.prog 49 #[.slice A l.length c, .int .i64 (K : Int)] w fun r w' => r = retText (sl ++ [32] ++ signL op ++ [32] ++ tl) (max da db) ∧ Below w.heap.size w w' := by
  have hh := fun (wx : World) (hb : Below w.heap.size w wx) => hH wx ((hr.below hb (Nat.le_refl _)).wide (Nat.le_refl _) hb.size)
  have hg := fun (wx : World) (hb : Below w.heap.size w wx) => hG wx ((hr.below hb (Nat.le_refl _)).wide (Nat.le_refl _) hb.size)
  have hs := fun (wx : World) (hb : Below w.heap.size w wx) => hS wx ((hr.below hb (Nat.le_refl _)).wide (Nat.le_refl _) hb.size)
  obtain ⟨b, o, rfl, c0, c1, c2, c3, c4⟩ := hr.at_ hK
  have hlt : decide (K < l.length) = true := by simpa using hK
  have hKI : (K : Int) < (l.length : Int) := by omega
  rw [ht] at c0 c1 c2 c3 c4
  simp only [opT, V0, termVal, mtS, retText] at c0 c1 c2 c3 c4 hh hg
  clear ht
  have HH := Lib.hid hh
  have HG := Lib.hid hg
  have HS := Lib.hid hs
  clear hh hr hH hG hg hS hs
  have b0 : (op == 0) = false := by rw [beq_eq_false_iff_ne]; omega
  have b1 : (op == 1) = false := by rw [beq_eq_false_iff_ne]; omega
  have b2 : (op == 2) = false := by rw [beq_eq_false_iff_ne]; omega
  have b5 : (op == 5) = false := by rw [beq_eq_false_iff_ne]; omega
  have htk := fun w => takes_any op w
  rw [show takesT op = 2 by unfold takesT; rw [if_neg (by omega), if_neg (by omega)]] at htk
  have HTk := Lib.hid (fun w => (htk w).mono fun _ _ h => And.intro h.1 h.2.symm)
  have HSg := Lib.hid (fun w => sign_any op w)
  unfold signS at HSg
  have h2 := signL_two hop
  generalize signL op = sg at *
  clear htk hop
  have hb := box_below w #[.int .i64 op, .int .i64 0, .int .i64 0, .string ⟨#[]⟩, .string ⟨#[]⟩] 47
  have HB := Lib.hid hb
  clear hb
  go_enter Tryz.func49, Tryz.ntmps49
  go_wp2_with fail
  refine (HH.out _ HB.out).mono ?_
  rintro r w1 ⟨rfl, hb1⟩
  have c5 := (hb1.cell (p := ⟨w.heap.size, 0, none⟩) (by simp)).trans (show _ = some (Value.int .i64 op) by simp [go_sem])
  have HB1 := Lib.hid (HB.out.trans (hb1.mono HB.out.size))
  have HBx := Lib.hid hb1
  clear hb1
  go_wp2_with (first | (go_at_call 48; refine (HTk.out _).mono ?_; rintro r w' ⟨rfl, rfl⟩))
  have hB1' : Below (w.heap.size + 1) (w.alloc (.cells #[.int .i64 op, .int .i64 0, .int .i64 0, .string ⟨#[]⟩, .string ⟨#[]⟩] 47)) w1 := by simpa using HBx.out
  have hkeep := fun (wx : World) (hb : Below w1.heap.size w1 wx) =>
    (show wx.cell? ⟨w.heap.size, 0, none⟩ = some (.int .i64 op) ∧ wx.cell? ⟨w.heap.size, 1, none⟩ = some (.int .i64 0) ∧ wx.cell? ⟨w.heap.size, 2, none⟩ = some (.int .i64 0) ∧ wx.cell? ⟨w.heap.size, 3, none⟩ = some (.string ⟨#[]⟩) ∧ wx.cell? ⟨w.heap.size, 4, none⟩ = some (.string ⟨#[]⟩) from by
      have hall := hB1'.trans (hb.mono (Nat.le_trans (by simp) hB1'.size))
      have g : ∀ i v, (w.alloc (.cells #[.int .i64 op, .int .i64 0, .int .i64 0, .string ⟨#[]⟩, .string ⟨#[]⟩] 47)).cell? ⟨w.heap.size, i, none⟩ = some v → wx.cell? ⟨w.heap.size, i, none⟩ = some v := fun i v h => (hall.cell (p := ⟨w.heap.size, i, none⟩) (Nat.lt_succ_self _)).trans h
      exact ⟨g 0 _ (by simp [go_sem]), g 1 _ (by simp [go_sem]), g 2 _ (by simp [go_sem]), g 3 _ (by simp [go_sem]), g 4 _ (by simp [go_sem])⟩)
  have HKeep := Lib.hid hkeep
  have HS1 := Lib.hid (fun (wx : World) (hb : Below w1.heap.size w1 wx) => (HS.out wx (HB1.out.trans (hb.mono HB1.out.size))).mono fun _ _ h => And.intro h.1 (hb.trans (h.2.mono hb.size)))
  have HG1 := Lib.hid (fun (wx : World) (hb : Below w1.heap.size w1 wx) => (HG.out wx (HB1.out.trans (hb.mono HB1.out.size))).mono fun _ _ h => And.intro h.1 (hb.trans (h.2.mono hb.size)))
  clear hkeep hB1'
  have hwK : IntKind.i64.wrap ((K : Int) - 1) = (K : Int) - 1 := IntWalk.i64_in _ (by omega)
  have hwy : IntKind.i64.wrap ((y : Int) - 1) = (y : Int) - 1 := IntWalk.i64_in _ (by omega)
  refine region_class (C := fun w' => Below w1.heap.size w1 w') (by kernel_rfl) (by kernel_rfl) (Below.refl _ _).drew ?_
  repeat (quiet_step (first
    | (intro hw; with_reducible exact HS1.out _ hw)
    | (intro hw; with_reducible exact HG1.out _ hw)
    | (intro _; with_reducible rfl)
    | (intro hw; obtain ⟨e0, e1, e2, e3, e4⟩ := HKeep.out _ hw; go_simp; with_reducible exact ⟨rfl, rfl⟩) | (intro hw; obtain ⟨e0, e1, e2, e3, e4⟩ := HKeep.out _ hw; go_simp; with_reducible rfl) | (intro hw; simp only [go_sem, hwK]; with_reducible exact ⟨rfl, rfl⟩) | (intro hw; simp only [go_sem, hwy]; with_reducible exact ⟨rfl, rfl⟩) | (intro _; exact rfl)))
  refine wpQuiet_nil ?_
  intro w8 hb8
  obtain ⟨e0, e1, e2, e3, e4⟩ := HKeep.out _ hb8
  have HB8 := Lib.hid (HB1.out.trans (hb8.mono HB1.out.size))
  clear hb8
  go_wp2_with fail
  refine (HSg.out _).mono ?_
  rintro r w9 ⟨rfl, hb9⟩
  have HB9 := Lib.hid (HB8.out.trans (hb9.mono HB8.out.size))
  clear hb9
  go_wp2_with fail
  all_goals
    have e : ((⟨sl.toArray⟩ ++ ⟨#[32]⟩ ++ ⟨sg.toArray⟩ ++ ⟨#[32]⟩ ++ ⟨tl.toArray⟩ : ByteArray)) = ⟨(sl ++ 32 :: (sg ++ 32 :: tl)).toArray⟩ := by apply ByteArray.ext; simp
    refine bodyPost_ret (v := .tuple #[.string (⟨sl.toArray⟩ ++ ⟨#[32]⟩ ++ ⟨sg.toArray⟩ ++ ⟨#[32]⟩ ++ ⟨tl.toArray⟩), .int .i64 ((max da db : Nat) : Int)]) (by (simp [results, Tryz.results49, go_sem]) <;> omega) rfl ⟨?_, HB9.out⟩
    rw [e]
    first | exact rfl | simp [retText]
end Go.Proofs.YtidomoibhjgkjaaGreatDoor
