import Derived.Test.YtfpjepeikjfkpaaGreatDoorZC35
/-
  Expressions, the document's own answers: the text of a tree's terms, at operations of one and of two.
-/
namespace Go.Proofs.YtfpjepeikjfkpaaGreatDoor
open Go.RowKit

def HeldAt (l : List TM) (A : Option Addr) (c : Nat) (x : TM) (y : Int) (right : Bool) (tl : List UInt8) (dp : Nat) : Prop := ∀ w : World, RowT w 0 w.heap.size A l → Calls Tryz.prog 51 #[.slice A l.length c, termVal x, .int .i64 y, .bool right] w fun r w' => r = retText tl dp ∧ Below w.heap.size w w'
set_option maxRecDepth 100000 in
set_option maxHeartbeats 2000000 in
theorem part_one (l : List TM) (A : Option Addr) (c : Nat) (K : Nat) (op : Int) (tl : List UInt8) (dp : Nat) (hop : op = 3 ∨ op = 4 ∨ op = 5) (hK : K < l.length) (hl : l.length ≤ 1000000) (ht : l[K]'hK = opT op) (htl : tl.length ≤ 1000000) (hdp : dp ≤ 1000000) (hH : HeldAt l A c (opT op) ((K : Int) - 1) true tl dp) (w : World) (hr : RowT w 0 w.heap.size A l) :
    Calls Tryz.prog 27 #[.slice A l.length c, .int .i64 (K : Int)] w fun r w' => r = retText (if op = 5 then [108, 101, 110, 40] ++ tl ++ [41] else signL op ++ tl) (dp + 1) ∧ Below w.heap.size w w' := by
  have hh := fun (wx : World) (hb : Below w.heap.size w wx) => hH wx ((hr.below hb (Nat.le_refl _)).wide (Nat.le_refl _) hb.size)
  obtain ⟨b, o, rfl, c0, c1, c2, c3, c4⟩ := hr.at_ hK
  have hlt : decide (K < l.length) = true := by simpa using hK
  have hKI : (K : Int) < (l.length : Int) := by omega
  rw [ht] at c0 c1 c2 c3 c4
  simp only [opT, V0, termVal, mtS, retText] at c0 c1 c2 c3 c4 hh
  clear ht
  have HH := Lib.hid hh
  clear hh hr hH
  rcases hop with rfl | rfl | rfl
  · have hb := box_below w #[.int .i64 3, .int .i64 0, .int .i64 0, .string ⟨#[]⟩, .string ⟨#[]⟩] 44
    have HB := Lib.hid hb
    have HTk := Lib.hid (fun w => (takes_any 3 w).mono fun _ _ h => And.intro h.1 h.2.symm)
    have hsg := fun w => sign_any 3 w
    rw [show signS 3 = ⟨#[45]⟩ from rfl] at hsg
    have HSg := Lib.hid hsg
    clear hb hsg
    go_enter Tryz.func27, Tryz.ntmps27
    go_wp2_with fail
    refine (HH.out _ HB.out).mono ?_
    rintro r w1 ⟨rfl, hb1⟩
    have c5 := (hb1.cell (p := ⟨w.heap.size, 0, none⟩) (by simp)).trans (show _ = some (Value.int .i64 3) by simp [go_sem])
    have HB1 := Lib.hid (HB.out.trans (hb1.mono HB.out.size))
    clear hb1
    go_wp2_with (first | (go_at_call 26; refine (HTk.out _).mono ?_; rintro r w' ⟨rfl, rfl⟩))
    refine (HSg.out _).mono ?_
    rintro r w2 ⟨rfl, hb2⟩
    have HB2 := Lib.hid (HB1.out.trans (hb2.mono HB1.out.size))
    clear hb2
    go_wp2_with fail
    refine bodyPost_ret (v := .tuple #[.string (⟨#[45]⟩ ++ ⟨tl.toArray⟩), .int .i64 ((dp : Int) + 1)]) (by simp [results, Tryz.results27, go_sem]) rfl ⟨?_, HB2.out⟩
    rw [ba_catT [45] tl]
    rfl
  · have hb := box_below w #[.int .i64 4, .int .i64 0, .int .i64 0, .string ⟨#[]⟩, .string ⟨#[]⟩] 44
    have HB := Lib.hid hb
    have HTk := Lib.hid (fun w => (takes_any 4 w).mono fun _ _ h => And.intro h.1 h.2.symm)
    have hsg := fun w => sign_any 4 w
    rw [show signS 4 = ⟨#[33]⟩ from rfl] at hsg
    have HSg := Lib.hid hsg
    clear hb hsg
    go_enter Tryz.func27, Tryz.ntmps27
    go_wp2_with fail
    refine (HH.out _ HB.out).mono ?_
    rintro r w1 ⟨rfl, hb1⟩
    have c5 := (hb1.cell (p := ⟨w.heap.size, 0, none⟩) (by simp)).trans (show _ = some (Value.int .i64 4) by simp [go_sem])
    have HB1 := Lib.hid (HB.out.trans (hb1.mono HB.out.size))
    clear hb1
    go_wp2_with (first | (go_at_call 26; refine (HTk.out _).mono ?_; rintro r w' ⟨rfl, rfl⟩))
    refine (HSg.out _).mono ?_
    rintro r w2 ⟨rfl, hb2⟩
    have HB2 := Lib.hid (HB1.out.trans (hb2.mono HB1.out.size))
    clear hb2
    go_wp2_with fail
    refine bodyPost_ret (v := .tuple #[.string (⟨#[33]⟩ ++ ⟨tl.toArray⟩), .int .i64 ((dp : Int) + 1)]) (by simp [results, Tryz.results27, go_sem]) rfl ⟨?_, HB2.out⟩
    rw [ba_catT [33] tl]
    rfl
  · have hb := box_below w #[.int .i64 5, .int .i64 0, .int .i64 0, .string ⟨#[]⟩, .string ⟨#[]⟩] 44
    have HB := Lib.hid hb
    clear hb
    go_enter Tryz.func27, Tryz.ntmps27
    go_wp2_with fail
    refine (HH.out _ HB.out).mono ?_
    rintro r w1 ⟨rfl, hb1⟩
    have c5 := (hb1.cell (p := ⟨w.heap.size, 0, none⟩) (by simp)).trans (show _ = some (Value.int .i64 5) by simp [go_sem])
    have HB1 := Lib.hid (HB.out.trans (hb1.mono HB.out.size))
    clear hb1
    go_wp2_with fail
    refine bodyPost_ret (v := .tuple #[.string (⟨#[108, 101, 110, 40]⟩ ++ ⟨tl.toArray⟩ ++ ⟨#[41]⟩), .int .i64 ((dp : Int) + 1)]) (by simp [results, Tryz.results27, go_sem]) rfl ⟨?_, HB1.out⟩
    rw [ba_catT [108, 101, 110, 40] tl, ba_catT _ [41]]
    rfl

theorem signL_two {op : Int} (h : 6 ≤ op ∧ op ≤ 18) : (signL op).length ≤ 2 := by
  have hs : op = 6 ∨ op = 7 ∨ op = 8 ∨ op = 9 ∨ op = 10 ∨ op = 11 ∨ op = 12 ∨ op = 13 ∨ op = 14 ∨ op = 15 ∨ op = 16 ∨ op = 17 ∨ op = 18 := by omega
  rcases hs with rfl | rfl | rfl | rfl | rfl | rfl | rfl | rfl | rfl | rfl | rfl | rfl | rfl <;> decide
set_option maxRecDepth 100000 in
set_option maxHeartbeats 4000000 in
theorem part_two (l : List TM) (A : Option Addr) (c : Nat) (K y : Nat) (op : Int) (sl tl : List UInt8) (da db : Nat) (hop : 6 ≤ op ∧ op ≤ 18) (hK : K < l.length) (hl : l.length ≤ 1000000) (hy : y ≤ 1000000) (ht : l[K]'hK = opT op) (htl : tl.length ≤ 1000000) (hsl : sl.length ≤ 1000000) (hda : da ≤ 1000000) (hdb : db ≤ 1000000)
    (hH : HeldAt l A c (opT op) ((K : Int) - 1) true tl db) (hS : Part l A c ((K : Int) - 1) y) (hG : HeldAt l A c (opT op) ((y : Int) - 1) false sl da) (w : World) (hr : RowT w 0 w.heap.size A l) :
    Calls Tryz.prog 27 #[.slice A l.length c, .int .i64 (K : Int)] w fun r w' => r = retText (sl ++ [32] ++ signL op ++ [32] ++ tl) (max da db) ∧ Below w.heap.size w w' := by
  have hh := fun (wx : World) (hb : Below w.heap.size w wx) => hH wx ((hr.below hb (Nat.le_refl _)).wide (Nat.le_refl _) hb.size)
  have hg := fun (wx : World) (hb : Below w.heap.size w wx) => hG wx ((hr.below hb (Nat.le_refl _)).wide (Nat.le_refl _) hb.size)
  have hs := fun (wx : World) (hb : Below w.heap.size w wx) => hS wx ((hr.below hb (Nat.le_refl _)).wide (Nat.le_refl _) hb.size)
  obtain ⟨b, o, rfl, c0, c1, c2, c3, c4⟩ := hr.at_ hK
  have hlt : decide (K < l.length) = true := by simpa using hK
  have hKI : (K : Int) < (l.length : Int) := by omega
  rw [ht] at c0 c1 c2 c3 c4
  simp only [opT, V0, termVal, mtS, retText] at c0 c1 c2 c3 c4 hh hg
  clear ht
  have HH := Lib.hid hh
  have HG := Lib.hid hg
  have HS := Lib.hid hs
  clear hh hr hH hG hg hS hs
  have b0 : (op == 0) = false := by rw [beq_eq_false_iff_ne]; omega
  have b1 : (op == 1) = false := by rw [beq_eq_false_iff_ne]; omega
  have b2 : (op == 2) = false := by rw [beq_eq_false_iff_ne]; omega
  have b5 : (op == 5) = false := by rw [beq_eq_false_iff_ne]; omega
  have htk := fun w => takes_any op w
  rw [show takesT op = 2 by unfold takesT; rw [if_neg (by omega), if_neg (by omega)]] at htk
  have HTk := Lib.hid (fun w => (htk w).mono fun _ _ h => And.intro h.1 h.2.symm)
  have HSg := Lib.hid (fun w => sign_any op w)
  unfold signS at HSg
  have h2 := signL_two hop
  generalize signL op = sg at *
  clear htk hop
  have hb := box_below w #[.int .i64 op, .int .i64 0, .int .i64 0, .string ⟨#[]⟩, .string ⟨#[]⟩] 44
  have HB := Lib.hid hb
  clear hb
  go_enter Tryz.func27, Tryz.ntmps27
  go_wp2_with fail
  refine (HH.out _ HB.out).mono ?_
  rintro r w1 ⟨rfl, hb1⟩
  have c5 := (hb1.cell (p := ⟨w.heap.size, 0, none⟩) (by simp)).trans (show _ = some (Value.int .i64 op) by simp [go_sem])
  have HB1 := Lib.hid (HB.out.trans (hb1.mono HB.out.size))
  have HBx := Lib.hid hb1
  clear hb1
  go_wp2_with (first | (go_at_call 26; refine (HTk.out _).mono ?_; rintro r w' ⟨rfl, rfl⟩))
  have hB1' : Below (w.heap.size + 1) (w.alloc (.cells #[.int .i64 op, .int .i64 0, .int .i64 0, .string ⟨#[]⟩, .string ⟨#[]⟩] 44)) w1 := by simpa using HBx.out
  have hkeep := fun (wx : World) (hb : Below w1.heap.size w1 wx) =>
    (show wx.cell? ⟨w.heap.size, 0, none⟩ = some (.int .i64 op) ∧ wx.cell? ⟨w.heap.size, 1, none⟩ = some (.int .i64 0) ∧ wx.cell? ⟨w.heap.size, 2, none⟩ = some (.int .i64 0) ∧ wx.cell? ⟨w.heap.size, 3, none⟩ = some (.string ⟨#[]⟩) ∧ wx.cell? ⟨w.heap.size, 4, none⟩ = some (.string ⟨#[]⟩) from by
      have hall := hB1'.trans (hb.mono (Nat.le_trans (by simp) hB1'.size))
      have g : ∀ i v, (w.alloc (.cells #[.int .i64 op, .int .i64 0, .int .i64 0, .string ⟨#[]⟩, .string ⟨#[]⟩] 44)).cell? ⟨w.heap.size, i, none⟩ = some v → wx.cell? ⟨w.heap.size, i, none⟩ = some v := fun i v h => (hall.cell (p := ⟨w.heap.size, i, none⟩) (Nat.lt_succ_self _)).trans h
      exact ⟨g 0 _ (by simp [go_sem]), g 1 _ (by simp [go_sem]), g 2 _ (by simp [go_sem]), g 3 _ (by simp [go_sem]), g 4 _ (by simp [go_sem])⟩)
  have HKeep := Lib.hid hkeep
  have HS1 := Lib.hid (fun (wx : World) (hb : Below w1.heap.size w1 wx) => (HS.out wx (HB1.out.trans (hb.mono HB1.out.size))).mono fun _ _ h => And.intro h.1 (hb.trans (h.2.mono hb.size)))
  have HG1 := Lib.hid (fun (wx : World) (hb : Below w1.heap.size w1 wx) => (HG.out wx (HB1.out.trans (hb.mono HB1.out.size))).mono fun _ _ h => And.intro h.1 (hb.trans (h.2.mono hb.size)))
  clear hkeep hB1'
  have hwK : IntKind.i64.wrap ((K : Int) - 1) = (K : Int) - 1 := IntWalk.i64_in _ (by omega)
  have hwy : IntKind.i64.wrap ((y : Int) - 1) = (y : Int) - 1 := IntWalk.i64_in _ (by omega)
  refine region_class (C := fun w' => Below w1.heap.size w1 w') (by kernel_rfl) (by kernel_rfl) (Below.refl _ _).drew ?_
  repeat (quiet_step (first
    | (intro hw; with_reducible exact HS1.out _ hw)
    | (intro hw; with_reducible exact HG1.out _ hw)
    | (intro _; with_reducible rfl)
    | (intro hw; obtain ⟨e0, e1, e2, e3, e4⟩ := HKeep.out _ hw; go_simp; with_reducible exact ⟨rfl, rfl⟩) | (intro hw; obtain ⟨e0, e1, e2, e3, e4⟩ := HKeep.out _ hw; go_simp; with_reducible rfl) | (intro hw; simp only [go_sem, hwK]; with_reducible exact ⟨rfl, rfl⟩) | (intro hw; simp only [go_sem, hwy]; with_reducible exact ⟨rfl, rfl⟩) | (intro _; exact rfl)))
  refine wpQuiet_nil ?_
  intro w8 hb8
  obtain ⟨e0, e1, e2, e3, e4⟩ := HKeep.out _ hb8
  have HB8 := Lib.hid (HB1.out.trans (hb8.mono HB1.out.size))
  clear hb8
  go_wp2_with fail
  refine (HSg.out _).mono ?_
  rintro r w9 ⟨rfl, hb9⟩
  have HB9 := Lib.hid (HB8.out.trans (hb9.mono HB8.out.size))
  clear hb9
  go_wp2_with fail
  all_goals
    have e : ((⟨sl.toArray⟩ ++ ⟨#[32]⟩ ++ ⟨sg.toArray⟩ ++ ⟨#[32]⟩ ++ ⟨tl.toArray⟩ : ByteArray)) = ⟨(sl ++ 32 :: (sg ++ 32 :: tl)).toArray⟩ := by apply ByteArray.ext; simp
    refine bodyPost_ret (v := .tuple #[.string (⟨sl.toArray⟩ ++ ⟨#[32]⟩ ++ ⟨sg.toArray⟩ ++ ⟨#[32]⟩ ++ ⟨tl.toArray⟩), .int .i64 ((max da db : Nat) : Int)]) (by (simp [results, Tryz.results27, go_sem]) <;> omega) rfl ⟨?_, HB9.out⟩
    rw [e]
    first | exact rfl | simp [retText]
end Go.Proofs.YtfpjepeikjfkpaaGreatDoor
