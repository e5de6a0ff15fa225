/-
  The walk of FaultNone.
-/
import Derived.Test.YtdlmnhpmdidkeaaDoorFLive
import Derived.Test.YtdlmnhpmdidkeaaDoorFSome
namespace Go.Proofs.YtdlmnhpmdidkeaaDoor.faultNone
open Go.RowKit

theorem trail_nil (w : World) (hG : Glob w) : Calls Tryd.prog 15 #[.nilIface] w (RetS [] w) :=
  trail_any [] .nilIface End.nil _ w rfl (Nat.le_refl _) (by simp) hG

set_option maxRecDepth 100000 in
set_option maxHeartbeats 1000000 in
theorem walk (A : Option Addr) (n c : Nat) (l : List ByteArray) (w : World) (hG : Glob w) (hn : n = l.length) (hm : n ≤ maxLen) (hr : RowS w 0 w.heap.size A l) :
    Calls Tryd.prog 6 #[.slice A n c] w fun e w' => e = .returned (.bool true) ∧ Below w.heap.size w w' := by
  subst hn
  unfold maxLen at hm
  have HG := Lib.hid hG
  have HR := Lib.hid hr
  clear hG hr
  by_cases hbig : l.length ≤ 1000
  · go_enter Tryd.func6, Tryd.ntmps6
    go_wp2_with fail
    refine (live_any _ HG.out).mono ?_
    rintro e w1 ⟨rfl, hb⟩
    have hsz := hb.size
    have HB := Lib.hid (And.intro hb (And.intro (HG.out.under hb) (HR.out.below hb (Nat.le_refl _))))
    clear hb
    go_wp2_with fail
    go_loopg [3, 18] l.length (fun q e i wr => ∃ j : Nat, j + q = l.length ∧ i = .int .i64 j ∧ e = .nilIface ∧ wr = w1)
    case atStart => exact ⟨0, by omega, rfl, rfl, rfl⟩
    case round =>
      obtain ⟨j, hk, rfl, rfl, rfl⟩ := hrel
      have HK := Lib.hid hk
      by_cases hj : j < l.length
      · have hlt : decide ((j : Int) < (l.length : Int)) = true := by simpa using hj
        obtain ⟨b, o, rfl, d1⟩ := HB.out.2.2.at_ (k := j) hj
        generalize l[j] = pj at d1
        clear hk
        go_wp2_with fail
        refine (wrap_none _ _).mono ?_
        rintro r w' ⟨rfl, rfl⟩
        go_wp2_with fail
        go_roundg (gk - 1)
        case measure => have := HK.out; omega
        case rel => exact ⟨j + 1, by have := HK.out; omega, by go_num, rfl, rfl⟩
      · have hj' : j = l.length := by have := HK.out; omega
        have hlt : decide ((j : Int) < (l.length : Int)) = false := by simpa using hj
        subst hj'
        clear hk
        go_wp2_with fail
        refine (needed_nil wr HB.out.2.1).mono ?_
        rintro e w2 ⟨rfl, hb2⟩
        have hb2' : Below w.heap.size w (w2.alloc (.cells #[.string ⟨#[]⟩, .string ⟨#[]⟩] 31)) := (HB.out.1.trans (hb2.mono hsz)).alloc (Nat.le_trans hsz hb2.size) _
        have HB2 := Lib.hid (And.intro hb2' (HG.out.under hb2'))
        clear hb2 hb2' hsz
        go_wp2_with fail
        refine (code_none _).mono ?_
        rintro e w3 ⟨rfl, hb3⟩
        have HB3 := Lib.hid (And.intro (HB2.out.1.trans (hb3.mono HB2.out.1.size)) (HB2.out.2.under hb3))
        clear hb3 HB2
        go_wp2_with fail
        refine (trail_nil _ HB3.out.2).mono ?_
        rintro e w4 ⟨sv, rfl, ho, hb4⟩
        obtain ⟨A', c', rfl, _, _, _, _⟩ := RowS.own ho
        have HB4 := Lib.hid (HB3.out.1.trans (hb4.mono HB3.out.1.size))
        have HG4 := Lib.hid (HB3.out.2.under hb4)
        clear hb4 HB3 ho
        go_wp2_with fail
        refine (text_none _).mono ?_
        rintro e w5 ⟨rfl, rfl⟩
        go_wp2_with fail
        refine (is_none 0 _).mono ?_
        rintro e w6 ⟨rfl, hb6⟩
        have HB6 := Lib.hid (HB4.out.trans (hb6.mono HB4.out.size))
        clear hb6
        go_wp2_with fail
        refine (is_none 1 _).mono ?_
        rintro e w7 ⟨rfl, hb7⟩
        have HB7 := Lib.hid (HB6.out.trans (hb7.mono HB6.out.size))
        clear hb7
        go_wp2
        go_ret
        exact ⟨rfl, HB7.out⟩
  · have hgt : 1000 < l.length := by omega
    clear hbig
    go_enter Tryd.func6, Tryd.ntmps6
    go_wp2_with fail
    refine (live_any _ HG.out).mono ?_
    rintro e w1 ⟨rfl, hb⟩
    have HB := Lib.hid (And.intro hb (HG.out.under hb))
    clear hb
    go_wp2_with fail
    refine (live_any _ HB.out.2).mono ?_
    rintro e w2 ⟨rfl, hb⟩
    have HB2 := Lib.hid (HB.out.1.trans (hb.mono HB.out.1.size))
    clear hb
    go_wp2
    go_ret
    exact ⟨rfl, HB2.out⟩
end Go.Proofs.YtdlmnhpmdidkeaaDoor.faultNone
