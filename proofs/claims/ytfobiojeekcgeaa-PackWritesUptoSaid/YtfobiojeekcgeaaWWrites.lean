/-
  The walk of PackWrites, for parts of at most 1048576 bytes each.
-/
import Derived.Test.YtfobiojeekcgeaaArgs
import Derived.Test.YtfobiojeekcgeaaRefW
namespace Go.Proofs.Ytfobiojeekcgeaa.packWrites
open Go.RowKit

theorem Parts.three (w : World) (e : TypeId) (A1 A2 A3 : Option Addr) (c1 c2 c3 : Nat) (l1 l2 l3 : List UInt8) (z1 : A1 = none → c1 = 0) (z2 : A2 = none → c2 = 0) (z3 : A3 = none → c3 = 0)
    (h1 : Rd w 0 w.heap.size A1 l1) (h2 : Rd w 0 w.heap.size A2 l2) (h3 : Rd w 0 w.heap.size A3 l3) :
    Parts (w.alloc (.cells #[.slice A1 l1.length c1, .slice A2 l2.length c2, .slice A3 l3.length c3] e)) (some ⟨w.heap.size, 0, none⟩) [l1, l2, l3] :=
  Parts.new w e [(A1, c1, l1), (A2, c2, l2), (A3, c3, l3)] (by
    intro p hp
    simp only [List.mem_cons, List.not_mem_nil, or_false] at hp
    rcases hp with rfl | rfl | rfl
    · exact ⟨z1, h1⟩
    · exact ⟨z2, h2⟩
    · exact ⟨z3, h3⟩)

theorem join_three (w : World) (A1 A2 A3 : Option Addr) (c1 c2 c3 n2 : Nat) (l1 l2 l3 L : List UInt8) (hn2 : n2 = l2.length) (hL : L = l1 ++ (l2 ++ l3)) (z1 : A1 = none → c1 = 0) (z2 : A2 = none → c2 = 0) (z3 : A3 = none → c3 = 0)
    (h1 : Rd w 0 w.heap.size A1 l1) (h2 : Rd w 0 w.heap.size A2 l2) (h3 : Rd w 0 w.heap.size A3 l3) (hs : L.length ≤ 140737488355328) :
    Calls Try.prog 14 #[.slice (some ⟨w.heap.size, 0, none⟩) 3 3] (w.alloc (.cells #[.slice A1 l1.length c1, .slice A2 n2 c2, .slice A3 l3.length c3] 25)) (Ret L w) := by
  subst hn2
  have hf : [l1, l2, l3].flatten = L := by rw [hL]; simp
  have h := join_any (some ⟨w.heap.size, 0, none⟩) 3 [l1, l2, l3] (w.alloc (.cells #[.slice A1 l1.length c1, .slice A2 l2.length c2, .slice A3 l3.length c3] 25)) (Parts.three w 25 A1 A2 A3 c1 c2 c3 l1 l2 l3 z1 z2 z3 h1 h2 h3) (by simp) (by rw [hf]; exact hs)
  rw [hf] at h
  refine h.mono fun e w' ⟨A, c, he, hc, hm, hz, hr, hb⟩ => ⟨A, c, he, hc, hm, hz, hr.wide (by simp) (Nat.le_refl _), ?_⟩
  exact ((Below.refl _ w).alloc (Nat.le_refl _) _).trans (hb.mono (by simp))

theorem fJoin_three (w : World) (A1 A2 A3 : Option Addr) (c1 c2 c3 n2 : Nat) (l1 l2 l3 L : List UInt8) (hn2 : n2 = l2.length) (hL : L = l1 ++ (l2 ++ l3)) (z1 : A1 = none → c1 = 0) (z2 : A2 = none → c2 = 0) (z3 : A3 = none → c3 = 0)
    (h1 : Rd w 0 w.heap.size A1 l1) (h2 : Rd w 0 w.heap.size A2 l2) (h3 : Rd w 0 w.heap.size A3 l3) (hs : L.length ≤ 140737488355328) :
    Calls Try.prog 15 #[.slice (some ⟨w.heap.size, 0, none⟩) 3 3] (w.alloc (.cells #[.slice A1 l1.length c1, .slice A2 n2 c2, .slice A3 l3.length c3] 25)) (Ret L w) := by
  subst hn2
  have hf : [l1, l2, l3].flatten = L := by rw [hL]; simp
  have h := fJoin_any (some ⟨w.heap.size, 0, none⟩) 3 [l1, l2, l3] (w.alloc (.cells #[.slice A1 l1.length c1, .slice A2 l2.length c2, .slice A3 l3.length c3] 25)) (Parts.three w 25 A1 A2 A3 c1 c2 c3 l1 l2 l3 z1 z2 z3 h1 h2 h3) (by simp) (by rw [hf]; exact hs)
  rw [hf] at h
  refine h.mono fun e w' ⟨A, c, he, hc, hm, hz, hr, hb⟩ => ⟨A, c, he, hc, hm, hz, hr.wide (by simp) (Nat.le_refl _), ?_⟩
  exact ((Below.refl _ w).alloc (Nat.le_refl _) _).trans (hb.mono (by simp))

/-- Behind '[]byte(s)' and a call that makes something new: what was read is read, and the text's bytes are. -/
theorem after_conv {w w' : World} {A : Option Addr} {l : List UInt8} (e : TypeId) (s : ByteArray) (cap : Nat) (fz : Nat × Nat) (h : Rd w 0 w.heap.size A l)
    (hb : Below (w.alloc (.cells (bytesRow s cap) e fz)).drew.heap.size (w.alloc (.cells (bytesRow s cap) e fz)).drew w') :
    Rd w' 0 w'.heap.size A l ∧ Rd w' 0 w'.heap.size (some ⟨w.heap.size, 0, none⟩) s.data.toList ∧ Below w.heap.size w w' := by
  have hsz : (w.alloc (.cells (bytesRow s cap) e fz)).drew.heap.size = w.heap.size + 1 := by simp
  have hb0 : Below w.heap.size w (w.alloc (.cells (bytesRow s cap) e fz)).drew := ((Below.refl _ w).alloc (Nat.le_refl _) _).drew
  have hs := Rd.string w e s cap fz
  have hs' : Rd (w.alloc (.cells (bytesRow s cap) e fz)).drew w.heap.size (w.heap.size + 1) (some ⟨w.heap.size, 0, none⟩) s.data.toList := hs
  have hw := hb.size
  refine ⟨((h.below hb0 (Nat.le_refl _)).below hb (by omega)).wide (Nat.le_refl _) (by omega), (hs'.below hb (by omega)).wide (Nat.zero_le _) (by omega), hb0.trans (hb.mono (by omega))⟩

/-- A buffer so far. -/
def Buf (l : List UInt8) (v : Value) (wr : World) : Prop :=
  ∃ A c, v = .slice A l.length c ∧ (A = none → c = 0) ∧ Rd wr 0 wr.heap.size A l

set_option maxHeartbeats 4000000 in
set_option maxRecDepth 100000 in
theorem core (A0 : Option Addr) (c0 : Nat) (n m : Int) (ss : List ByteArray) (w : World) (hs : ss.length ≤ 1000) (hn0 : 0 ≤ n) (hn1 : n ≤ 18446744073709551615) (hm0 : -9223372036854775808 ≤ m) (hm1 : m ≤ 9223372036854775807)
    (b2 : ∀ k (h : k < ss.length), (ss[k]).size ≤ 1048576) (r2 : RowV w w.heap.size A0 (ss.map Value.string)) :
    Calls Try.prog 3 #[.int .u64 n, .int .i64 m, .slice A0 ss.length c0] w fun e w' => e = .returned (.bool true) ∧ Below w.heap.size w w' := by
  have HB := Lib.hid b2
  have HR := Lib.hid r2
  clear b2 r2
  go_enter Try.func3, Try.ntmps3
  go_wp2_with fail
  refine (live_any _).mono ?_
  rintro e w1 ⟨rfl, hb1⟩
  go_wp2_with fail
  go_loopw [7, 8, 21] (fun va vb i wr => ∃ (k : Nat) (l : List UInt8), k ≤ ss.length ∧ i = .int .i64 k ∧ l.length ≤ 1048576 ∧ Buf l va wr ∧ Buf l vb wr ∧ Below w.heap.size w wr) (fun _ _ i _ => ss.length - (intOf i).toNat)
  case atStart => exact ⟨0, [], Nat.zero_le _, rfl, by simp, ⟨none, 0, rfl, fun _ => rfl, Rd.nil_⟩, ⟨none, 0, rfl, fun _ => rfl, Rd.nil_⟩, hb1⟩
  case round =>
    clear hb1 w1
    obtain ⟨k, l, hk, rfl, hll, ⟨A, c, rfl, hz, hr⟩, ⟨A', c', rfl, hz', hr'⟩, hb⟩ := hrel
    by_cases hlt : k < ss.length
    · obtain ⟨b, o, rfl, hcell⟩ := (HR.out.below hb (Nat.le_refl _)).at_ (k := k) (by simpa using hlt)
      rw [List.getElem_map] at hcell
      have hx := HB.out k hlt
      generalize ss[k] = x at *
      have hxl : x.data.toList.length = x.size := rfl
      have hT : (unText x.data.toList).length ≤ 1048586 := by
        have h1 := un_ten (n := x.data.toList.length) (by omega)
        simp only [unText, List.length_append]; omega
      have HT := Lib.hid (fun w => text_any x (by omega) w)
      have HF := Lib.hid (fun w => fText_any x (by omega) w)
      generalize unText x.data.toList = T at *
      have hcv := fun W => run_bytes_of_string (P := Try.prog) W 9 25 5 x Try.underlying9 Try.underlying25 Try.underlying5
      have HX := Lib.hid hxl
      clear hxl
      go_wp2_with fail
      refine (HT.out _).mono ?_
      rintro e w1 ⟨A1, c1, rfl, _, _, _, hr1, hb1⟩
      go_wp2_with fail
      refine (HF.out _).mono ?_
      rintro e w2 ⟨A2, c2, rfl, _, _, _, hr2, hb2⟩
      have HQ := Lib.hid (equal_same A1 A2 c1 c2 T.length T.length _ _ _ _ T w2 rfl rfl (hr1.below hb2 (Nat.le_refl _)) hr2)
      go_wp2_with fail
      refine HQ.out.mono ?_
      rintro e w2 ⟨rfl, rfl⟩
      have hb3 : Below wr.heap.size wr w2 := hb1.trans (hb2.mono hb1.size)
      have hra := (hr.below hb3 (Nat.le_refl _)).wide (Nat.le_refl _) hb3.size
      have hrb := (hr'.below hb3 (Nat.le_refl _)).wide (Nat.le_refl _) hb3.size
      have hb4 : Below w.heap.size w w2 := hb.trans (hb3.mono hb.size)
      clear HQ hr1 hr2 hb1 hb2 hb3 hr hr' hb hcell
      go_wp2_with fail
      refine (HT.out _).mono ?_
      rintro e w4 ⟨A4, c4, rfl, _, _, z4, hr4, hb5⟩
      obtain ⟨q1, q2, q3⟩ := after_conv _ x _ _ hra hb5
      have hrb4 := (hrb.below q3 (Nat.le_refl _)).wide (Nat.le_refl _) q3.size
      obtain ⟨L, hL⟩ : ∃ L, L = l ++ (x.data.toList ++ T) := ⟨_, rfl⟩
      have hLl : L.length ≤ 3145738 := by rw [hL, List.length_append, List.length_append]; have := HX.out; omega
      have HJ := Lib.hid (join_three w4 A (some ⟨w2.heap.size, 0, none⟩) A4 c (grownCap w2 x.size 0 5) c4 x.size l x.data.toList T L HX.out.symm hL hz (by intro h; cases h) z4 q1 q2 (hr4.wide (Nat.zero_le _) (Nat.le_refl _)) (by omega))
      have hb6 : Below w.heap.size w w4 := hb4.trans (q3.mono hb4.size)
      have HL := Lib.hid hL
      clear hra hb5 q1 q2 q3 hr4 z4 hb4 hL hrb hz
      go_wp2_with fail
      refine HJ.out.mono ?_
      rintro e w5 ⟨A5, c5, rfl, _, _, z5, hr5, hb7⟩
      have hb8 : Below w.heap.size w w5 := hb6.trans (hb7.mono hb6.size)
      have hrb5 := (hrb4.below hb7 (Nat.le_refl _)).wide (Nat.le_refl _) hb7.size
      have hra5 := hr5.wide (Nat.zero_le _) (Nat.le_refl _)
      clear HJ hb6 hb7 hr5 hrb4
      go_wp2_with fail
      refine (HF.out _).mono ?_
      rintro e w6 ⟨A6, c6, rfl, _, _, z6, hr6, hb9⟩
      obtain ⟨q1, q2, q3⟩ := after_conv _ x _ _ hrb5 hb9
      have hra6 := (hra5.below q3 (Nat.le_refl _)).wide (Nat.le_refl _) q3.size
      have HJ := Lib.hid (fJoin_three w6 A' (some ⟨w5.heap.size, 0, none⟩) A6 c' (grownCap w5 x.size 0 5) c6 x.size l x.data.toList T L HX.out.symm HL.out hz' (by intro h; cases h) z6 q1 q2 (hr6.wide (Nat.zero_le _) (Nat.le_refl _)) (by omega))
      have hb10 : Below w.heap.size w w6 := hb8.trans (q3.mono hb8.size)
      clear hra5 hb9 q1 q2 q3 hr6 z6 hb8 hrb5 hz' HF HT
      go_wp2_with fail
      refine HJ.out.mono ?_
      rintro e w7 ⟨A7, c7, rfl, _, _, z7, hr7, hb11⟩
      have hb12 : Below w.heap.size w w7 := hb10.trans (hb11.mono hb10.size)
      have hra7 := (hra6.below hb11 (Nat.le_refl _)).wide (Nat.le_refl _) hb11.size
      have hrb7 := hr7.wide (Nat.zero_le _) (Nat.le_refl _)
      clear HJ hb10 hb11 hr7 hra6 HL hcv
      by_cases hbig : 1048576 < L.length
      · clear hra7 hrb7
        go_wp2
        go_ret
        exact ⟨rfl, hb12⟩
      · have hsm : L.length ≤ 1048576 := by omega
        clear hbig
        go_wp2
        go_roundw
        case rel => exact ⟨k + 1, L, by omega, by go_num, hsm, ⟨A5, c5, rfl, z5, hra7⟩, ⟨A7, c7, rfl, z7, hrb7⟩, hb12⟩
        case measure => simp [intOf]; omega
    · clear HB HR
      have HU := Lib.hid (fun w => uint_int n hn0 hn1 w)
      have HFU := Lib.hid (fun w => fUint_int n hn0 hn1 w)
      have HI := Lib.hid (fun w => int_any m hm0 hm1 w)
      have HFI := Lib.hid (fun w => fInt_any m hm0 hm1 w)
      generalize un n.toNat = U at *
      generalize unInt m = V at *
      go_wp2_with fail
      refine (HU.out _).mono ?_
      rintro e w1 ⟨A1, c1, rfl, _, _, _, hr1, hb1⟩
      go_wp2_with fail
      refine (HFU.out _).mono ?_
      rintro e w2 ⟨A2, c2, rfl, _, _, _, hr2, hb2⟩
      have HQ := Lib.hid (equal_same A1 A2 c1 c2 U.length U.length _ _ _ _ U w2 rfl rfl (hr1.below hb2 (Nat.le_refl _)) hr2)
      go_wp2_with fail
      refine HQ.out.mono ?_
      rintro e w2 ⟨rfl, rfl⟩
      have hb3 : Below wr.heap.size wr w2 := hb1.trans (hb2.mono hb1.size)
      clear HQ hr1 hr2 hb1 hb2
      go_wp2_with fail
      refine (HI.out _).mono ?_
      rintro e w3 ⟨A3, c3, rfl, _, _, _, hr3, hb4⟩
      go_wp2_with fail
      refine (HFI.out _).mono ?_
      rintro e w4 ⟨A4, c4, rfl, _, _, _, hr4, hb5⟩
      have HQ := Lib.hid (equal_same A3 A4 c3 c4 V.length V.length _ _ _ _ V w4 rfl rfl (hr3.below hb5 (Nat.le_refl _)) hr4)
      go_wp2_with fail
      refine HQ.out.mono ?_
      rintro e w4 ⟨rfl, rfl⟩
      have hb6 : Below w2.heap.size w2 w4 := hb4.trans (hb5.mono hb4.size)
      have hb7 : Below wr.heap.size wr w4 := hb3.trans (hb6.mono hb3.size)
      have HQ2 := Lib.hid (equal_same A A' c c' l.length l.length _ _ _ _ l w4 rfl rfl (hr.below hb7 (Nat.le_refl _)) (hr'.below hb7 (Nat.le_refl _)))
      have hb8 : Below w.heap.size w w4 := hb.trans (hb7.mono hb.size)
      clear HQ hr3 hr4 hb4 hb5 hb6 hb7 hr hr' hb hb3
      go_wp2_with fail
      refine HQ2.out.mono ?_
      rintro e w4 ⟨rfl, rfl⟩
      have HJ := Lib.hid (join_any none 0 [] w4 (fun j hj => absurd hj (by simp)) (by simp) (by simp))
      go_wp2_with fail
      refine HJ.out.mono ?_
      rintro e w5 ⟨A5, c5, rfl, _, _, _, _, hb9⟩
      have hb10 : Below w.heap.size w w5 := hb8.trans (hb9.mono hb8.size)
      clear HJ hb9 hb8
      go_wp2
      go_ret
      exact ⟨rfl, hb10⟩

set_option maxHeartbeats 2000000 in
set_option maxRecDepth 100000 in
theorem walk_long (a0 : Option Addr) (n0 c0 : Nat) (n m : Int) (h : 1000 < n0) (h0 : n0 ≤ 9223372036854775807) (w : World) :
    Calls Try.prog 3 #[.int .u64 n, .int .i64 m, .slice a0 n0 c0] w fun e w' => e = .returned (.bool true) ∧ Below w.heap.size w w' := by
  go_enter Try.func3, Try.ntmps3
  go_wp2_with fail
  refine (live_any _).mono ?_
  rintro e w1 ⟨rfl, hb1⟩
  go_wp2_with fail
  refine (live_any _).mono ?_
  rintro e w2 ⟨rfl, hb2⟩
  have hb3 : Below w.heap.size w w2 := hb1.trans (hb2.mono hb1.size)
  clear hb1 hb2
  go_wp2
  go_ret
  exact ⟨rfl, hb3⟩

theorem walk (a0 a1 : Int) (a2 : Option Addr) (len2 cap2 : Nat) (ss : List ByteArray) (w : World) (w0 : (Lit.int .u64 a0).wf = true) (w1 : (Lit.int .i64 a1).wf = true) (w2 : IsStrs w a2 len2 cap2 ss)
    (hsm : ∀ s ∈ ss.take len2, s.size ≤ 1048576) :
    Calls Try.prog 3 #[.int .u64 a0, .int .i64 a1, .slice a2 len2 cap2] w fun e w' => e = .returned (.bool true) ∧ Below w.heap.size w w' := by
  have hn := bounds_u64 w0
  have hm := bounds_i64 w1
  obtain ⟨l, hl, hx, hr⟩ : ∃ l : List ByteArray, len2 = l.length ∧ (∀ s ∈ l, s.size ≤ 1048576) ∧ RowV w w.heap.size a2 (l.map Value.string) := strs_take w2 hsm
  have hlen : len2 ≤ 9223372036854775807 := by
    obtain ⟨_, _, _, h, _⟩ := strs_in w2
    unfold maxLen at h
    omega
  subst hl
  rcases Nat.lt_or_ge 1000 l.length with h | h
  · exact walk_long a2 l.length cap2 a0 a1 h hlen w
  · exact core a2 cap2 a0 a1 l w h hn.1 hn.2 hm.1 hm.2 (fun k hk => hx _ (List.getElem_mem hk)) hr

end Go.Proofs.Ytfobiojeekcgeaa.packWrites
