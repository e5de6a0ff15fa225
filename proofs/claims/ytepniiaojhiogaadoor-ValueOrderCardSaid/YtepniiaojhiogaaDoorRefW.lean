/-
  What the document's own answers write: Join, Uint, Int, Text of package conductorref01, by the same contracts as package pack's.
-/
import Derived.Test.YtepniiaojhiogaaDoorWrite
namespace Go.Proofs.YtepniiaojhiogaaDoor
open Go.RowKit

set_option maxHeartbeats 400000 in
set_option maxRecDepth 100000 in
theorem fJoin_any (P : Option Addr) (c : Nat) (parts : List (List UInt8)) (w : World) (hp : Parts w P parts) (hn : parts.length ≤ 65536) (hs : parts.flatten.length ≤ 140737488355328) :
    Calls Tryd.prog 21 #[.slice P parts.length c] w (Ret parts.flatten w) := by
  obtain ⟨i0, hi, hz0, hz1, hz2⟩ := info_parts info_byte
  have HP := Lib.hid hp
  clear hp
  go_enter Tryd.func21, Tryd.ntmps21
  go_wp2
  have hown1 : (w.alloc (.cells #[] 5)).ownsRow w.heap.size 5 1 (.slice (some ⟨w.heap.size, 0, none⟩) 0 0) 0 (bvs []) := World.ownsRow_made w #[] 0 (Nat.le_refl _) (Nat.zero_le _) rfl
  have hb1 : Below w.heap.size w (w.alloc (.cells #[] 5)) := (Below.refl _ w).alloc (Nat.le_refl _) _
  go_loopw [3, 9] (fun v i wr => ∃ (k : Nat), k ≤ parts.length ∧ i = .int .i64 k ∧ (∃ n, wr.ownsRow w.heap.size 5 1 v n (bvs (parts.take k).flatten)) ∧ Below w.heap.size w wr) (fun _ i _ => parts.length - (intOf i).toNat)
  case atStart => exact ⟨0, Nat.zero_le _, rfl, ⟨_, hown1⟩, hb1⟩
  case round =>
    clear hown1 hb1
    obtain ⟨k, hk, rfl, ⟨n, hown⟩, hb⟩ := hrel
    have hbs := hb.size
    by_cases hlt : k < parts.length
    · have hle1 := flen_le parts (k + 1)
      have hstep := flen_succ parts k hlt
      have hle2 : flen parts k + parts[k].length ≤ 140737488355328 := by omega
      have hl2 : (parts.take k).flatten.length + parts[k].length ≤ 140737488355328 := hle2
      have HL2 := Lib.hid hl2
      clear hl2 hle1 hle2 hstep
      have HS := Lib.hid (flatten_take_succ parts k hlt)
      obtain ⟨b, o, A, cc, rfl, hbl, hc, hnil, hr⟩ := (HP.out.below hb) k hlt
      have HN := Lib.hid hnil
      clear hnil
      go_wp2_with (at_builtin; refine append_rd _ rfl _ _ 24 rfl w.heap.size 5 i0 (.int .u8 0) Tryd.underlying24 hi hz0 hz1 hz2 rfl _ _ _ rfl hown _ _ _ _ _ parts[k] rfl rfl HN.out hr HL2.out hbs ?_; intro v' w2 hown' hgrow)
      have hb' : Below w.heap.size w w2 := hb.grown hgrow hbs (fun g hg => (hown.lt g hg).1)
      clear hown hgrow hb hr hc
      rw [← HS.out] at hown'
      go_wp2
      go_roundw
      case rel => exact ⟨k + 1, by omega, by go_num, ⟨_, hown'⟩, hb'⟩
      case measure => simp [intOf]; omega
    · have hkl : k = parts.length := by omega
      subst hkl
      rw [List.take_length] at hown
      go_wp2
      go_ret
      exact Ret.own hown hb

theorem fJoin_pair (w : World) (A1 A2 : Option Addr) (c1 c2 : Nat) (l1 l2 L : List UInt8) (hL : L = l1 ++ l2) (z1 : A1 = none → c1 = 0) (z2 : A2 = none → c2 = 0) (h1 : Rd w 0 w.heap.size A1 l1) (h2 : Rd w 0 w.heap.size A2 l2) (hs : L.length ≤ 140737488355328) :
    Calls Tryd.prog 21 #[.slice (some ⟨w.heap.size, 0, none⟩) 2 2] (w.alloc (.cells #[.slice A1 l1.length c1, .slice A2 l2.length c2] 24)) (Ret L w) := by
  have hf : [l1, l2].flatten = L := by rw [hL]; simp
  have h := fJoin_any (some ⟨w.heap.size, 0, none⟩) 2 [l1, l2] (w.alloc (.cells #[.slice A1 l1.length c1, .slice A2 l2.length c2] 24)) (Parts.pair w 24 A1 A2 c1 c2 l1 l2 z1 z2 h1 h2) (by simp) (by rw [hf]; exact hs)
  rw [hf] at h
  refine h.mono fun e w' ⟨A, c, he, hc, hm, hz, hr, hb⟩ => ⟨A, c, he, hc, hm, hz, hr.wide (by simp) (Nat.le_refl _), ?_⟩
  exact ((Below.refl _ w).alloc (Nat.le_refl _) _).trans (hb.mono (by simp))

set_option maxHeartbeats 400000 in
set_option maxRecDepth 100000 in
/-- The document's Uint calls itself: by the number. -/
theorem fUint_nat : ∀ (k n : Nat), n ≤ k → (n : Int) ≤ 18446744073709551615 → ∀ w : World, Calls Tryd.prog 66 #[.int .u64 n] w (Ret (un n) w) := by
  intro k
  induction k with
  | zero =>
    intro n hk hn w
    have h0 : n < 128 := by omega
    have hb1 : (n : Int) = ((UInt8.ofNat n).toNat : Int) := by rw [byte_nat _ (by omega)]
    have HB := Lib.hid hb1
    clear hb1 hk
    go_enter Tryd.func66, Tryd.ntmps66
    go_wp2_with fail
    go_ret
    rw [un_small h0]
    exact Ret.of rfl (by simp) (by simp [maxLen]) (by intro h; cases h) ((Rd.one w 5 _ _ HB.out).wide (Nat.le_refl _) (by simp)) ((Below.refl _ w).alloc (Nat.le_refl _) _)
  | succ k ih =>
    intro n hk hn w
    have IH := Lib.hid ih
    clear ih
    rcases Nat.lt_or_ge n 128 with h0 | h0
    · have hb1 : (n : Int) = ((UInt8.ofNat n).toNat : Int) := by rw [byte_nat _ (by omega)]
      have HB := Lib.hid hb1
      clear hb1 hk IH
      go_enter Tryd.func66, Tryd.ntmps66
      go_wp2_with fail
      go_ret
      rw [un_small h0]
      exact Ret.of rfl (by simp) (by simp [maxLen]) (by intro h; cases h) ((Rd.one w 5 _ _ HB.out).wide (Nat.le_refl _) (by simp)) ((Below.refl _ w).alloc (Nat.le_refl _) _)
    · have hb1 : (n : Int) % 128 + 128 = ((UInt8.ofNat (n % 128 + 128)).toNat : Int) := by rw [byte_nat _ (by omega)]; omega
      have hrec := IH.out (n / 128) (by omega) (by omega)
      have h10 := un_ten (n := n) (by omega)
      have hu := un_big h0
      have HB := Lib.hid hb1
      have HI := Lib.hid hrec
      have HU := Lib.hid hu
      clear hb1 hk IH hrec hu
      go_enter Tryd.func66, Tryd.ntmps66
      have e1 : ((n / 128 : Nat) : Int) = (n : Int) / 128 := by omega
      rw [e1] at HI
      clear e1
      have hb0 : Below w.heap.size w (w.alloc (.cells #[.int .u8 ((n : Int) % 128 + 128)] 5)) := (Below.refl _ w).alloc (Nat.le_refl _) _
      have r0 := Rd.one w 5 _ _ HB.out
      go_wp2_with fail
      refine (HI.out _).mono ?_
      rintro e w2 ⟨A2, c2, rfl, _, _, z2, hr2, hb2⟩
      have hsz : (w.alloc (.cells #[.int .u8 ((n : Int) % 128 + 128)] 5)).heap.size = w.heap.size + 1 := by simp
      have hb3 : Below w.heap.size w w2 := hb0.trans (hb2.mono hb0.size)
      have HJ := Lib.hid (fJoin_pair w2 (some ⟨w.heap.size, 0, none⟩) A2 1 c2 [UInt8.ofNat (n % 128 + 128)] (un (n / 128)) (un n) HU.out (by intro h; cases h) z2
        ((r0.below hb2 (by omega)).wide (Nat.zero_le _) (by have := hb2.size; omega)) (hr2.wide (Nat.zero_le _) (Nat.le_refl _)) (by omega))
      clear r0 hb0 hr2 hb2 hsz z2 HI HU HB
      go_wp2_with fail
      refine HJ.out.mono ?_
      rintro e w3 ⟨A3, c3, rfl, hc3, hm3, z3, hr3, hb4⟩
      have hb5 : Below w.heap.size w w3 := hb3.trans (hb4.mono hb3.size)
      have hr5 := hr3.wide hb3.size (Nat.le_refl _)
      clear hb3 hb4 HJ hr3
      go_wp2
      go_ret
      exact Ret.of rfl hc3 hm3 z3 hr5 hb5

theorem fUint_int (x : Int) (h0 : 0 ≤ x) (h1 : x ≤ 18446744073709551615) (w : World) :
    Calls Tryd.prog 66 #[.int .u64 x] w (Ret (un x.toNat) w) := by
  obtain ⟨n, rfl⟩ := Int.eq_ofNat_of_zero_le h0
  exact fUint_nat n n (Nat.le_refl _) h1 w

set_option maxRecDepth 100000 in
theorem fInt_any (n : Int) (h0 : -9223372036854775808 ≤ n) (h1 : n ≤ 9223372036854775807) (w : World) :
    Calls Tryd.prog 43 #[.int .i64 n] w (Ret (unInt n) w) := by
  by_cases hneg : n < 0
  · have hz : unInt n = un (2 * (-1 - n) + 1).toNat := by simp [unInt, zig, hneg]
    have HZ := Lib.hid hz
    clear hz
    go_enter Tryd.func43, Tryd.ntmps43
    go_wp2_with (go_at_call 66; refine (fUint_int _ (by omega) (by omega) _).mono ?_; rintro e w' ⟨A, c, rfl, hc, hm, hz, hr, hb⟩)
    go_ret
    rw [HZ.out]
    exact ⟨A, c, rfl, hc, hm, hz, hr, hb⟩
  · have hz : unInt n = un (2 * n).toNat := by simp [unInt, zig, hneg]
    have HZ := Lib.hid hz
    clear hz
    go_enter Tryd.func43, Tryd.ntmps43
    go_wp2_with (go_at_call 66; refine (fUint_int _ (by omega) (by omega) _).mono ?_; rintro e w' ⟨A, c, rfl, hc, hm, hz, hr, hb⟩)
    go_ret
    rw [HZ.out]
    exact ⟨A, c, rfl, hc, hm, hz, hr, hb⟩

set_option maxRecDepth 100000 in
theorem fText_any (s : ByteArray) (hs : s.size ≤ 140737488355318) (w : World) :
    Calls Tryd.prog 42 #[.string s] w (Ret (unText s.data.toList) w) := by
  have hcv := fun W => run_bytes_of_string (P := Tryd.prog) W 9 24 5 s Tryd.underlying9 Tryd.underlying24 Tryd.underlying5
  go_enter Tryd.func42, Tryd.ntmps42
  go_wp2_with (go_at_call 66; refine (fUint_int _ (by omega) (by omega) _).mono ?_; rintro e w1 ⟨A, c, rfl, hc, hm, hz, hr, hb⟩)
  have e0 : ((s.size : Int)).toNat = s.size := Int.toNat_natCast _
  rw [e0] at hr
  have hl := un_ten (n := s.size) (by omega)
  have hdl : s.data.toList.length = s.size := rfl
  have hb2 : Below w.heap.size w (((w1.alloc (.cells (bytesRow s (grownCap w1 s.size 0 5)) 5 ((bytesRow s (grownCap w1 s.size 0 5)).size, (bytesRow s (grownCap w1 s.size 0 5)).size + 1))).alloc (.cells #[.slice A (un s.size).length c, .slice (some ⟨w1.heap.size, 0, none⟩) s.size (grownCap w1 s.size 0 5)] 24)).drew) :=
    ((hb.alloc hb.size _).alloc (by have := hb.size; simp; omega) _).drew
  refine (fJoin_any _ 2 [un s.size, s.data.toList] _ (Parts.text w1 _ _ s _ _ _ A c _ hz hr) (by simp) (by simp only [List.flatten_cons, List.flatten_nil, List.length_append, List.length_nil]; omega)).mono ?_
  rintro e w2 ⟨A2, c2, rfl, h1, h0, h2, h3, h4⟩
  have hsz := hb2.size
  have hb3 : Below w.heap.size w w2 := hb2.trans (h4.mono hsz)
  have h5 := h3.wide hsz (Nat.le_refl _)
  clear h3 h4 hb2 hb hr hcv
  go_wp2
  go_ret
  have e1 : [un s.size, s.data.toList].flatten = unText s.data.toList := by simp only [unText, hdl, List.flatten_cons, List.flatten_nil, List.append_nil]
  rw [e1] at h1 h5
  exact Ret.of (by simp only [unText, List.length_append, hdl]) h1 h0 h2 h5 hb3

end Go.Proofs.YtepniiaojhiogaaDoor
