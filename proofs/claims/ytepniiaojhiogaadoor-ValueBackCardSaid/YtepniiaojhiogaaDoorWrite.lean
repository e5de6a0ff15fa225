/-
  What package pack writes: Uint, Int, Join, Text, each by a contract over lists of bytes.
-/
import Derived.Test.YtepniiaojhiogaaDoorBase
import Derived.Test.YtepniiaojhiogaaDoorPlain
namespace Go.Proofs.YtepniiaojhiogaaDoor
open Go.RowKit

theorem info_byte : (Tryd.prog.info? 5).map (fun i => (i.zero, i.size, i.bytes)) = some (some (.int .u8 0), 1, 1) := by kernel_rfl

theorem byte_nat (m : Nat) (h : m < 256) : ((UInt8.ofNat m).toNat : Int) = (m : Int) := by
  have : (UInt8.ofNat m).toNat = m := by simp; omega
  omega

set_option maxHeartbeats 400000 in
set_option maxRecDepth 100000 in
theorem uint_any (n : Nat) (hn : (n : Int) ≤ 18446744073709551615) (w : World) :
    Calls Tryd.prog 65 #[.int .u64 n] w (Ret (un n) w) := by
  obtain ⟨i0, hi, hz0, hz1, hz2⟩ := info_parts info_byte
  go_enter Tryd.func65, Tryd.ntmps65
  go_wp2
  go_loopw [0, 3] (fun x v wr => ∃ (m k : Nat) (l : List UInt8), x = .int .u64 m ∧ m ≤ n ∧ wr.ownsRow w.heap.size 5 1 v k (bvs l) ∧ l ++ un m = un n ∧ Below w.heap.size w wr) (fun x _ _ => (intOf x).toNat)
  case atStart => exact ⟨n, 0, [], rfl, Nat.le_refl _, World.ownsRow_nil _ _ _ _, rfl, Below.refl _ _⟩
  case round =>
    obtain ⟨m, k, l, rfl, hm, hown, hl, hb⟩ := hrel
    have HL := Lib.hid hl
    clear hl
    have hk : k = l.length := by have := hown.1; rw [bvs_length] at this; omega
    have hlen : l.length + (un m).length ≤ 10 := by have := un_ten (n := n) (by omega); rw [← HL.out] at this; simpa using this
    have hpos := un_pos m
    have hll : l.length ≤ 10 := by omega
    have hbs := hb.size
    have HLen := Lib.hid hlen
    have HK := Lib.hid hk
    clear hlen hpos hk
    by_cases h128 : 128 ≤ m
    · have hb1 : (m : Int) % 128 + 128 = ((UInt8.ofNat (m % 128 + 128)).toNat : Int) := by rw [byte_nat _ (by omega)]; omega
      have HB := Lib.hid hb1
      clear hb1
      go_wp2_with (at_builtin; refine append_rd _ rfl _ _ 24 rfl w.heap.size 5 i0 (.int .u8 0) Tryd.underlying24 hi hz0 hz1 hz2 rfl _ _ _ rfl (hown.alloc _) _ _ _ 1 _ [UInt8.ofNat (m % 128 + 128)] rfl rfl (by intro h; cases h) (Rd.one _ _ _ _ HB.out) (by simp; omega) (by simp; omega) ?_; intro v' w1 hown' hgrow)
      have hb' : Below w.heap.size w w1 := (hb.alloc hbs _).grown hgrow (by simp; omega) (fun g hg => (hown.lt g hg).1)
      clear hown hgrow hb
      go_wp2
      go_roundw
      case rel => exact ⟨m / 128, _, _, by go_num, by omega, hown', by rw [← HL.out, un_big h128]; simp, hb'⟩
      case measure => simp [intOf]; omega
    · have hb1 : (m : Int) = ((UInt8.ofNat m).toNat : Int) := by rw [byte_nat _ (by omega)]
      have HB := Lib.hid hb1
      clear hb1
      go_wp2_with (at_builtin; refine append_rd _ rfl _ _ 24 rfl w.heap.size 5 i0 (.int .u8 0) Tryd.underlying24 hi hz0 hz1 hz2 rfl _ _ _ rfl (hown.alloc _) _ _ _ 1 _ [UInt8.ofNat m] rfl rfl (by intro h; cases h) (Rd.one _ _ _ _ HB.out) (by simp; omega) (by simp; omega) ?_; intro v' w1 hown' hgrow)
      have hb' : Below w.heap.size w w1 := (hb.alloc hbs _).grown hgrow (by simp; omega) (fun g hg => (hown.lt g hg).1)
      go_ret
      rw [← HL.out, un_small (by omega)]
      exact Ret.own hown' hb'

theorem uint_int (x : Int) (h0 : 0 ≤ x) (h1 : x ≤ 18446744073709551615) (w : World) :
    Calls Tryd.prog 65 #[.int .u64 x] w (Ret (un x.toNat) w) := by
  obtain ⟨n, rfl⟩ := Int.eq_ofNat_of_zero_le h0
  exact uint_any n h1 w

set_option maxRecDepth 100000 in
theorem int_any (n : Int) (h0 : -9223372036854775808 ≤ n) (h1 : n ≤ 9223372036854775807) (w : World) :
    Calls Tryd.prog 41 #[.int .i64 n] w (Ret (unInt n) w) := by
  by_cases hneg : n < 0
  · have hz : unInt n = un (2 * (-1 - n) + 1).toNat := by simp [unInt, zig, hneg]
    have HZ := Lib.hid hz
    clear hz
    go_enter Tryd.func41, Tryd.ntmps41
    go_wp2_with (go_at_call 65; refine (uint_int _ (by omega) (by omega) _).mono ?_; rintro e w' ⟨A, c, rfl, hc, hm, hz, hr, hb⟩)
    go_ret
    rw [HZ.out]
    exact ⟨A, c, rfl, hc, hm, hz, hr, hb⟩
  · have hz : unInt n = un (2 * n).toNat := by simp [unInt, zig, hneg]
    have HZ := Lib.hid hz
    clear hz
    go_enter Tryd.func41, Tryd.ntmps41
    go_wp2_with (go_at_call 65; refine (uint_int _ (by omega) (by omega) _).mono ?_; rintro e w' ⟨A, c, rfl, hc, hm, hz, hr, hb⟩)
    go_ret
    rw [HZ.out]
    exact ⟨A, c, rfl, hc, hm, hz, hr, hb⟩

set_option maxHeartbeats 400000 in
set_option maxRecDepth 100000 in
theorem join_any (P : Option Addr) (c : Nat) (parts : List (List UInt8)) (w : World) (hp : Parts w P parts) (hn : parts.length ≤ 65536) (hs : parts.flatten.length ≤ 140737488355328) :
    Calls Tryd.prog 39 #[.slice P parts.length c] w (Ret parts.flatten w) := by
  obtain ⟨i0, hi, hz0, hz1, hz2⟩ := info_parts info_byte
  have HP := Lib.hid hp
  clear hp
  go_enter Tryd.func39, Tryd.ntmps39
  go_wp2
  go_loop [3, 11] (fun s i => ∃ k : Nat, k ≤ parts.length ∧ i = .int .i64 k ∧ s = .int .i64 (flen parts k)) (fun _ i => parts.length - (intOf i).toNat)
  case atStart => exact ⟨0, Nat.zero_le _, rfl, rfl⟩
  case round =>
    obtain ⟨k, hk, rfl, rfl⟩ := hrel
    have hle := flen_le parts k
    by_cases hlt : k < parts.length
    · have hle1 := flen_le parts (k + 1)
      have hstep := flen_succ parts k hlt
      obtain ⟨b, o, A, cc, rfl, hbl, hc, hnil, hr⟩ := HP.out k hlt
      have HS := Lib.hid hstep
      have hle2 : flen parts k + parts[k].length ≤ 140737488355328 := by omega
      clear hstep hle1
      go_wp2
      go_round
      case rel => exact ⟨k + 1, by omega, by go_num, by rw [HS.out]; go_num⟩
      case measure => simp [intOf]; omega
    · have hkl : k = parts.length := by omega
      subst hkl
      clear hlt hk
      go_wp2_with (at_make; refine wpList_make_own _ rfl _ _ 24 rfl w.heap.size 5 i0 (.int .u8 0) 1 Tryd.underlying24 hi hz0 hz1 .i64 .i64 _ (flen parts parts.length) rfl rfl rfl (by rw [hz2]; omega) (by unfold maxLen; omega) (Nat.le_refl _) ?_; intro w1 hown1 hgrow1)
      have hb1 : Below w.heap.size w w1 := (Below.refl _ _).grown hgrow1 (Nat.le_refl _) (fun _ h => by cases h)
      clear hgrow1
      go_loopw [6, 24] (fun v i wr => ∃ (k : Nat), k ≤ parts.length ∧ i = .int .i64 k ∧ (∃ n, wr.ownsRow w.heap.size 5 1 v n (bvs (parts.take k).flatten)) ∧ Below w.heap.size w wr) (fun _ i _ => parts.length - (intOf i).toNat)
      case atStart => exact ⟨0, Nat.zero_le _, rfl, ⟨_, hown1⟩, hb1⟩
      case round =>
        clear hown1 hb1
        obtain ⟨k, hk, rfl, ⟨n, hown⟩, hb⟩ := hrel
        have hbs := hb.size
        by_cases hlt : k < parts.length
        · have hle1 := flen_le parts (k + 1)
          have hstep := flen_succ parts k hlt
          have hle2 : flen parts k + parts[k].length ≤ 140737488355328 := by omega
          have hl2 : (parts.take k).flatten.length + parts[k].length ≤ 140737488355328 := hle2
          have HL2 := Lib.hid hl2
          clear hl2 hle1 hle2 hstep
          have HS := Lib.hid (flatten_take_succ parts k hlt)
          obtain ⟨b, o, A, cc, rfl, hbl, hc, hnil, hr⟩ := (HP.out.below hb) k hlt
          have HN := Lib.hid hnil
          clear hnil
          go_wp2_with (at_builtin; refine append_rd _ rfl _ _ 24 rfl w.heap.size 5 i0 (.int .u8 0) Tryd.underlying24 hi hz0 hz1 hz2 rfl _ _ _ rfl hown _ _ _ _ _ parts[k] rfl rfl HN.out hr HL2.out hbs ?_; intro v' w2 hown' hgrow)
          have hb' : Below w.heap.size w w2 := hb.grown hgrow hbs (fun g hg => (hown.lt g hg).1)
          clear hown hgrow hb hr hc
          rw [← HS.out] at hown'
          go_wp2
          go_roundw
          case rel => exact ⟨k + 1, by omega, by go_num, ⟨_, hown'⟩, hb'⟩
          case measure => simp [intOf]; omega
        · have hkl : k = parts.length := by omega
          subst hkl
          rw [List.take_length] at hown
          go_wp2
          go_ret
          exact Ret.own hown hb

set_option maxRecDepth 100000 in
theorem text_any (s : ByteArray) (hs : s.size ≤ 140737488355318) (w : World) :
    Calls Tryd.prog 40 #[.string s] w (Ret (unText s.data.toList) w) := by
  have hcv := fun W => run_bytes_of_string (P := Tryd.prog) W 9 24 5 s Tryd.underlying9 Tryd.underlying24 Tryd.underlying5
  go_enter Tryd.func40, Tryd.ntmps40
  go_wp2_with (go_at_call 65; refine (uint_int _ (by omega) (by omega) _).mono ?_; rintro e w1 ⟨A, c, rfl, hc, hm, hz, hr, hb⟩)
  have e0 : ((s.size : Int)).toNat = s.size := Int.toNat_natCast _
  rw [e0] at hr
  have hl := un_ten (n := s.size) (by omega)
  have hdl : s.data.toList.length = s.size := rfl
  have hb2 : Below w.heap.size w (((w1.alloc (.cells (bytesRow s (grownCap w1 s.size 0 5)) 5 ((bytesRow s (grownCap w1 s.size 0 5)).size, (bytesRow s (grownCap w1 s.size 0 5)).size + 1))).alloc (.cells #[.slice A (un s.size).length c, .slice (some ⟨w1.heap.size, 0, none⟩) s.size (grownCap w1 s.size 0 5)] 24)).drew) :=
    ((hb.alloc hb.size _).alloc (by have := hb.size; simp; omega) _).drew
  refine (join_any _ 2 [un s.size, s.data.toList] _ (Parts.text w1 _ _ s _ _ _ A c _ hz hr) (by simp) (by simp only [List.flatten_cons, List.flatten_nil, List.length_append, List.length_nil]; omega)).mono ?_
  rintro e w2 ⟨A2, c2, rfl, h1, h0, h2, h3, h4⟩
  have hsz := hb2.size
  have hb3 : Below w.heap.size w w2 := hb2.trans (h4.mono hsz)
  have h5 := h3.wide hsz (Nat.le_refl _)
  clear h3 h4 hb2 hb hr hcv
  go_wp2
  go_ret
  have e1 : [un s.size, s.data.toList].flatten = unText s.data.toList := by simp only [unText, hdl, List.flatten_cons, List.flatten_nil, List.append_nil]
  rw [e1] at h1 h5
  exact Ret.of (by simp only [unText, List.length_append, hdl]) h1 h0 h2 h5 hb3

/-- Join of two that were built into one slice. -/
theorem join_pair (w : World) (A1 A2 : Option Addr) (c1 c2 : Nat) (l1 l2 L : List UInt8) (hL : L = l1 ++ l2) (z1 : A1 = none → c1 = 0) (z2 : A2 = none → c2 = 0) (h1 : Rd w 0 w.heap.size A1 l1) (h2 : Rd w 0 w.heap.size A2 l2) (hs : L.length ≤ 140737488355328) :
    Calls Tryd.prog 39 #[.slice (some ⟨w.heap.size, 0, none⟩) 2 2] (w.alloc (.cells #[.slice A1 l1.length c1, .slice A2 l2.length c2] 24)) (Ret L w) := by
  have hf : [l1, l2].flatten = L := by rw [hL]; simp
  have h := join_any (some ⟨w.heap.size, 0, none⟩) 2 [l1, l2] (w.alloc (.cells #[.slice A1 l1.length c1, .slice A2 l2.length c2] 24)) (Parts.pair w 24 A1 A2 c1 c2 l1 l2 z1 z2 h1 h2) (by simp) (by rw [hf]; exact hs)
  rw [hf] at h
  refine h.mono fun e w' ⟨A, c, he, hc, hm, hz, hr, hb⟩ => ⟨A, c, he, hc, hm, hz, hr.wide (by simp) (Nat.le_refl _), ?_⟩
  exact ((Below.refl _ w).alloc (Nat.le_refl _) _).trans (hb.mono (by simp))

end Go.Proofs.YtepniiaojhiogaaDoor
