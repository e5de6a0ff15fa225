/-
  The walk of PackBack.
-/
import Derived.Test.YtfobiojeekcgeaaArgs
import Derived.Test.YtfobiojeekcgeaaBack
namespace Go.Proofs.Ytfobiojeekcgeaa.packBack
open Go.RowKit

/-- The first k parts together, and the others together. -/
def pre (PP : List (List UInt8)) (k : Nat) : List UInt8 := (PP.take k).flatten
def rest (PP : List (List UInt8)) (k : Nat) : List UInt8 := (PP.drop k).flatten
theorem pre_succ (PP : List (List UInt8)) (k : Nat) (h : k < PP.length) : pre PP (k + 1) = pre PP k ++ PP[k] := flatten_take_succ PP k h
theorem rest_succ (PP : List (List UInt8)) (k : Nat) (h : k < PP.length) : rest PP k = PP[k] ++ rest PP (k + 1) := by
  unfold rest; rw [List.drop_eq_getElem_cons h, List.flatten_cons]
theorem pre_all (PP : List (List UInt8)) : pre PP PP.length = rest PP 0 := by simp [pre, rest]
theorem rest_all (PP : List (List UInt8)) : rest PP PP.length = [] := by simp [rest]

/-- The buffer so far: it reads as l, and nothing that was there has changed. -/
def Buf (w : World) (l : List UInt8) (v : Value) (wr : World) : Prop :=
  ∃ A c, v = .slice A l.length c ∧ l.length ≤ c ∧ c ≤ maxLen ∧ (A = none → c = 0) ∧ Rd wr 0 wr.heap.size A l ∧ Below w.heap.size w wr

set_option maxHeartbeats 4000000 in
set_option maxRecDepth 100000 in
theorem core (A0 A1 A2 : Option Addr) (c0 c1 c2 : Nat) (ns ms : List Int) (ss : List ByteArray) (PP : List (List UInt8)) (w : World)
    (hn : ns.length ≤ 200) (hm : ms.length ≤ 200) (hs : ss.length ≤ 200) (hl : PP.length = ns.length + ms.length + ss.length)
    (hp0 : ∀ k (h : k < ns.length) (h' : k < PP.length), PP[k] = un (ns[k]).toNat) (hp1 : ∀ k (h : k < ms.length) (h' : ns.length + k < PP.length), PP[ns.length + k] = unInt ms[k])
    (hp2 : ∀ k (h : k < ss.length) (h' : ns.length + ms.length + k < PP.length), PP[ns.length + ms.length + k] = unText (ss[k]).data.toList)
    (b0 : ∀ k (h : k < ns.length), 0 ≤ ns[k] ∧ ns[k] ≤ 18446744073709551615) (b1 : ∀ k (h : k < ms.length), -9223372036854775808 ≤ ms[k] ∧ ms[k] ≤ 9223372036854775807) (b2 : ∀ k (h : k < ss.length), (ss[k]).size ≤ 9223372036854775807)
    (r0 : RowV w w.heap.size A0 (ns.map (Value.int .u64))) (r1 : RowV w w.heap.size A1 (ms.map (Value.int .i64))) (r2 : RowV w w.heap.size A2 (ss.map Value.string)) :
    Calls Try.prog 5 #[.slice A0 ns.length c0, .slice A1 ms.length c1, .slice A2 ss.length c2] w fun e w' => e = .returned (.bool true) ∧ Below w.heap.size w w' := by
  have HL := Lib.hid hl
  have HP0 := Lib.hid hp0
  have HP1 := Lib.hid hp1
  have HP2 := Lib.hid hp2
  have HB0 := Lib.hid b0
  have HB1 := Lib.hid b1
  have HB2 := Lib.hid b2
  have HR0 := Lib.hid r0
  have HR1 := Lib.hid r1
  have HR2 := Lib.hid r2
  clear hl hp0 hp1 hp2 b0 b1 b2 r0 r1 r2
  go_enter Try.func5, Try.ntmps5
  go_wp2_with fail
  refine (live_any _).mono ?_
  rintro e w1 ⟨rfl, hb1⟩
  go_wp2_with fail
  go_loopw [7, 41] (fun v i wr => ∃ (k : Nat) (l : List UInt8), k ≤ ns.length ∧ i = .int .i64 k ∧ l = pre PP (k) ∧ l.length ≤ 1010 * (k) ∧ Buf w l v wr) (fun _ i _ => ns.length - (intOf i).toNat)
  case atStart => exact ⟨0, [], Nat.zero_le _, rfl, rfl, by simp, ⟨none, 0, rfl, by simp, Nat.zero_le _, fun _ => rfl, Rd.nil_, hb1⟩⟩
  case round =>
    clear hb1 w1
    obtain ⟨k, l, hk, rfl, hpre, hll, A, c, rfl, hc, hcm, hz, hr, hb⟩ := hrel
    have HPre := Lib.hid hpre
    clear hpre
    by_cases hlt : k < ns.length
    · obtain ⟨b, o, rfl, hcell⟩ := (HR0.out.below hb (Nat.le_refl _)).at_ (k := k) (by simpa using hlt)
      rw [List.getElem_map] at hcell
      have hx := HB0.out k hlt
      have hpk := HP0.out k hlt (by have := HL.out; omega)
      have hps := pre_succ PP (k) (by have := HL.out; omega)
      rw [hpk, ← HPre.out] at hps
      generalize ns[k] = x at *
      have HPS := Lib.hid hps
      clear hpk hps
      have hx10 : (un x.toNat).length ≤ 1010 := by have h1 := un_ten (n := x.toNat) (by omega); omega
      go_wp2_with fail
      refine (uint_int x hx.1 hx.2 _).mono ?_
      rintro e w1 ⟨A1', c1', rfl, _, _, z1, hr1, hb1⟩
      have HJ := Lib.hid (join_pair w1 A A1' c c1' l (un x.toNat) (pre PP (k + 1)) HPS.out hz z1 ((hr.below hb1 (Nat.le_refl _)).wide (Nat.le_refl _) hb1.size) (hr1.wide (Nat.zero_le _) (Nat.le_refl _)) (by rw [HPS.out, List.length_append]; omega))
      have hb2 : Below w.heap.size w w1 := hb.trans (hb1.mono hb.size)
      clear hb1 hr1 hr hz z1 hb hcell
      go_wp2_with fail
      refine HJ.out.mono ?_
      rintro e w2 ⟨A2', c2', rfl, hc2, hcm2, z2, hr2, hb3⟩
      have hbuf : Buf w (pre PP (k + 1)) (.slice A2' (pre PP (k + 1)).length c2') w2 := ⟨A2', c2', rfl, hc2, hcm2, z2, hr2.wide (Nat.zero_le _) (Nat.le_refl _), hb2.trans (hb3.mono hb2.size)⟩
      have hlen : (pre PP (k + 1)).length ≤ 1010 * (k + 1) := by rw [HPS.out, List.length_append]; omega
      have HBuf := Lib.hid hbuf
      have HLen := Lib.hid hlen
      clear hbuf hlen hr2 hb2 hb3 HJ z2 hc2 hcm2
      go_wp2
      go_roundw
      case rel => exact ⟨k + 1, _, by omega, by go_num, rfl, HLen.out, HBuf.out⟩
      case measure => simp [intOf]; omega
    · have hkn : k = ns.length := by omega
      subst hkn
      clear hlt hk
      go_wp2_with fail
      go_loopw [7, 53] (fun v i wr => ∃ (k : Nat) (l : List UInt8), k ≤ ms.length ∧ i = .int .i64 k ∧ l = pre PP (ns.length + k) ∧ l.length ≤ 1010 * (ns.length + k) ∧ Buf w l v wr) (fun _ i _ => ms.length - (intOf i).toNat)
      case atStart => exact ⟨0, l, Nat.zero_le _, rfl, HPre.out, hll, ⟨A, c, rfl, hc, hcm, hz, hr, hb⟩⟩
      case round =>
        clear hc hcm hz hr hb hll HPre
        obtain ⟨k, l, hk, rfl, hpre, hll, A, c, rfl, hc, hcm, hz, hr, hb⟩ := hrel
        have HPre := Lib.hid hpre
        clear hpre
        by_cases hlt : k < ms.length
        · obtain ⟨b, o, rfl, hcell⟩ := (HR1.out.below hb (Nat.le_refl _)).at_ (k := k) (by simpa using hlt)
          rw [List.getElem_map] at hcell
          have hx := HB1.out k hlt
          have hpk := HP1.out k hlt (by have := HL.out; omega)
          have hps := pre_succ PP (ns.length + k) (by have := HL.out; omega)
          rw [hpk, ← HPre.out] at hps
          generalize ms[k] = x at *
          have HPS := Lib.hid hps
          clear hpk hps
          have hx10 : (unInt x).length ≤ 1010 := by have h1 := un_ten (zig_lt x hx.1 hx.2); unfold unInt; omega
          go_wp2_with fail
          refine (int_any x hx.1 hx.2 _).mono ?_
          rintro e w1 ⟨A1', c1', rfl, _, _, z1, hr1, hb1⟩
          have HJ := Lib.hid (join_pair w1 A A1' c c1' l (unInt x) (pre PP (ns.length + k + 1)) HPS.out hz z1 ((hr.below hb1 (Nat.le_refl _)).wide (Nat.le_refl _) hb1.size) (hr1.wide (Nat.zero_le _) (Nat.le_refl _)) (by rw [HPS.out, List.length_append]; omega))
          have hb2 : Below w.heap.size w w1 := hb.trans (hb1.mono hb.size)
          clear hb1 hr1 hr hz z1 hb hcell
          go_wp2_with fail
          refine HJ.out.mono ?_
          rintro e w2 ⟨A2', c2', rfl, hc2, hcm2, z2, hr2, hb3⟩
          have hbuf : Buf w (pre PP (ns.length + k + 1)) (.slice A2' (pre PP (ns.length + k + 1)).length c2') w2 := ⟨A2', c2', rfl, hc2, hcm2, z2, hr2.wide (Nat.zero_le _) (Nat.le_refl _), hb2.trans (hb3.mono hb2.size)⟩
          have hlen : (pre PP (ns.length + k + 1)).length ≤ 1010 * (ns.length + k + 1) := by rw [HPS.out, List.length_append]; omega
          have HBuf := Lib.hid hbuf
          have HLen := Lib.hid hlen
          clear hbuf hlen hr2 hb2 hb3 HJ z2 hc2 hcm2
          go_wp2
          go_roundw
          case rel => exact ⟨k + 1, _, by omega, by go_num, by rw [Nat.add_assoc], HLen.out, HBuf.out⟩
          case measure => simp [intOf]; omega
        · have hkn : k = ms.length := by omega
          subst hkn
          clear hlt hk
          go_wp2_with fail
          go_loopw [7, 65] (fun v i wr => ∃ (k : Nat) (l : List UInt8), k ≤ ss.length ∧ i = .int .i64 k ∧ l = pre PP (ns.length + ms.length + k) ∧ l.length ≤ 1010 * (ns.length + ms.length + k) ∧ Buf w l v wr) (fun _ i _ => ss.length - (intOf i).toNat)
          case atStart => exact ⟨0, l, Nat.zero_le _, rfl, HPre.out, hll, ⟨A, c, rfl, hc, hcm, hz, hr, hb⟩⟩
          case round =>
            clear hc hcm hz hr hb hll HPre
            obtain ⟨k, l, hk, rfl, hpre, hll, A, c, rfl, hc, hcm, hz, hr, hb⟩ := hrel
            have HPre := Lib.hid hpre
            clear hpre
            by_cases hlt : k < ss.length
            · obtain ⟨b, o, rfl, hcell⟩ := (HR2.out.below hb (Nat.le_refl _)).at_ (k := k) (by simpa using hlt)
              rw [List.getElem_map] at hcell
              have hx := HB2.out k hlt
              have hpk := HP2.out k hlt (by have := HL.out; omega)
              have hps := pre_succ PP (ns.length + ms.length + k) (by have := HL.out; omega)
              rw [hpk, ← HPre.out] at hps
              generalize ss[k] = x at *
              have HPS := Lib.hid hps
              clear hpk hps
              by_cases hbig : 1000 < x.size
              · clear hr HPS
                go_wp2
                go_ret
                exact ⟨rfl, hb⟩
              have hsm : x.size ≤ 1000 := by omega
              clear hbig
              have hx10 : (unText x.data.toList).length ≤ 1010 := by have h1 := un_ten (n := x.data.toList.length) (by show x.size < _; omega); have h2 : x.data.toList.length = x.size := rfl; simp only [unText, List.length_append]; omega
              go_wp2_with fail
              refine (text_any x (by omega) _).mono ?_
              rintro e w1 ⟨A1', c1', rfl, _, _, z1, hr1, hb1⟩
              have HJ := Lib.hid (join_pair w1 A A1' c c1' l (unText x.data.toList) (pre PP (ns.length + ms.length + k + 1)) HPS.out hz z1 ((hr.below hb1 (Nat.le_refl _)).wide (Nat.le_refl _) hb1.size) (hr1.wide (Nat.zero_le _) (Nat.le_refl _)) (by rw [HPS.out, List.length_append]; omega))
              have hb2 : Below w.heap.size w w1 := hb.trans (hb1.mono hb.size)
              clear hb1 hr1 hr hz z1 hb hcell
              go_wp2_with fail
              refine HJ.out.mono ?_
              rintro e w2 ⟨A2', c2', rfl, hc2, hcm2, z2, hr2, hb3⟩
              have hbuf : Buf w (pre PP (ns.length + ms.length + k + 1)) (.slice A2' (pre PP (ns.length + ms.length + k + 1)).length c2') w2 := ⟨A2', c2', rfl, hc2, hcm2, z2, hr2.wide (Nat.zero_le _) (Nat.le_refl _), hb2.trans (hb3.mono hb2.size)⟩
              have hlen : (pre PP (ns.length + ms.length + k + 1)).length ≤ 1010 * (ns.length + ms.length + k + 1) := by rw [HPS.out, List.length_append]; omega
              have HBuf := Lib.hid hbuf
              have HLen := Lib.hid hlen
              clear hbuf hlen hr2 hb2 hb3 HJ z2 hc2 hcm2
              go_wp2
              go_roundw
              case rel => exact ⟨k + 1, _, by omega, by go_num, by rw [Nat.add_assoc], HLen.out, HBuf.out⟩
              case measure => simp [intOf]; omega
            · have hkn : k = ss.length := by omega
              subst hkn
              clear hlt hk
              have hall : l = rest PP 0 := by rw [HPre.out, ← HL.out, pre_all]
              have HRd := Lib.hid (read_any A l c wr (by omega) hz hr)
              have HRest := Lib.hid hall
              clear hall hz hr HPre
              go_wp2_with fail
              refine HRd.out.mono ?_
              rintro e w2 ⟨g, rfl, hg, hrd, hb2⟩
              have hbw : Below w.heap.size w w2 := hb.trans (hb2.mono hb.size)
              have hgw : w.heap.size ≤ g := Nat.le_trans hb.size hg
              clear hb hb2 HRd hg
              generalize wr.heap.size = lo at hrd
              have hb := hbw
              clear hbw
              go_wp2_with fail
              go_loopw [82] (fun i wr => ∃ (k : Nat) (l : List UInt8), k ≤ ns.length ∧ i = .int .i64 k ∧ l = rest PP (k) ∧ Rdr wr lo g l 0 ∧ Below w.heap.size w wr) (fun i _ => ns.length - (intOf i).toNat)
              case atStart => exact ⟨0, l, Nat.zero_le _, rfl, HRest.out, hrd, hb⟩
              case round =>
                clear hrd hb
                obtain ⟨k, l, hk, rfl, hrest, hrd, hb⟩ := hrel
                have HRest := Lib.hid hrest
                clear hrest
                by_cases hlt : k < ns.length
                · obtain ⟨b, o, rfl, hcell⟩ := (HR0.out.below hb (Nat.le_refl _)).at_ (k := k) (by simpa using hlt)
                  rw [List.getElem_map] at hcell
                  have hx := HB0.out k hlt
                  have hpk := HP0.out k hlt (by have := HL.out; omega)
                  have hps := rest_succ PP (k) (by have := HL.out; omega)
                  rw [hpk, ← HRest.out] at hps
                  generalize ns[k] = x at *
                  have HU := Lib.hid (rUint_any g lo 0 l x wr hrd hx.1 hx.2)
                  rw [hps, uintOf_back x.toNat x.toNat _ (by omega) (Nat.le_refl _)] at HU
                  clear hpk hps hrd
                  rw [show ((x.toNat : Nat) : Int) = x from by omega] at HU
                  go_wp2_with fail
                  refine HU.out.mono ?_
                  rintro e w2 ⟨rfl, hrd2, hgr⟩
                  have hb2 : Below w.heap.size w w2 := hb.grown hgr hb.size (fun i hi => by injection hi with hi; omega)
                  clear hb hgr HU hcell
                  go_wp2
                  go_roundw
                  case rel => exact ⟨k + 1, _, by omega, by go_num, rfl, hrd2, hb2⟩
                  case measure => simp [intOf]; omega
                · have hkn : k = ns.length := by omega
                  subst hkn
                  clear hlt hk
                  go_wp2_with fail
                  go_loopw [94] (fun i wr => ∃ (k : Nat) (l : List UInt8), k ≤ ms.length ∧ i = .int .i64 k ∧ l = rest PP (ns.length + k) ∧ Rdr wr lo g l 0 ∧ Below w.heap.size w wr) (fun i _ => ms.length - (intOf i).toNat)
                  case atStart => exact ⟨0, l, Nat.zero_le _, rfl, HRest.out, hrd, hb⟩
                  case round =>
                    clear hrd hb
                    obtain ⟨k, l, hk, rfl, hrest, hrd, hb⟩ := hrel
                    have HRest := Lib.hid hrest
                    clear hrest
                    by_cases hlt : k < ms.length
                    · obtain ⟨b, o, rfl, hcell⟩ := (HR1.out.below hb (Nat.le_refl _)).at_ (k := k) (by simpa using hlt)
                      rw [List.getElem_map] at hcell
                      have hx := HB1.out k hlt
                      have hpk := HP1.out k hlt (by have := HL.out; omega)
                      have hps := rest_succ PP (ns.length + k) (by have := HL.out; omega)
                      rw [hpk, ← HRest.out] at hps
                      generalize ms[k] = x at *
                      have HU := Lib.hid (rInt_any g lo 0 l wr hrd)
                      rw [hps, unInt, uintOf_back (zig x) maxU _ (zig_lt x hx.1 hx.2) (by have := zig_lt x hx.1 hx.2; rw [maxU_eq]; omega)] at HU
                      clear hpk hps hrd
                      rw [zag_zig] at HU
                      go_wp2_with fail
                      refine HU.out.mono ?_
                      rintro e w2 ⟨rfl, hrd2, hgr⟩
                      have hb2 : Below w.heap.size w w2 := hb.grown hgr hb.size (fun i hi => by injection hi with hi; omega)
                      clear hb hgr HU hcell
                      go_wp2
                      go_roundw
                      case rel => exact ⟨k + 1, _, by omega, by go_num, by rw [Nat.add_assoc], hrd2, hb2⟩
                      case measure => simp [intOf]; omega
                    · have hkn : k = ms.length := by omega
                      subst hkn
                      clear hlt hk
                      go_wp2_with fail
                      go_loopw [105] (fun i wr => ∃ (k : Nat) (l : List UInt8), k ≤ ss.length ∧ i = .int .i64 k ∧ l = rest PP (ns.length + ms.length + k) ∧ Rdr wr lo g l 0 ∧ Below w.heap.size w wr) (fun i _ => ss.length - (intOf i).toNat)
                      case atStart => exact ⟨0, l, Nat.zero_le _, rfl, HRest.out, hrd, hb⟩
                      case round =>
                        clear hrd hb
                        obtain ⟨k, l, hk, rfl, hrest, hrd, hb⟩ := hrel
                        have HRest := Lib.hid hrest
                        clear hrest
                        by_cases hlt : k < ss.length
                        · obtain ⟨b, o, rfl, hcell⟩ := (HR2.out.below hb (Nat.le_refl _)).at_ (k := k) (by simpa using hlt)
                          rw [List.getElem_map] at hcell
                          have hx := HB2.out k hlt
                          have hpk := HP2.out k hlt (by have := HL.out; omega)
                          have hps := rest_succ PP (ns.length + ms.length + k) (by have := HL.out; omega)
                          rw [hpk, ← HRest.out] at hps
                          generalize ss[k] = x at *
                          have HU := Lib.hid (rText_any g lo 0 l (x.data.toList.length : Int) wr hrd (by omega) (by show (x.size : Int) ≤ _; omega))
                          rw [hps, textOfR_back x.data.toList _ (by show x.size < _; omega)] at HU
                          clear hpk hps hrd
                          rw [show (x.data.toList.length : Int) = (x.size : Int) from rfl, show (⟨x.data.toList.toArray⟩ : ByteArray) = x from rfl] at HU
                          go_wp2_with fail
                          refine HU.out.mono ?_
                          rintro e w2 ⟨rfl, hrd2, hgr⟩
                          have hb2 : Below w.heap.size w w2 := hb.grown hgr hb.size (fun i hi => by injection hi with hi; omega)
                          clear hb hgr HU hcell
                          go_wp2
                          go_roundw
                          case rel => exact ⟨k + 1, _, by omega, by go_num, by rw [Nat.add_assoc], hrd2, hb2⟩
                          case measure => simp [intOf]; omega
                        · have hkn : k = ss.length := by omega
                          subst hkn
                          clear hlt hk
                          have hl0 : l = [] := by rw [HRest.out, ← HL.out, rest_all]
                          subst hl0
                          have HEnd := Lib.hid (end_any g lo 0 [] wr hrd)
                          have HLeft := Lib.hid (left_any g lo 0 [] wr hrd)
                          rw [show endOf [] 0 = 0 from rfl] at HEnd
                          clear HRest hrd
                          go_wp2_with fail
                          refine HEnd.out.mono ?_
                          rintro e w5 ⟨rfl, rfl⟩
                          go_wp2_with fail
                          refine HLeft.out.mono ?_
                          rintro e w5 ⟨rfl, rfl⟩
                          go_wp2
                          go_ret
                          exact ⟨rfl, hb⟩

set_option maxHeartbeats 2000000 in
set_option maxRecDepth 100000 in
theorem walk_long (a0 a1 a2 : Option Addr) (n0 n1 n2 c0 c1 c2 : Nat) (h : 200 < n0 ∨ (n0 ≤ 200 ∧ 200 < n1) ∨ (n0 ≤ 200 ∧ n1 ≤ 200 ∧ 200 < n2)) (h0 : n0 ≤ 9223372036854775807) (h1 : n1 ≤ 9223372036854775807) (h2 : n2 ≤ 9223372036854775807) (w : World) :
    Calls Try.prog 5 #[.slice a0 n0 c0, .slice a1 n1 c1, .slice a2 n2 c2] w fun e w' => e = .returned (.bool true) ∧ Below w.heap.size w w' := by
  rcases h with h | ⟨h, h'⟩ | ⟨h, h', h''⟩
  all_goals
    go_enter Try.func5, Try.ntmps5
    go_wp2_with fail
    refine (live_any _).mono ?_
    rintro e w1 ⟨rfl, hb1⟩
    go_wp2_with fail
    refine (live_any _).mono ?_
    rintro e w2 ⟨rfl, hb2⟩
    have hb3 : Below w.heap.size w w2 := hb1.trans (hb2.mono hb1.size)
    clear hb1 hb2
    go_wp2
    go_ret
    exact ⟨rfl, hb3⟩

theorem walk (a0 : Option Addr) (len0 cap0 : Nat) (z0 : List Int) (a1 : Option Addr) (len1 cap1 : Nat) (z1 : List Int) (a2 : Option Addr) (len2 cap2 : Nat) (z2 : List ByteArray) (w : World)
    (w0 : IsRow .u64 w a0 len0 cap0 z0) (w1 : IsRow .i64 w a1 len1 cap1 z1) (w2 : IsStrs w a2 len2 cap2 z2) :
    Calls Try.prog 5 #[.slice a0 len0 cap0, .slice a1 len1 cap1, .slice a2 len2 cap2] w fun e w' => e = .returned (.bool true) ∧ Below w.heap.size w w' := by
  obtain ⟨ns, rfl, b0, m0, r0⟩ := nums_in w0
  obtain ⟨ms, rfl, b1, m1, r1⟩ := nums_in w1
  obtain ⟨ss, rfl, b2, m2, r2⟩ := strs_in w2
  unfold maxLen at m0 m1 m2
  by_cases h : ns.length ≤ 200 ∧ ms.length ≤ 200 ∧ ss.length ≤ 200
  · obtain ⟨h0, h1, h2⟩ := h
    have e0 : (ns.map fun n => un n.toNat).length = ns.length := by simp
    have e1 : (ms.map unInt).length = ms.length := by simp
    have e2 : (ss.map fun s => unText s.data.toList).length = ss.length := by simp
    refine core a0 a1 a2 cap0 cap1 cap2 ns ms ss ((ns.map fun n => un n.toNat) ++ (ms.map unInt) ++ ss.map fun s => unText s.data.toList) w h0 h1 h2 (by simp only [List.length_append, e0, e1, e2]) ?_ ?_ ?_
      (fun k h => bounds_u64 (b0 _ (List.getElem_mem h))) (fun k h => bounds_i64 (b1 _ (List.getElem_mem h))) (fun k h => by have := b2 _ (List.getElem_mem h); unfold maxLen at this; omega) r0 r1 r2
    · intro k h h'
      rw [List.getElem_append_left (by simp only [List.length_append]; omega), List.getElem_append_left (by omega), List.getElem_map]
    · intro k h h'
      rw [List.getElem_append_left (by simp only [List.length_append]; omega), List.getElem_append_right (by omega), List.getElem_map]
      simp [e0]
    · intro k h h'
      rw [List.getElem_append_right (by simp only [List.length_append]; omega), List.getElem_map]
      simp [e0, e1]
  · exact walk_long a0 a1 a2 _ _ _ cap0 cap1 cap2 (by omega) (by omega) (by omega) (by omega) w

end Go.Proofs.Ytfobiojeekcgeaa.packBack
