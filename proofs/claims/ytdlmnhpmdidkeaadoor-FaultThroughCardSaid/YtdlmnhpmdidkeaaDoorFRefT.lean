/-
  Same of the document's own answers, of two slices that read alike; the digits of a number; and the text of an error, plainly.
-/
import Derived.Test.YtdlmnhpmdidkeaaDoorFRef
import Derived.Test.YtdlmnhpmdidkeaaDoorBase
namespace Go.Proofs.YtdlmnhpmdidkeaaDoor
open Go.RowKit

theorem below_drewN' (w : World) (n : Nat) : Below w.heap.size w (w.drewN n) := ⟨rfl, rfl, rfl, Nat.le_refl _, fun _ _ => rfl⟩

set_option maxHeartbeats 1000000 in
theorem same_same (A1 A2 : Option Addr) (n1 n2 c1 c2 lo1 hi1 lo2 hi2 : Nat) (l : List ByteArray) (w : World) (e1 : n1 = l.length) (e2 : n2 = l.length) (h1 : RowS w lo1 hi1 A1 l) (h2 : RowS w lo2 hi2 A2 l) (hl : l.length ≤ 2000000) :
    Calls Tryd.prog 14 #[.slice A1 n1 c1, .slice A2 n2 c2] w fun r w' => r = .returned (.bool true) ∧ Below w.heap.size w w' := by
  subst e1 e2
  have H1 := Lib.hid h1
  have H2 := Lib.hid h2
  clear h1 h2
  go_enter Tryd.func14, Tryd.ntmps14
  go_wp2
  go_loopg [13] l.length (fun k i wr => ∃ j m : Nat, j + k = l.length ∧ i = .int .i64 j ∧ wr = w.drewN m)
  case atStart => exact ⟨0, 0, by omega, rfl, rfl⟩
  case round =>
    obtain ⟨j, m, hk, rfl, rfl⟩ := hrel
    have HK := Lib.hid hk
    by_cases hj : j < l.length
    · have hlt : decide ((j : Int) < (l.length : Int)) = true := by simpa using hj
      obtain ⟨b, o, rfl, d1⟩ := H1.out.at_ hj
      obtain ⟨b', o', rfl, d2⟩ := H2.out.at_ hj
      clear hk
      go_wp2
      go_region
      all_goals
        go_wp2
        go_roundg (gk - 1)
        case measure => have := HK.out; omega
        case rel => exact ⟨j + 1, m + 1, by have := HK.out; omega, by go_num, rfl⟩
    · have hlt : decide ((j : Int) < (l.length : Int)) = false := by simpa using hj
      clear hk
      go_wp2
      go_ret
      exact ⟨rfl, below_drewN' w m⟩

theorem ba_append (a b : List UInt8) : (⟨a.toArray⟩ : ByteArray) ++ ⟨b.toArray⟩ = ⟨(a ++ b).toArray⟩ := by
  apply ByteArray.ext
  simp

theorem conv_one (w : World) (b : UInt8) : (convert 85 9 (.slice (some ⟨w.heap.size, 0, none⟩) 1 1)).run Tryd.prog (w.alloc (.cells #[.int .u8 (b.toNat : Int)] 5)) = .ok (.string ⟨#[b]⟩) (w.alloc (.cells #[.int .u8 (b.toNat : Int)] 5)) :=
  conv_rd (m := [b]) 85 9 5 Tryd.underlying85 Tryd.underlying5 Tryd.underlying9 rfl (Rd.one w 5 _ b rfl)

theorem dig_byte (n : Nat) : ((UInt8.ofNat (48 + n % 10)).toNat : Int) = 48 + (n : Int) % 10 := by
  have : (UInt8.ofNat (48 + n % 10)).toNat = 48 + n % 10 := by
    rw [UInt8.toNat_ofNat']; omega
  rw [this]; omega

set_option maxRecDepth 100000 in
set_option maxHeartbeats 1000000 in
theorem digits_nat (n : Nat) : ∀ (w : World), n ≤ 2147483648 → Calls Tryd.prog 36 #[.int .i64 (n : Int)] w fun r w' => r = .returned (.string ⟨(Lib.decDigits n).toArray⟩) ∧ Below w.heap.size w w' := by
  induction n using Nat.strongRecOn with
  | _ n ih =>
    intro w hn
    have hc := conv_one w (UInt8.ofNat (48 + n % 10))
    rw [dig_byte] at hc
    by_cases h : n < 10
    · have hd : Lib.decDigits n = [UInt8.ofNat (48 + n % 10)] := by rw [Lib.decDigits, dif_pos h, Nat.mod_eq_of_lt h]
      generalize UInt8.ofNat (48 + n % 10) = bt at hc hd
      have HD := Lib.hid hd
      clear ih hd
      go_enter Tryd.func36, Tryd.ntmps36
      go_wp2
      go_ret
      exact ⟨by rw [HD.out]; rfl, (Below.refl _ w).alloc (Nat.le_refl _) _⟩
    · have hd : Lib.decDigits n = Lib.decDigits (n / 10) ++ [UInt8.ofNat (48 + n % 10)] := by rw [Lib.decDigits, dif_neg h]
      generalize UInt8.ofNat (48 + n % 10) = bt at hc hd
      have HD := Lib.hid hd
      have IH := Lib.hid (ih (n / 10) (by omega) (w.alloc (.cells #[.int .u8 (48 + (n : Int) % 10)] 5)) (by omega))
      have hl := decDigits_le (n / 10)
      clear ih hd
      go_enter Tryd.func36, Tryd.ntmps36
      go_wp2_with fail
      rw [show ((n : Int) / 10) = ((n / 10 : Nat) : Int) from by omega]
      refine (IH.out).mono ?_
      rintro r w2 ⟨rfl, b2⟩
      have B2 := Lib.hid b2
      clear b2 IH
      go_wp2_with fail
      go_ret
      refine ⟨?_, ((Below.refl _ w).alloc (Nat.le_refl _) _).trans (B2.out.mono (by simp))⟩
      rw [HD.out, ← ba_append]
      rfl

set_option maxRecDepth 100000 in
theorem digits_any (n : Int) (w : World) (h0 : -2147483648 ≤ n) (h1 : n ≤ 2147483647) : Calls Tryd.prog 36 #[.int .i64 n] w fun r w' => r = .returned (.string ⟨(Lib.itoa n).toArray⟩) ∧ Below w.heap.size w w' := by
  by_cases h : n < 0
  · have hd : Lib.itoa n = 45 :: Lib.decDigits n.natAbs := by rw [Lib.itoa, if_pos h]
    have HD := Lib.hid hd
    have IH := Lib.hid (digits_nat n.natAbs w (by omega))
    have hl := decDigits_le n.natAbs
    clear hd
    go_enter Tryd.func36, Tryd.ntmps36
    go_wp2_with fail
    rw [show (-n : Int) = ((n.natAbs : Nat) : Int) from by omega]
    refine (IH.out).mono ?_
    rintro r w2 ⟨rfl, b2⟩
    have B2 := Lib.hid b2
    clear b2 IH
    go_wp2_with fail
    go_ret
    refine ⟨?_, B2.out⟩
    rw [HD.out, show (45 :: Lib.decDigits n.natAbs) = [45] ++ Lib.decDigits n.natAbs from rfl, ← ba_append]
    rfl
  · have hd : Lib.itoa n = Lib.decDigits n.toNat := by rw [Lib.itoa, if_neg h]
    rw [hd]
    have := digits_nat n.toNat w (by omega)
    rwa [show ((n.toNat : Nat) : Int) = n from by omega] at this

/-- The first k places, each with a colon and a blank. -/
def pre (ps : List ByteArray) (k : Nat) : List UInt8 := ((ps.take k).map fun p => p.data.toList ++ [58, 32]).flatten

theorem pre_succ (ps : List ByteArray) (k : Nat) (h : k < ps.length) : pre ps (k + 1) = pre ps k ++ (ps[k].data.toList ++ [58, 32]) := by
  unfold pre
  rw [List.take_succ_eq_append_getElem h, List.map_append, List.flatten_append]
  simp only [List.map_cons, List.map_nil, List.flatten_cons, List.flatten_nil, List.append_nil]
theorem pre_le (ps : List ByteArray) (k : Nat) : (pre ps k).length ≤ (pre ps ps.length).length := by
  unfold pre
  rw [List.take_length]
  have h : ps = ps.take k ++ ps.drop k := (List.take_append_drop k ps).symm
  have h2 : ((ps.map fun p => p.data.toList ++ [58, 32]).flatten).length = (((ps.take k).map fun p => p.data.toList ++ [58, 32]).flatten).length + (((ps.drop k).map fun p => p.data.toList ++ [58, 32]).flatten).length := by
    rw [← List.length_append, ← List.flatten_append, ← List.map_append, List.take_append_drop]
  omega

theorem join_snoc (l : List (List UInt8)) (x sep : List UInt8) : Lib.join (l ++ [x]) sep = (l.map (· ++ sep)).flatten ++ x := by
  induction l with
  | nil => simp [Lib.join_one]
  | cons a l ih =>
    unfold Lib.join at *
    rcases l with _ | ⟨b, l⟩
    · simp [List.intercalate]
    · simp only [List.cons_append, List.map_cons, List.flatten_cons] at ih ⊢
      rw [show List.intercalate sep (a :: b :: (l ++ [x])) = a ++ sep ++ List.intercalate sep (b :: (l ++ [x])) from by simp [List.intercalate], ih]
      simp

theorem text_pre (e : End) (ps : List ByteArray) : textOf e ps = pre ps ps.length ++ whatOf e := by
  unfold textOf pre
  rw [join_snoc, List.take_length, List.map_map]
  rfl

theorem text_cons (e : End) (p : ByteArray) (ps : List ByteArray) : textOf e (p :: ps) = p.data.toList ++ [58, 32] ++ textOf e ps := by
  rw [text_pre, text_pre]
  unfold pre
  simp

theorem refText_none (A : Option Addr) (n c : Nat) (k : Int) (q : Bool) (x y : ByteArray) (w : World) :
    Calls Tryd.prog 17 #[.agg #[.bool false, .slice A n c, .int .i64 k, .bool q, .string x, .string y]] w fun r w' => r = .returned (.string ⟨#[]⟩) ∧ Below w.heap.size w w' := by
  go_enter Tryd.func17, Tryd.ntmps17
  go_wp2
  go_ret
  exact ⟨rfl, (Below.refl _ w).alloc (Nat.le_refl _) _⟩

theorem ba_eq (s : ByteArray) : s = ⟨s.data.toList.toArray⟩ := by cases s; simp

set_option maxRecDepth 100000 in
set_option maxHeartbeats 1000000 in
theorem refText_any (e : End) (ps : List ByteArray) (A : Option Addr) (n c : Nat) (x y : ByteArray) (lo hi : Nat) (w : World) (hn : n = ps.length) (hr : RowS w lo hi A ps) (hhi : hi ≤ w.heap.size) (hps : ps.length ≤ 1000000) (hlen : (pre ps ps.length).length ≤ 1000000)
    (h0 : -2147483648 ≤ codeOf e) (h1 : codeOf e ≤ 2147483647) :
    Calls Tryd.prog 17 #[.agg #[.bool true, .slice A n c, .int .i64 (codeOf e), .bool (needOf e).2.2, .string x, .string y]] w fun r w' => r = .returned (.string ⟨(textOf e ps).toArray⟩) ∧ Below w.heap.size w w' := by
  subst hn
  have HR := Lib.hid (hr.below ((Below.refl _ w).alloc (Nat.le_refl _) (.cells #[.bool true, .slice A ps.length c, .int .i64 (codeOf e), .bool (needOf e).2.2, .string x, .string y] 33)) hhi)
  clear hr
  go_enter Tryd.func17, Tryd.ntmps17
  go_wp2
  go_loopg [3, 12] ps.length (fun k s i wr => ∃ j : Nat, j + k = ps.length ∧ i = .int .i64 j ∧ s = .string ⟨(pre ps j).toArray⟩ ∧ wr = w.alloc (.cells #[.bool true, .slice A ps.length c, .int .i64 (codeOf e), .bool (needOf e).2.2, .string x, .string y] 33))
  case atStart => exact ⟨0, by omega, rfl, rfl, rfl⟩
  case round =>
    obtain ⟨j, hk, rfl, rfl, rfl⟩ := hrel
    have HK := Lib.hid hk
    have hpl := pre_le ps j
    by_cases hj : j < ps.length
    · have hlt : decide ((j : Int) < (ps.length : Int)) = true := by simpa using hj
      obtain ⟨b, o, rfl, d1⟩ := HR.out.at_ hj
      have hpl' := pre_le ps (j + 1)
      have HS := pre_succ ps j hj
      have hsl : ps[j].size + 2 ≤ 1000000 := by
        have e1 : ps[j].data.toList.length = ps[j].size := rfl
        rw [HS] at hpl'
        simp only [List.length_append, e1, List.length_cons, List.length_nil] at hpl'
        omega
      generalize ps[j] = pj at d1 HS hsl
      have HS' := Lib.hid HS
      clear hk HS hpl'
      go_wp2
      go_roundg (gk - 1)
      case measure => have := HK.out; omega
      case rel =>
        refine ⟨j + 1, by have := HK.out; omega, by go_num, ?_, rfl⟩
        rw [HS'.out]
        rw [← ba_append, ← ba_append, ← ba_eq]
    · have hj' : j = ps.length := by have := HK.out; omega
      have hlt : decide ((j : Int) < (ps.length : Int)) = false := by simpa using hj
      subst hj'
      clear hk
      have hil := itoa_le _ h0 h1
      by_cases hq : (needOf e).2.2 = true
      · have hw : textOf e ps = pre ps ps.length ++ [110, 101, 101, 100] := by
          rw [text_pre]
          congr 1
          rcases e with _ | n | ⟨a, b⟩
          · cases hq
          · cases hq
          · rfl
        have HW := Lib.hid hw
        clear hw
        go_wp2
        go_ret
        refine ⟨?_, (Below.refl _ w).alloc (Nat.le_refl _) _⟩
        rw [HW.out, ← ba_append]
        rfl
      · have hq : (needOf e).2.2 = false := by simpa using hq
        have hw : textOf e ps = pre ps ps.length ++ [101, 114, 114, 111, 114, 32] ++ Lib.itoa (codeOf e) := by
          rw [text_pre, List.append_assoc]
          congr 1
          rcases e with _ | n | ⟨a, b⟩
          · rfl
          · rfl
          · cases hq
        have HW := Lib.hid hw
        clear hw
        go_wp2_with fail
        refine (digits_any _ _ h0 h1).mono ?_
        rintro r w2 ⟨rfl, b2⟩
        have B2 := Lib.hid (((Below.refl _ w).alloc (Nat.le_refl _) _).trans (b2.mono (by simp)))
        clear b2
        go_wp2_with fail
        go_ret
        refine ⟨?_, B2.out⟩
        rw [HW.out, ← ba_append, ← ba_append]
        rfl
end Go.Proofs.YtdlmnhpmdidkeaaDoor
