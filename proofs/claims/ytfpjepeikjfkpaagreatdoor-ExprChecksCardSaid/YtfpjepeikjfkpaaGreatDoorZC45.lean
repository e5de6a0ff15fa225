import Derived.Test.YtfpjepeikjfkpaaGreatDoorZC22
import Derived.BigQuiet
import Derived.Deep.QuietTactic
import Derived.Deep.LoopGhost
import Derived.RegionTactic
import Derived.Test.YtfpjepeikjfkpaaGreatDoorZC00
import Derived.Laws.NewBlocks
import Derived.IntWalk
import Derived.StillTailTactics
/-
  Same of the document's own answers, of two slices of texts that read alike, and of two that do not.
-/
namespace Go.Proofs.YtfpjepeikjfkpaaGreatDoor
open Go.RowKit

theorem below_drewN' (w : World) (n : Nat) : Below w.heap.size w (w.drewN n) := ⟨rfl, rfl, rfl, Nat.le_refl _, fun _ _ => rfl⟩

set_option maxHeartbeats 1000000 in
theorem same_same (A1 A2 : Option Addr) (n1 n2 c1 c2 lo1 hi1 lo2 hi2 : Nat) (l : List ByteArray) (w : World) (e1 : n1 = l.length) (e2 : n2 = l.length) (h1 : RowS w lo1 hi1 A1 l) (h2 : RowS w lo2 hi2 A2 l) (hl : l.length ≤ 2000000) :
    Calls Tryz.prog 12 #[.slice A1 n1 c1, .slice A2 n2 c2] w fun r w' => r = .returned (.bool true) ∧ Below w.heap.size w w' := by
  subst e1 e2
  have H1 := Lib.hid h1
  have H2 := Lib.hid h2
  clear h1 h2
  go_enter Tryz.func12, Tryz.ntmps12
  go_wp2
  go_loopg [13] l.length (fun k i wr => ∃ j m : Nat, j + k = l.length ∧ i = .int .i64 j ∧ wr = w.drewN m)
  case atStart => exact ⟨0, 0, by omega, rfl, rfl⟩
  case round =>
    obtain ⟨j, m, hk, rfl, rfl⟩ := hrel
    have HK := Lib.hid hk
    by_cases hj : j < l.length
    · have hlt : decide ((j : Int) < (l.length : Int)) = true := by simpa using hj
      obtain ⟨b, o, rfl, d1⟩ := H1.out.at_ hj
      obtain ⟨b', o', rfl, d2⟩ := H2.out.at_ hj
      clear hk
      go_wp2
      go_region
      all_goals
        go_wp2
        go_roundg (gk - 1)
        case measure => have := HK.out; omega
        case rel => exact ⟨j + 1, m + 1, by have := HK.out; omega, by go_num, rfl⟩
    · have hlt : decide ((j : Int) < (l.length : Int)) = false := by simpa using hj
      clear hk
      go_wp2
      go_ret
      exact ⟨rfl, below_drewN' w m⟩

theorem ba_append (a b : List UInt8) : (⟨a.toArray⟩ : ByteArray) ++ ⟨b.toArray⟩ = ⟨(a ++ b).toArray⟩ := by
  apply ByteArray.ext
  simp

end Go.Proofs.YtfpjepeikjfkpaaGreatDoor

/-
  The document's own answers on keys: part and Make of conductorref03.
-/
namespace Go.Proofs.YtfpjepeikjfkpaaGreatDoor
open Go.RowKit

theorem info_byteK : (Tryz.prog.info? 5).map (fun i => (i.zero, i.size, i.bytes)) = some (some (.int .u8 0), 1, 1) := by kernel_rfl
theorem infoByte : ∃ i, Tryz.prog.info? 5 = some i ∧ i.zero = some (.int .u8 0) ∧ i.size = 1 ∧ i.bytes = 1 := by
  obtain ⟨i, hi, hz⟩ := Option.map_eq_some_iff.1 info_byteK
  simp only [Prod.mk.injEq] at hz
  exact ⟨i, hi, hz.1, hz.2.1, hz.2.2⟩

/-- A new slice without elements. -/
theorem own_empty (w : World) (e : TypeId) : (w.alloc (.cells #[] e)).ownsRow w.heap.size e 1 (.slice (some ⟨w.heap.size, 0, none⟩) 0 0) 0 (bvs []) :=
  ⟨rfl, .inr ⟨w.heap.size, 0, #[], rfl, Nat.le_refl _, heap_alloc_new w _, Nat.le_refl _, by decide, rfl, rfl⟩⟩

/-- Two bytes that were built. -/
theorem Rd.two (w : World) (e : TypeId) (a b : UInt8) : Rd (w.alloc (.cells #[.int .u8 a.toNat, .int .u8 b.toNat] e)) w.heap.size (w.heap.size + 1) (some ⟨w.heap.size, 0, none⟩) [a, b] := fun _ => by
  refine ⟨w.heap.size, 0, rfl, Nat.le_refl _, by omega, fun j hj => ?_⟩
  rw [cell_of_row _ w.heap.size _ _ e (0, 0) (heap_alloc_new w _)]
  match j, hj with
  | 0, _ => rfl
  | 1, _ => rfl

theorem take_snocB (s : ByteArray) (k : Nat) (h : k < s.size) : s.data.toList.take (k + 1) = s.data.toList.take k ++ [s[k]] := by
  rw [List.take_succ_eq_append_getElem (by simpa using h)]; rfl

/-- The bytes of the first j parts. -/
def keyPre (l : List ByteArray) (j : Nat) : List UInt8 := encAll ((l.take j).map (·.data.toList))
theorem keyPre_succ (l : List ByteArray) (j : Nat) (h : j < l.length) : keyPre l (j + 1) = keyPre l j ++ encP l[j].data.toList := by
  unfold keyPre
  rw [List.take_succ_eq_append_getElem h, List.map_append, List.map_cons, List.map_nil, encAll_snoc]
theorem keyPre_len {l : List ByteArray} (hp : ∀ p ∈ l, p.size ≤ 100000) (j : Nat) : (keyPre l j).length ≤ 200002 * j := by
  induction j with
  | zero => simp [keyPre, encAll]
  | succ j ih =>
    by_cases h : j < l.length
    · rw [keyPre_succ l j h, List.length_append]
      have h1 := encP_len l[j].data.toList
      have h2 := hp _ (List.getElem_mem h)
      have h3 : l[j].data.toList.length = l[j].size := rfl
      omega
    · have e : keyPre l (j + 1) = keyPre l j := by
        unfold keyPre
        rw [List.take_of_length_le (by omega), List.take_of_length_le (by omega)]
      rw [e]
      omega
theorem ba_cat (a b : List UInt8) : (⟨a.toArray⟩ : ByteArray) ++ ⟨b.toArray⟩ = ⟨(a ++ b).toArray⟩ := by
  apply ByteArray.ext
  simp

/-- The bytes of a key. -/
def keyB (kind : UInt8) (l : List ByteArray) : List UInt8 := kind :: encAll (l.map (·.data.toList))

theorem conv_byte (w : World) (b : UInt8) (x : Int) (hx : x = (b.toNat : Int)) : (convert 152 9 (.slice (some ⟨w.heap.size, 0, none⟩) 1 1)).run Tryz.prog (w.alloc (.cells #[.int .u8 x] 5)) = .ok (.string ⟨[b].toArray⟩) (w.alloc (.cells #[.int .u8 x] 5)) :=
  conv_rd (m := [b]) 152 9 5 Tryz.underlying152 Tryz.underlying5 Tryz.underlying9 rfl (Rd.one w 5 _ b hx)

end Go.Proofs.YtfpjepeikjfkpaaGreatDoor

/-
  The document's own answers on keys: first and Parse of conductorref03.
-/
namespace Go.Proofs.YtfpjepeikjfkpaaGreatDoor
open Go.RowKit

/-- What first answers. -/
def firstV : Option (List UInt8 × List UInt8) → Value
  | some (x, r) => .tuple #[.string ⟨x.toArray⟩, .string ⟨r.toArray⟩, .bool true]
  | none => .tuple #[.string ⟨#[]⟩, .string ⟨#[]⟩, .bool false]

theorem drop_at (s : ByteArray) (k : Nat) (h : k < s.size) : s.data.toList.drop k = s[k] :: s.data.toList.drop (k + 1) := by
  rw [List.drop_eq_getElem_cons (by simpa using h)]; rfl
theorem extract_drop (s : ByteArray) (k : Nat) : s.extract k s.size = ⟨(s.data.toList.drop k).toArray⟩ := by
  apply ByteArray.ext
  rw [ByteArray.data_extract]
  apply Array.toList_inj.1
  rw [Array.toList_extract]
  show List.extract _ _ _ = _
  unfold List.extract
  have : s.data.toList.length = s.size := rfl
  rw [List.take_of_length_le (by rw [List.length_drop]; omega)]
theorem extract_take (s : ByteArray) (k : Nat) : s.extract 0 k = ⟨(s.data.toList.take k).toArray⟩ := by
  apply ByteArray.ext
  rw [ByteArray.data_extract]
  apply Array.toList_inj.1
  rw [Array.toList_extract]
  show List.extract _ _ _ = _
  unfold List.extract
  rw [List.drop_zero, Nat.sub_zero]
theorem first_short {l : List UInt8} (h : l.length ≤ 1) : firstL l = none := by
  match l, h with
  | [], _ => rfl
  | [_], _ => rfl
theorem first_bad {b : UInt8} (h1 : b ≠ 1) (h2 : b ≠ 255) (t : List UInt8) : firstL (0 :: b :: t) = none := by simp [firstL, h1, h2]
theorem u8_ne {b : UInt8} {n : Nat} (hn : n < 256) (h : b ≠ UInt8.ofNat n) : ((b.toNat : Int) == (n : Int)) = false := by
  rw [beq_eq_false_iff_ne]
  intro e
  apply h
  apply UInt8.toNat_inj.1
  rw [UInt8.toNat_ofNat']
  omega
theorem u8_eq {b : UInt8} {n : Nat} (hn : n < 256) (h : b = UInt8.ofNat n) : ((b.toNat : Int) == (n : Int)) = true := by
  rw [h, beq_iff_eq, UInt8.toNat_ofNat']
  omega

def toBA (l : List UInt8) : ByteArray := ⟨l.toArray⟩
/-- A key's kind and parts, and the error. -/
def parseL : List UInt8 → Int × List (List UInt8) × Int
  | [] => (0, [], 31)
  | c :: t => match partsL t.length t with
    | none => (0, [], 31)
    | some ps => ((c.toNat : Int), ps, 0)
theorem parseL_some {c : UInt8} {t : List UInt8} {ps : List (List UInt8)} (h : partsL t.length t = some ps) : parseL (c :: t) = ((c.toNat : Int), ps, 0) := by
  show (match partsL t.length t with | none => ((0 : Int), ([] : List (List UInt8)), (31 : Int)) | some ps => ((c.toNat : Int), ps, 0)) = _
  rw [h]
theorem parseL_none {c : UInt8} {t : List UInt8} (h : partsL t.length t = none) : parseL (c :: t) = (0, [], 31) := by
  show (match partsL t.length t with | none => ((0 : Int), ([] : List (List UInt8)), (31 : Int)) | some ps => ((c.toNat : Int), ps, 0)) = _
  rw [h]
def RetParse (L : List UInt8) (w : World) (r : Ending) (w' : World) : Prop :=
  ∃ A c, r = .returned (.tuple #[.int .u8 (parseL L).1, .slice A (parseL L).2.1.length c, .int .i64 (parseL L).2.2]) ∧ (parseL L).2.1.length ≤ c ∧ (A = none → c = 0) ∧ RowS w' w.heap.size w'.heap.size A ((parseL L).2.1.map toBA) ∧ Below w.heap.size w w'

theorem parts_step {r x m : List UInt8} (h : firstL r = some (x, m)) : partsL r.length r = (partsL m.length m).map fun l => x :: l := by
  have hl := first_len h
  cases r with
  | nil => cases h
  | cons c r =>
    show (firstL (c :: r)).bind _ = _
    rw [h]
    show (partsL r.length m).map _ = _
    rw [parts_fuel r.length (by simp at hl; omega)]
theorem parts_stop {r : List UInt8} (h : firstL r = none) (hn : r ≠ []) : partsL r.length r = none := by
  cases r with
  | nil => exact absurd rfl hn
  | cons c r =>
    show (firstL (c :: r)).bind _ = _
    rw [h]
    rfl

end Go.Proofs.YtfpjepeikjfkpaaGreatDoor

/-
  The document's own answers on keys: Parse of nothing, After, Name, Number, Digits of conductorref03.
-/
namespace Go.Proofs.YtfpjepeikjfkpaaGreatDoor
open Go.RowKit

theorem snoc_at (q : List UInt8) (c : UInt8) (h : q.length < (⟨(q ++ [c]).toArray⟩ : ByteArray).size) : (⟨(q ++ [c]).toArray⟩ : ByteArray)[q.length]'h = c := by
  show (q ++ [c]).toArray[q.length]'h = c
  simp

/-- Is it a name? By its bytes, from number j on. -/
def letterB (c : UInt8) : Bool := decide (97 ≤ c.toNat) && decide (c.toNat ≤ 122)
def laterB (c : UInt8) : Bool := letterB c || c == 45 || (decide (48 ≤ c.toNat) && decide (c.toNat ≤ 57))
def okAt (l : List UInt8) (j : Nat) : Bool := match l[j]? with
  | none => true
  | some c => letterB c || (decide (j ≠ 0) && laterB c)
def nameL (l : List UInt8) : Bool := (List.range l.length).all (okAt l) && decide (1 ≤ l.length) && decide (l.length ≤ 16)
theorem name_no {l : List UInt8} {j : Nat} (h : j < l.length) (hb : okAt l j = false) : nameL l = false := by
  unfold nameL
  have : (List.range l.length).all (okAt l) = false := by
    rw [List.all_eq_false]
    exact ⟨j, List.mem_range.2 h, by simpa using hb⟩
  rw [this]
  rfl
theorem name_end {l : List UInt8} (h : ∀ j, j < l.length → okAt l j = true) : nameL l = (decide (1 ≤ l.length) && decide (l.length ≤ 16)) := by
  unfold nameL
  have : (List.range l.length).all (okAt l) = true := by
    rw [List.all_eq_true]
    intro j hj
    exact h j (List.mem_range.1 hj)
  rw [this, Bool.true_and]
theorem ok_at (s : ByteArray) (j : Nat) (h : j < s.size) : okAt s.data.toList j = (letterB s[j] || (decide (j ≠ 0) && laterB s[j])) := by
  unfold okAt
  rw [List.getElem?_eq_getElem (by simpa using h)]
  rfl

set_option maxRecDepth 100000 in
set_option maxHeartbeats 2000000 in
theorem refName_any (s : ByteArray) (w : World) (hs : s.size ≤ 5000) :
    Calls Tryz.prog 48 #[.string s] w fun r w' => r = .returned (.bool (nameL s.data.toList)) ∧ w = w' := by
  go_enter Tryz.func48, Tryz.ntmps48
  go_wp2
  go_loopg [7] s.size (fun q i wr => ∃ j : Nat, j + q = s.size ∧ i = .int .i64 j ∧ (∀ i, i < j → okAt s.data.toList i = true) ∧ w = wr)
  case atStart => exact ⟨0, by omega, rfl, fun i h => absurd h (by omega), rfl⟩
  case round =>
    obtain ⟨j, hk, rfl, hall, rfl⟩ := hrel
    have HK := Lib.hid hk
    have HA := Lib.hid hall
    clear hk hall
    by_cases hj : j < s.size
    · have hlt : decide ((j : Int) < (s.size : Int)) = true := by simpa using hj
      have HO := Lib.hid (ok_at s j hj)
      have go_on : okAt s.data.toList j = true → ∀ i, i < j + 1 → okAt s.data.toList i = true := by
        intro h i hi
        by_cases e : i = j
        · subst e; exact h
        · exact HA.out i (by omega)
      have GO := Lib.hid go_on
      clear go_on
      by_cases a1 : 97 ≤ s[j].toNat
      · by_cases a2 : s[j].toNat ≤ 122
        · have b1 : decide ((97 : Int) ≤ (s[j].toNat : Int)) = true := by rw [decide_eq_true_iff]; omega
          have b2 : decide ((s[j].toNat : Int) ≤ 122) = true := by rw [decide_eq_true_iff]; omega
          have hok : okAt s.data.toList j = true := by rw [HO.out]; simp [letterB, a1, a2]
          have HOK := Lib.hid hok
          clear hok
          go_wp2
          go_roundg (gk - 1)
          case measure => have := HK.out; omega
          case rel => exact ⟨j + 1, by have := HK.out; omega, by go_num, GO.out HOK.out, rfl⟩
        · have b1 : decide ((97 : Int) ≤ (s[j].toNat : Int)) = true := by rw [decide_eq_true_iff]; omega
          have b2 : decide ((s[j].toNat : Int) ≤ 122) = false := by rw [decide_eq_false_iff_not]; omega
          have hl : letterB s[j] = false := by simp [letterB, a2]
          by_cases hz : j = 0
          · have z1 : ((j : Int) == 0) = true := by rw [beq_iff_eq]; omega
            have hok : okAt s.data.toList j = false := by rw [HO.out, hl, show decide (j ≠ 0) = false from by simp [hz]]; rfl
            clear hz
            have HN := Lib.hid (name_no (l := s.data.toList) hj hok)
            clear hok
            go_wp2
            go_ret
            exact ⟨by rw [HN.out]; rfl, rfl⟩
          · have z1 : ((j : Int) == 0) = false := by rw [beq_eq_false_iff_ne]; omega
            by_cases e45 : s[j] = 45
            · have e1 : ((s[j].toNat : Int) != 45) = false := by
                have := u8_eq (n := 45) (by omega) e45
                simpa [bne] using this
              have hok : okAt s.data.toList j = true := by rw [HO.out]; simp [hz, laterB, e45]
              have HOK := Lib.hid hok
              clear hok
              go_wp2
              go_roundg (gk - 1)
              case measure => have := HK.out; omega
              case rel => exact ⟨j + 1, by have := HK.out; omega, by go_num, GO.out HOK.out, rfl⟩
            · have e1 : ((s[j].toNat : Int) != 45) = true := by
                have := u8_ne (n := 45) (by omega) e45
                simpa [bne] using this
              by_cases c1 : s[j].toNat < 48
              · have f1 : decide ((s[j].toNat : Int) < 48) = true := by rw [decide_eq_true_iff]; omega
                have hok : okAt s.data.toList j = false := by rw [HO.out]; simp [hl, laterB, e45, show ¬ 48 ≤ s[j].toNat from by omega]
                have HN := Lib.hid (name_no (l := s.data.toList) hj hok)
                clear hok
                go_wp2
                go_ret
                exact ⟨by rw [HN.out]; rfl, rfl⟩
              · have f1 : decide ((s[j].toNat : Int) < 48) = false := by rw [decide_eq_false_iff_not]; omega
                by_cases c2 : 57 < s[j].toNat
                · have f2 : decide ((57 : Int) < (s[j].toNat : Int)) = true := by rw [decide_eq_true_iff]; omega
                  have c3 : ¬ s[j].toNat ≤ 57 := by omega
                  have hok : okAt s.data.toList j = false := by rw [HO.out]; simp [hl, laterB, e45, c3]
                  have HN := Lib.hid (name_no (l := s.data.toList) hj hok)
                  clear hok
                  go_wp2
                  go_ret
                  exact ⟨by rw [HN.out]; rfl, rfl⟩
                · have f2 : decide ((57 : Int) < (s[j].toNat : Int)) = false := by rw [decide_eq_false_iff_not]; omega
                  have c3 : s[j].toNat ≤ 57 := by omega
                  have c4 : 48 ≤ s[j].toNat := by omega
                  have hok : okAt s.data.toList j = true := by rw [HO.out]; simp [hl, hz, laterB, c3, c4]
                  have HOK := Lib.hid hok
                  clear hok
                  go_wp2
                  go_roundg (gk - 1)
                  case measure => have := HK.out; omega
                  case rel => exact ⟨j + 1, by have := HK.out; omega, by go_num, GO.out HOK.out, rfl⟩
      · have b1 : decide ((97 : Int) ≤ (s[j].toNat : Int)) = false := by rw [decide_eq_false_iff_not]; omega
        have hl : letterB s[j] = false := by simp [letterB, a1]
        by_cases hz : j = 0
        · have z1 : ((j : Int) == 0) = true := by rw [beq_iff_eq]; omega
          have hok : okAt s.data.toList j = false := by rw [HO.out, hl, show decide (j ≠ 0) = false from by simp [hz]]; rfl
          clear hz
          have HN := Lib.hid (name_no (l := s.data.toList) hj hok)
          clear hok
          go_wp2
          go_ret
          exact ⟨by rw [HN.out]; rfl, rfl⟩
        · have z1 : ((j : Int) == 0) = false := by rw [beq_eq_false_iff_ne]; omega
          by_cases e45 : s[j] = 45
          · have e1 : ((s[j].toNat : Int) != 45) = false := by
              have := u8_eq (n := 45) (by omega) e45
              simpa [bne] using this
            have hok : okAt s.data.toList j = true := by rw [HO.out]; simp [hz, laterB, e45]
            have HOK := Lib.hid hok
            clear hok
            go_wp2
            go_roundg (gk - 1)
            case measure => have := HK.out; omega
            case rel => exact ⟨j + 1, by have := HK.out; omega, by go_num, GO.out HOK.out, rfl⟩
          · have e1 : ((s[j].toNat : Int) != 45) = true := by
              have := u8_ne (n := 45) (by omega) e45
              simpa [bne] using this
            by_cases c1 : s[j].toNat < 48
            · have f1 : decide ((s[j].toNat : Int) < 48) = true := by rw [decide_eq_true_iff]; omega
              have hok : okAt s.data.toList j = false := by rw [HO.out]; simp [hl, laterB, e45, show ¬ 48 ≤ s[j].toNat from by omega]
              have HN := Lib.hid (name_no (l := s.data.toList) hj hok)
              clear hok
              go_wp2
              go_ret
              exact ⟨by rw [HN.out]; rfl, rfl⟩
            · have f1 : decide ((s[j].toNat : Int) < 48) = false := by rw [decide_eq_false_iff_not]; omega
              by_cases c2 : 57 < s[j].toNat
              · have f2 : decide ((57 : Int) < (s[j].toNat : Int)) = true := by rw [decide_eq_true_iff]; omega
                have c3 : ¬ s[j].toNat ≤ 57 := by omega
                have hok : okAt s.data.toList j = false := by rw [HO.out]; simp [hl, laterB, e45, c3]
                have HN := Lib.hid (name_no (l := s.data.toList) hj hok)
                clear hok
                go_wp2
                go_ret
                exact ⟨by rw [HN.out]; rfl, rfl⟩
              · have f2 : decide ((57 : Int) < (s[j].toNat : Int)) = false := by rw [decide_eq_false_iff_not]; omega
                have c3 : s[j].toNat ≤ 57 := by omega
                have c4 : 48 ≤ s[j].toNat := by omega
                have hok : okAt s.data.toList j = true := by rw [HO.out]; simp [hl, hz, laterB, c3, c4]
                have HOK := Lib.hid hok
                clear hok
                go_wp2
                go_roundg (gk - 1)
                case measure => have := HK.out; omega
                case rel => exact ⟨j + 1, by have := HK.out; omega, by go_num, GO.out HOK.out, rfl⟩
    · have hj' : j = s.size := by have := HK.out; omega
      have hlt : decide ((j : Int) < (s.size : Int)) = false := by simpa using hj
      have HE := Lib.hid (name_end (fun i hi => HA.out i (by rw [hj']; exact hi)))
      subst hj'
      clear HA
      have hsz : s.data.toList.length = s.size := rfl
      by_cases h1 : 1 ≤ s.size
      · have d1 : decide ((1 : Int) ≤ (s.size : Int)) = true := by rw [decide_eq_true_iff]; omega
        by_cases h2 : s.size ≤ 16
        · have d2 : decide ((s.size : Int) ≤ 16) = true := by rw [decide_eq_true_iff]; omega
          have hn : nameL s.data.toList = true := by rw [HE.out, hsz]; simp [h1, h2]
          have HN := Lib.hid hn
          clear hn
          go_wp2
          go_ret
          exact ⟨by rw [HN.out]; rfl, rfl⟩
        · have d2 : decide ((s.size : Int) ≤ 16) = false := by rw [decide_eq_false_iff_not]; omega
          have hn : nameL s.data.toList = false := by rw [HE.out, hsz]; simp [h2]
          have HN := Lib.hid hn
          clear hn
          go_wp2
          go_ret
          exact ⟨by rw [HN.out]; rfl, rfl⟩
      · have d1 : decide ((1 : Int) ≤ (s.size : Int)) = false := by rw [decide_eq_false_iff_not]; omega
        have hn : nameL s.data.toList = false := by rw [HE.out, hsz]; simp [h1]
        have HN := Lib.hid hn
        clear hn
        go_wp2
        go_ret
        exact ⟨by rw [HN.out]; rfl, rfl⟩
end Go.Proofs.YtfpjepeikjfkpaaGreatDoor
