import Derived.Test.YtidomoibhjgkjaaGreatDoorZC34
import Derived.Test.YtidomoibhjgkjaaGreatDoorZC36
import Derived.Test.YtidomoibhjgkjaaGreatDoorZC18
import Derived.Test.YtidomoibhjgkjaaGreatDoorZC25
/-
  Package eval: Of: what terms come to with variables.
-/
namespace Go.Proofs.YtidomoibhjgkjaaGreatDoor
open Go.RowKit

theorem getL_in : ∀ {l : List VN} {nm : ByteArray} {v : V}, getL l nm = some v → ∃ x ∈ l, x.2 = v
  | [], _, _, h => by cases h
  | x :: l, nm, v, h => by
    unfold getL at h
    split at h
    · injection h with h
      exact ⟨x, List.mem_cons_self .., h⟩
    · obtain ⟨y, hy, e⟩ := getL_in h
      exact ⟨y, List.mem_cons_of_mem _ hy, e⟩

set_option maxRecDepth 100000 in
set_option maxHeartbeats 4000000 in
theorem of_closure (vs : List VN) (A : Option Addr) (c s : Nat) (w : World) (hv : shortV vs) (hc : vs.length ≤ c) (hm : c ≤ maxLen) (hn : A = none → c = 0) (hr : RowN w 0 w.heap.size A vs) (hs : w.cell? ⟨s, 0, none⟩ = some (.slice A vs.length c)) (hsl : s < w.heap.size)
    (nm : ByteArray) (hnm : nm.size ≤ 100) (W : World) (hW : Below w.heap.size w W) :
    Calls Tryz.prog 32 #[.string nm, .pointer (some ⟨s, 0, none⟩)] W (RetAsk (.inl (getL vs nm)) W) := by
  have hs1 := (hW.cell (p := ⟨s, 0, none⟩) hsl).trans hs
  have hsW := Nat.lt_of_lt_of_le hsl hW.size
  have hX0 := Boxed.new W 0 0 ⟨#[]⟩
  have hB0 := box_below W #[.int .i64 0, .int .i64 0, .string ⟨#[]⟩] 27
  have hs2 := (hB0.cell (p := ⟨s, 0, none⟩) hsW).trans hs1
  have hr2 := (hr.below hW (Nat.le_refl _)).wide (Nat.le_refl _) hW.size
  have HG := Lib.hid (vGet_any vs A c nm _ hv hnm hc hm hn ((hr2.below hB0 (Nat.le_refl _)).wide (Nat.le_refl _) hB0.size))
  have HX0 := Lib.hid hX0
  have HB0 := Lib.hid hB0
  obtain ⟨v, hvv⟩ : ∃ v, getO vs nm = v := ⟨_, rfl⟩
  obtain ⟨is, his⟩ : ∃ is, (getL vs nm).isSome = is := ⟨_, rfl⟩
  rw [hvv, his] at HG
  obtain ⟨k, n, t⟩ := v
  have HP : Hid (∀ w', AskP (.inl (getL vs nm)) w' ⟨k, n, t⟩ is .nilIface) := Lib.hid (fun w' => ⟨hvv.symm, his.symm, rfl⟩)
  simp only [V.val] at HG
  generalize (Sum.inl (getL vs nm) : Option V ⊕ Er) = x at *
  clear hv hc hm hn hr hs hsl hnm hW hs1 hX0 hB0 hr2 hvv his
  go_enter Tryz.func32, Tryz.ntmps32
  go_wp2_with fail
  refine HG.out.mono ?_
  rintro r w1 ⟨rfl, hb1⟩
  dsimp only
  have hx1 := HX0.out.below hb1
  have hB1 := HB0.out.trans (hb1.mono HB0.out.size)
  have hb2 := box_below w1 #[.int .i64 k, .int .i64 n, .string t] 27
  have hx2 := hx1.below hb2
  have hB2 := hB1.trans (hb2.mono hB1.size)
  obtain ⟨y0, y1, y2⟩ := (Boxed.new w1 k n t).cells
  simp only at y0 y1 y2
  obtain ⟨r0, r1, r2⟩ := hx2.cells
  have f0 := hx2.frozen 0
  have f1 := hx2.frozen 1
  have f2 := hx2.frozen 2
  obtain ⟨t0, t1, t2⟩ := (hx2.set3' k n t).cells
  have HQ := Lib.hid (Below.set3' hB2 (Nat.le_refl _) (.int .i64 k) (.int .i64 n) (.string t))
  clear HG HX0 HB0 hb1 hx1 hB1 hb2 hx2 hB2 hs2 hsW
  go_wp2
  refine bodyPost_ret (v := .tuple #[.agg #[.int .i64 k, .int .i64 n, .string t], .bool is, .nilIface]) (by simp [results, Tryz.results32, go_sem, t0, t1, t2]) rfl ?_
  exact ⟨k, n, t, is, .nilIface, rfl, HQ.out, HP.out _⟩

/-- What is known of variables that came in. -/
structure VarsOk (w : World) (vs : List VN) (A : Option Addr) (c : Nat) : Prop where
  short : shortV vs
  ok : ∀ x ∈ vs, okV x.2
  cap : vs.length ≤ c
  max : c ≤ maxLen
  nil : A = none → c = 0
  row : RowN w 0 w.heap.size A vs
theorem VarsOk.below {w w' : World} {vs : List VN} {A : Option Addr} {c : Nat} (h : VarsOk w vs A c) (hb : Below w.heap.size w w') : VarsOk w' vs A c :=
  ⟨h.short, h.ok, h.cap, h.max, h.nil, (h.row.below hb (Nat.le_refl _)).wide (Nat.le_refl _) hb.size⟩
structure TermsOk (w : World) (l : List TM) (A : Option Addr) : Prop where
  len : l.length ≤ 1000
  ok : ∀ t ∈ l, t.nm.size ≤ 100 ∧ okV t.v
  row : RowT w 0 w.heap.size A l
theorem TermsOk.below {w w' : World} {l : List TM} {A : Option Addr} (h : TermsOk w l A) (hb : Below w.heap.size w w') : TermsOk w' l A := ⟨h.len, h.ok, (h.row.below hb (Nat.le_refl _)).wide (Nat.le_refl _) hb.size⟩

theorem closure_enters (args : Array Value) (w : World) : (callFunc 32 args).run Tryz.prog w = .ok (.enter 32 args) w := enters_of Tryz.func32 (by kernel_rfl) rfl _ _

set_option maxRecDepth 100000 in
set_option maxHeartbeats 4000000 in
theorem gOf_any (l : List TM) (A : Option Addr) (c : Nat) (vs : List VN) (A2 : Option Addr) (c2 : Nat) (fuel : Int) (w : World) (hl : TermsOk w l A) (hv : VarsOk w vs A2 c2) (hf : fuel ≤ 9223372036854775807) (hf0 : -9223372036854775808 ≤ fuel) (hG : GlobW w) :
    Calls Tryz.prog 11 #[.slice A l.length c, .slice A2 vs.length c2, .int .i64 fuel] w (RetEv (ofH (askOf (getL vs)) l fuel.toNat) w) := by
  have hmf : ∀ (fn : Fn) (first cap : Array Value) (w : World), (Instr.makeFunc fn first cap).run Tryz.prog w = .ok (.func fn first cap) w := fun _ _ _ _ => rfl
  -- the box of the variables, and the answer's
  have hb1 := box_below w #[.slice A2 vs.length c2] 23
  have hs1 : (w.alloc (.cells #[.slice A2 vs.length c2] 23)).cell? ⟨w.heap.size, 0, none⟩ = some (.slice A2 vs.length c2) := by simp
  have hl1 := lt_alloc w (.cells #[.slice A2 vs.length c2] 23)
  have e1 : (w.alloc (.cells #[.slice A2 vs.length c2] 23)).heap.size = w.heap.size + 1 := by simp
  have hb2 := box_below (w.alloc (.cells #[.slice A2 vs.length c2] 23)) #[.int .i64 0, .int .i64 0, .string ⟨#[]⟩] 27
  have hx2 : Boxed ((w.alloc (.cells #[.slice A2 vs.length c2] 23)).alloc (.cells #[.int .i64 0, .int .i64 0, .string ⟨#[]⟩] 27)) (w.heap.size + 1) V0 := by
    have h := Boxed.new (w.alloc (.cells #[.slice A2 vs.length c2] 23)) 0 0 ⟨#[]⟩
    rw [e1] at h
    exact h
  have hs2 := (hb2.cell (p := ⟨w.heap.size, 0, none⟩) hl1).trans hs1
  have hl2 := Nat.lt_of_lt_of_le hl1 hb2.size
  have hB2 := hb1.trans (hb2.mono hb1.size)
  obtain ⟨w2, hw2⟩ : ∃ y, (w.alloc (.cells #[.slice A2 vs.length c2] 23)).alloc (.cells #[.int .i64 0, .int .i64 0, .string ⟨#[]⟩] 27) = y := ⟨_, rfl⟩
  rw [hw2] at hx2 hs2 hl2 hB2
  have hv2 := hv.below hB2
  have hA : AskC 32 #[.pointer (some ⟨w.heap.size, 0, none⟩)] (askOf (getL vs)) (fun nm => nm.size ≤ 100) w2.heap.size w2 :=
    ⟨closure_enters, fun W nm hn hW => of_closure vs A2 c2 w.heap.size w2 hv2.short hv2.cap hv2.max hv2.nil hv2.row hs2 hl2 nm hn W hW, fun nm v _ h => by
      have h : getL vs nm = some v := by injection h
      obtain ⟨x, hx, e⟩ := getL_in h
      rw [← e]
      exact hv.ok x hx⟩
  have hl2' := hl.below hB2
  have HE := Lib.hid (gEval_any l A c 32 #[.pointer (some ⟨w.heap.size, 0, none⟩)] (askOf (getL vs)) (fun nm => nm.size ≤ 100) fuel w2 hl2'.len (fun t ht => ⟨Nat.le_trans (hl.ok t ht).1 (by decide), (hl.ok t ht).2⟩) hl2'.row hA (fun t ht _ => (hl.ok t ht).1) hf hf0 (hG.below hB2 hG.big))
  have HX2 := Lib.hid hx2
  have HB2 := Lib.hid hB2
  have HW2 := Lib.hid hw2
  obtain ⟨X, hX⟩ : ∃ X, ofH (askOf (getL vs)) l fuel.toNat = X := ⟨_, rfl⟩
  rw [hX] at HE ⊢
  obtain ⟨xv, xn, xe⟩ := X
  clear hb1 hs1 hl1 e1 hb2 hx2 hs2 hl2 hB2 hv2 hA hl2' hv hl hG hX hw2
  go_enter Tryz.func11, Tryz.ntmps11
  go_upto_region 1 with fail
  rw [HW2.out]
  clear HW2
  go_wp2_with fail
  refine HE.out.mono ?_
  rintro r w3 ⟨k, n, s, u, rfl, hxv, hb3, hu3⟩
  dsimp only
  have hx3 := HX2.out.below hb3
  obtain ⟨r0, r1, r2⟩ := hx3.cells
  have f0 := hx3.frozen 0
  have f1 := hx3.frozen 1
  have f2 := hx3.frozen 2
  obtain ⟨t0, t1, t2⟩ := (hx3.set3' k n s).cells
  have HP := Lib.hid (Below.set3' (HB2.out.trans (hb3.mono HB2.out.size)) (Nat.le_succ _) (.int .i64 k) (.int .i64 n) (.string s))
  have HQ := Lib.hid (ErrO.put3 (y0 := .int .i64 k) (y1 := .int .i64 n) (y2 := .string s) hx3.three hu3)
  have HV := Lib.hid hxv
  clear hb3 hu3 hx3 HX2 HB2 HE hxv
  go_wp2
  refine bodyPost_ret (v := .tuple #[.agg #[.int .i64 k, .int .i64 n, .string s], .int .i64 (xn : Int), u]) (by simp [results, Tryz.results11, go_sem, t0, t1, t2]) rfl ?_
  exact ⟨k, n, s, u, rfl, HV.out, HP.out, HQ.out⟩
end Go.Proofs.YtidomoibhjgkjaaGreatDoor

/-
  The examples of the statements on what expressions come to.
-/
namespace Go.Proofs.YtidomoibhjgkjaaGreatDoor
open Go.RowKit

theorem num6_any (n : Int) (w : World) : Calls Tryz.prog 31 #[.int .i64 n] w fun r w' => r = .returned (.agg #[.int .i64 1, .int .i64 n, .string ⟨#[]⟩]) ∧ Below w.heap.size w w' := by
  go_enter Tryz.func31, Tryz.ntmps31
  go_wp2
  exact bodyPost_ret (v := .agg #[.int .i64 1, .int .i64 n, .string ⟨#[]⟩]) (by simp [results, Tryz.results31, go_sem]) rfl ⟨rfl, box_below w _ _⟩
theorem num6_from (n : Int) (w W : World) (hb : Below w.heap.size w W) : Calls Tryz.prog 31 #[.int .i64 n] W fun r w' => r = .returned (.agg #[.int .i64 1, .int .i64 n, .string ⟨#[]⟩]) ∧ Below w.heap.size w w' := by
  refine (num6_any n W).mono ?_
  rintro r w' ⟨rfl, h⟩
  exact ⟨rfl, hb.trans (h.mono hb.size)⟩
theorem codeO_from (o : Option Er) (u : Value) (w W : World) (h : ErrO w o u) (hG : GlobW w) (hb : Below w.heap.size w W) : Calls Tryz.prog 13 #[u] W fun r w' => r = .returned (.int .i64 (codeO o)) ∧ Below w.heap.size w w' := by
  refine (codeO_any o u W (h.below hb) (hG.below hb hG.big)).mono ?_
  rintro r w' ⟨rfl, h⟩
  exact ⟨rfl, hb.trans (h.mono hb.size)⟩

theorem row3T (w : World) (a b c : TM) : RowT (w.alloc (.cells #[.int .i64 a.op, .int .i64 a.v.k, .int .i64 a.v.n, .string a.v.s, .string a.nm, .int .i64 b.op, .int .i64 b.v.k, .int .i64 b.v.n, .string b.v.s, .string b.nm, .int .i64 c.op, .int .i64 c.v.k, .int .i64 c.v.n, .string c.v.s, .string c.nm] 47)) 0 (w.heap.size + 1) (some ⟨w.heap.size, 0, none⟩) [a, b, c] := fun _ => by
  have h := heap_alloc_new w (.cells #[.int .i64 a.op, .int .i64 a.v.k, .int .i64 a.v.n, .string a.v.s, .string a.nm, .int .i64 b.op, .int .i64 b.v.k, .int .i64 b.v.n, .string b.v.s, .string b.nm, .int .i64 c.op, .int .i64 c.v.k, .int .i64 c.v.n, .string c.v.s, .string c.nm] 47)
  refine ⟨_, 0, rfl, Nat.zero_le _, by omega, fun j hj => ?_⟩
  match j, hj with
  | 0, _ => exact ⟨cell_of_row _ _ 0 _ _ _ h, cell_of_row _ _ 1 _ _ _ h, cell_of_row _ _ 2 _ _ _ h, cell_of_row _ _ 3 _ _ _ h, cell_of_row _ _ 4 _ _ _ h⟩
  | 1, _ => exact ⟨cell_of_row _ _ 5 _ _ _ h, cell_of_row _ _ 6 _ _ _ h, cell_of_row _ _ 7 _ _ _ h, cell_of_row _ _ 8 _ _ _ h, cell_of_row _ _ 9 _ _ _ h⟩
  | 2, _ => exact ⟨cell_of_row _ _ 10 _ _ _ h, cell_of_row _ _ 11 _ _ _ h, cell_of_row _ _ 12 _ _ _ h, cell_of_row _ _ 13 _ _ _ h, cell_of_row _ _ 14 _ _ _ h⟩
theorem row1N (w : World) (nm : ByteArray) (v : V) : RowN (w.alloc (.cells #[.string nm, .int .i64 v.k, .int .i64 v.n, .string v.s] 67)) 0 (w.heap.size + 1) (some ⟨w.heap.size, 0, none⟩) [(nm, v)] := RowN.one w nm v.k v.n v.s

def exTM : List TM := [⟨1, ⟨0, 0, ⟨#[]⟩⟩, ⟨#[97]⟩⟩, ⟨0, ⟨1, 1, ⟨#[]⟩⟩, ⟨#[]⟩⟩, ⟨9, ⟨0, 0, ⟨#[]⟩⟩, ⟨#[]⟩⟩]
def exVN : List VN := [(⟨#[97]⟩, ⟨1, 2, ⟨#[]⟩⟩)]
theorem exOf9 : ofH (askOf (getL exVN)) exTM 9 = (⟨1, 3, ⟨#[]⟩⟩, 6, none) := by
  rw [of_of, show ofG (getL exVN) exTM 9 = (⟨1, 3, ⟨#[]⟩⟩, 6, 0, []) from by kernel_rfl]
  rfl
theorem exOf1 : ofH (askOf (getL exVN)) exTM 1 = (V0, 0, some (numE 60 [])) := by
  rw [of_of, show ofG (getL exVN) exTM 1 = (V0, 0, 60, []) from by kernel_rfl]
  rfl
theorem ex_ok : ∀ t ∈ exTM, t.nm.size ≤ 100 ∧ okV t.v := by
  intro t ht
  simp only [exTM, List.mem_cons, List.not_mem_nil, or_false] at ht
  rcases ht with rfl | rfl | rfl <;> exact ⟨by decide, ⟨by unfold inI; decide, by decide⟩⟩
theorem ex_short : shortV exVN := ⟨by decide, by
  intro x hx
  simp only [exVN, List.mem_cons, List.not_mem_nil, or_false] at hx
  subst hx
  decide⟩
theorem ex_vok : ∀ x ∈ exVN, okV x.2 := by
  intro x hx
  simp only [exVN, List.mem_cons, List.not_mem_nil, or_false] at hx
  subst hx
  exact ⟨by unfold inI; decide, by decide⟩

set_option maxRecDepth 100000 in
set_option maxHeartbeats 8000000 in
theorem live6_any (w : World) (hG : GlobW w) : Calls Tryz.prog 9 #[] w fun r w' => r = .returned (.bool true) ∧ Below w.heap.size w w' := by
  have HG := Lib.hid hG
  clear hG
  go_enter Tryz.func9, Tryz.ntmps9
  go_wp2_with fail
  refine (num6_any 1 _).mono ?_
  rintro r w1 ⟨rfl, hb1⟩
  dsimp only
  -- the terms
  have hrow := row3T w1 ⟨1, ⟨0, 0, ⟨#[]⟩⟩, ⟨#[97]⟩⟩ ⟨0, ⟨1, 1, ⟨#[]⟩⟩, ⟨#[]⟩⟩ ⟨9, ⟨0, 0, ⟨#[]⟩⟩, ⟨#[]⟩⟩
  simp only at hrow
  have hb2 := box_below w1 #[.int .i64 1, .int .i64 0, .int .i64 0, .string ⟨#[]⟩, .string ⟨#[97]⟩, .int .i64 0, .int .i64 1, .int .i64 1, .string ⟨#[]⟩, .string ⟨#[]⟩, .int .i64 9, .int .i64 0, .int .i64 0, .string ⟨#[]⟩, .string ⟨#[]⟩] 47
  have e2 : (w1.alloc (.cells #[.int .i64 1, .int .i64 0, .int .i64 0, .string ⟨#[]⟩, .string ⟨#[97]⟩, .int .i64 0, .int .i64 1, .int .i64 1, .string ⟨#[]⟩, .string ⟨#[]⟩, .int .i64 9, .int .i64 0, .int .i64 0, .string ⟨#[]⟩, .string ⟨#[]⟩] 47)).heap.size = w1.heap.size + 1 := by simp
  obtain ⟨w2, hw2⟩ : ∃ y, w1.alloc (.cells #[.int .i64 1, .int .i64 0, .int .i64 0, .string ⟨#[]⟩, .string ⟨#[97]⟩, .int .i64 0, .int .i64 1, .int .i64 1, .string ⟨#[]⟩, .string ⟨#[]⟩, .int .i64 9, .int .i64 0, .int .i64 0, .string ⟨#[]⟩, .string ⟨#[]⟩] 47) = y := ⟨_, rfl⟩
  rw [hw2] at hrow hb2 e2
  have HT2 : Hid (TermsOk w2 exTM (some ⟨w1.heap.size, 0, none⟩)) := Lib.hid ⟨by decide, ex_ok, by rw [e2]; exact hrow⟩
  have HB2 := Lib.hid (hb1.trans (hb2.mono hb1.size))
  obtain ⟨g, hg⟩ : ∃ g, w1.heap.size = g := ⟨_, rfl⟩
  rw [hg] at HT2
  have HW2 := Lib.hid hw2
  have HGg := Lib.hid hg
  clear hrow hb2 e2 hb1 hw2 hg
  go_upto_region 2 with fail
  rw [HW2.out, HGg.out]
  clear HW2 HGg
  -- with fuel
  go_wp2_with fail
  refine (num6_any 2 _).mono ?_
  rintro r w3 ⟨rfl, hb3⟩
  dsimp only
  have hrn := row1N w3 ⟨#[97]⟩ ⟨1, 2, ⟨#[]⟩⟩
  simp only at hrn
  have hb4 := box_below w3 #[.string ⟨#[97]⟩, .int .i64 1, .int .i64 2, .string ⟨#[]⟩] 67
  have e4 : (w3.alloc (.cells #[.string ⟨#[97]⟩, .int .i64 1, .int .i64 2, .string ⟨#[]⟩] 67)).heap.size = w3.heap.size + 1 := by simp
  have HB4 := Lib.hid (HB2.out.trans ((hb3.trans (hb4.mono hb3.size)).mono HB2.out.size))
  have HV4 : Hid (VarsOk (w3.alloc (.cells #[.string ⟨#[97]⟩, .int .i64 1, .int .i64 2, .string ⟨#[]⟩] 67)) exVN (some ⟨w3.heap.size, 0, none⟩) 1) := Lib.hid ⟨ex_short, ex_vok, by decide, by unfold maxLen; omega, by simp, by rw [e4]; exact hrn⟩
  have HT4 := Lib.hid ((HT2.out.below hb3).below hb4)
  have HO4 := Lib.hid (gOf_any exTM (some ⟨g, 0, none⟩) 3 exVN (some ⟨w3.heap.size, 0, none⟩) 1 9 _ HT4.out HV4.out (by decide) (by decide) (HG.out.below HB4.out HG.out.big))
  rw [show (9 : Int).toNat = 9 from rfl, exOf9] at HO4
  clear hrn e4 hb3 hb4 HT2 HV4
  go_wp2_with fail
  refine HO4.out.mono ?_
  rintro r w5 ⟨k, n, s, u, rfl, hv, hb5, hu5⟩
  injection hv with a1 a2 a3
  subst a1 a2 a3
  obtain rfl : u = .nilIface := hu5
  dsimp only
  have hx6 : Boxed (w5.alloc (.cells #[.int .i64 1, .int .i64 3, .string ⟨#[]⟩] 27)) w5.heap.size ⟨1, 3, ⟨#[]⟩⟩ := Boxed.new w5 1 3 ⟨#[]⟩
  have hb6 := box_below w5 #[.int .i64 1, .int .i64 3, .string ⟨#[]⟩] 27
  have HT6 := Lib.hid ((HT4.out.below hb5).below hb6)
  have HB6 := Lib.hid (HB4.out.trans ((hb5.trans (hb6.mono hb5.size)).mono HB4.out.size))
  obtain ⟨w6, hw6⟩ : ∃ y, w5.alloc (.cells #[.int .i64 1, .int .i64 3, .string ⟨#[]⟩] 27) = y := ⟨_, rfl⟩
  obtain ⟨s5, hs5⟩ : ∃ y, w5.heap.size = y := ⟨_, rfl⟩
  rw [hw6] at HT6 HB6 hx6
  rw [hs5] at hx6
  have HW6 := Lib.hid hw6
  have HS5 := Lib.hid hs5
  have HX6 := Lib.hid hx6
  clear hw6 hs5 hx6 hb5 hb6 HO4 HT4 HB4
  go_upto_region 3 with fail
  rw [HW6.out, HS5.out]
  clear HW6 HS5
  -- with little fuel
  go_wp2_with fail
  refine (num6_any 2 _).mono ?_
  rintro r w7 ⟨rfl, hb7⟩
  dsimp only
  have hrn := row1N w7 ⟨#[97]⟩ ⟨1, 2, ⟨#[]⟩⟩
  simp only at hrn
  have hb8 := box_below w7 #[.string ⟨#[97]⟩, .int .i64 1, .int .i64 2, .string ⟨#[]⟩] 67
  have e8 : (w7.alloc (.cells #[.string ⟨#[97]⟩, .int .i64 1, .int .i64 2, .string ⟨#[]⟩] 67)).heap.size = w7.heap.size + 1 := by simp
  have HB8 := Lib.hid (HB6.out.trans ((hb7.trans (hb8.mono hb7.size)).mono HB6.out.size))
  have HV8 : Hid (VarsOk (w7.alloc (.cells #[.string ⟨#[97]⟩, .int .i64 1, .int .i64 2, .string ⟨#[]⟩] 67)) exVN (some ⟨w7.heap.size, 0, none⟩) 1) := Lib.hid ⟨ex_short, ex_vok, by decide, by unfold maxLen; omega, by simp, by rw [e8]; exact hrn⟩
  have HT8 := Lib.hid ((HT6.out.below hb7).below hb8)
  have HX8 := Lib.hid ((HX6.out.below hb7).below hb8)
  have HO8 := Lib.hid (gOf_any exTM (some ⟨g, 0, none⟩) 3 exVN (some ⟨w7.heap.size, 0, none⟩) 1 1 _ HT8.out HV8.out (by decide) (by decide) (HG.out.below HB8.out HG.out.big))
  rw [show (1 : Int).toNat = 1 from rfl, exOf1] at HO8
  clear hrn e8 hb7 hb8 HT6 HV8 HX6 HB6
  go_wp2_with fail
  refine HO8.out.mono ?_
  rintro r w9 ⟨k, n, s, u, rfl, hv, hb9, hu9⟩
  dsimp only
  have hb10 := box_below w9 #[.int .i64 k, .int .i64 n, .string s] 27
  have hX10 := (HX8.out.below hb9).below hb10
  have hU10 := hu9.below hb10
  have hB10 := HB8.out.trans ((hb9.trans (hb10.mono hb9.size)).mono HB8.out.size)
  have hb10' : Below (w9.alloc (.cells #[.int .i64 k, .int .i64 n, .string s] 27)).heap.size (w9.alloc (.cells #[.int .i64 k, .int .i64 n, .string s] 27)) (w9.alloc (.cells #[.int .i64 k, .int .i64 n, .string s] 27)) := Below.refl _ _
  obtain ⟨w10, hw10⟩ : ∃ y, w9.alloc (.cells #[.int .i64 k, .int .i64 n, .string s] 27) = y := ⟨_, rfl⟩
  rw [hw10] at hX10 hU10 hB10
  obtain ⟨s9, hs9⟩ : ∃ y, w9.heap.size = y := ⟨_, rfl⟩
  have HW10 := Lib.hid hw10
  have HS9 := Lib.hid hs9
  have HX10 := Lib.hid hX10
  have HU10 := Lib.hid hU10
  have HB10 := Lib.hid hB10
  clear hw10 hs9 hX10 hU10 hB10 hb9 hb10 hb10' hu9 HO8 HT8 HX8 HB8 hv
  go_upto_region 4 with fail
  rw [HW10.out, HS9.out]
  clear HW10 HS9
  -- a division
  go_wp2_with fail
  refine (num6_any 1 _).mono ?_
  rintro r w11 ⟨rfl, hb11⟩
  dsimp only
  go_wp2_with fail
  refine (num6_any 0 _).mono ?_
  rintro r w12 ⟨rfl, hb12⟩
  dsimp only
  have HD := Lib.hid (twoR (op := 7) (a := ⟨1, 1, ⟨#[]⟩⟩) (c := ⟨1, 0, ⟨#[]⟩⟩) ⟨by unfold inI; decide, by decide⟩ ⟨by unfold inI; decide, by decide⟩ (show twoV 7 ⟨1, 1, ⟨#[]⟩⟩ ⟨1, 0, ⟨#[]⟩⟩ = (⟨0, 0, ⟨#[]⟩⟩, 62) from by kernel_rfl) w12)
  simp only [V.val] at HD
  go_wp2_with fail
  refine HD.out.mono ?_
  rintro r w13 ⟨rfl, hb13⟩
  dsimp only
  have hb14 := box_below w13 #[.int .i64 0, .int .i64 0, .string ⟨#[]⟩] 27
  have hb1014 := hb11.trans ((hb12.trans ((hb13.trans (hb14.mono hb13.size)).mono hb12.size)).mono hb11.size)
  obtain ⟨w14, hw14⟩ : ∃ y, w13.alloc (.cells #[.int .i64 0, .int .i64 0, .string ⟨#[]⟩] 27) = y := ⟨_, rfl⟩
  rw [hw14] at hb1014
  obtain ⟨s13, hs13⟩ : ∃ y, w13.heap.size = y := ⟨_, rfl⟩
  have HX14 := Lib.hid (HX10.out.below hb1014)
  have HU14 := Lib.hid (HU10.out.below hb1014)
  have HB14 := Lib.hid (HB10.out.trans (hb1014.mono HB10.out.size))
  have HW14 := Lib.hid hw14
  have HS13 := Lib.hid hs13
  clear hb11 hb12 hb13 hb14 hb1014 hw14 hs13 HX10 HU10 HB10 HD
  go_upto_region 5 with fail
  rw [HW14.out, HS13.out]
  clear HW14 HS13
  have HN := Lib.hid (num6_from 3 w14)
  have HCo : Hid (∀ W, Below w14.heap.size w14 W → Calls Tryz.prog 13 #[u] W fun r w' => r = .returned (.int .i64 60) ∧ Below w14.heap.size w14 w') := Lib.hid (fun W hb => codeO_from _ u w14 W HU14.out (HG.out.below HB14.out HG.out.big) hb)
  have HCl : Hid (∀ w', Below w14.heap.size w14 w' → w'.cell? ⟨s5, 0, none⟩ = some (.int .i64 1) ∧ w'.cell? ⟨s5, 1, none⟩ = some (.int .i64 3) ∧ w'.cell? ⟨s5, 2, none⟩ = some (.string ⟨#[]⟩)) := Lib.hid (fun w' hb => (HX14.out.below hb).cells)
  have q : ∀ w, (Op.equalIn 10000 27 (.agg #[.int .i64 1, .int .i64 3, .string ⟨#[]⟩]) (.agg #[.int .i64 1, .int .i64 3, .string ⟨#[]⟩])).run Tryz.prog w = .ok true w := fun w => by
    rw [eq_in, eqV_self]
  refine wp_region_class' (C := fun w' => Below w14.heap.size w14 w') (by kernel_rfl) (by kernel_rfl) (Below.refl _ _).drew ?_
  repeat (quiet_step (first
    | (intro hw; with_reducible exact HN.out _ hw)
    | (intro hw; with_reducible exact HCo.out _ hw)
    | (intro _; with_reducible rfl)
    | (intro hw; obtain ⟨c0, c1, c2⟩ := HCl.out _ hw; go_simp; with_reducible exact ⟨rfl, rfl⟩)
    | (intro hw; obtain ⟨c0, c1, c2⟩ := HCl.out _ hw; go_simp; with_reducible rfl)
    | (intro hw; go_simp; with_reducible exact ⟨rfl, rfl⟩)))
  refine wpQuiet_nil ?_
  intro w15 hb15
  go_wp2_with fail
  go_ret
  exact ⟨rfl, HB14.out.trans (hb15.mono HB14.out.size)⟩
end Go.Proofs.YtidomoibhjgkjaaGreatDoor
