import Derived.Test.YtfpjepeikjfkpaaGreatDoorZC01
import Derived.WalkKit
import Derived.RowKitTokens
import Derived.Lib.Hide
import Derived.Laws.AppendOwnNone
import Derived.Deep.RegionLaw
import Derived.Lib.SmallJoins
import Derived.Test.YtfpjepeikjfkpaaGreatDoorZC21
/-
  Slices of texts: rows of a call's own, what they read as, and appends of one to another.
-/
namespace Go.Proofs.YtfpjepeikjfkpaaGreatDoor
open Go.RowKit

theorem addr_at (b o j : Nat) : (⟨b, o, none⟩ : Addr).add j = ⟨b, o + j, none⟩ := by
  unfold Addr.add
  split
  · next h => subst h; rfl
  · rfl

theorem ownF_below {w w' : World} {B B' e size n : Nat} {v : Value} {xs : List Value} (h : w.ownsRow B e size v n xs) (hk : ∀ g, B ≤ g → g < w.heap.size → w'.heap[g]? = w.heap[g]?) (hB : B' ≤ B) : w'.ownsRow B' e size v n xs := by
  obtain ⟨h1, h2⟩ := h
  refine ⟨h1, ?_⟩
  rcases h2 with h2 | ⟨g, cap, cur, hv, hg, hh, r⟩
  · exact .inl h2
  · exact .inr ⟨g, cap, cur, hv, by omega, by rw [hk g hg (Array.getElem?_eq_some_iff.1 hh).1]; exact hh, r⟩

theorem own_row {w : World} {base e size n : Nat} {v : Value} {xs : List Value} (h : w.ownsRow base e size v n xs) : ∀ k, v.ownBlock = some k → base ≤ k := by
  intro k hk
  rcases h.2 with ⟨rfl, _⟩ | ⟨g, cap, cur, rfl, hb, _⟩
  · cases hk
  · obtain rfl : g = k := by simpa [Value.ownBlock] using hk
    exact hb

/-- An append onto a row of the call's own, as one step of a region that draws its order. -/
theorem step_append_own {P : Program} {ops : Array Oper} {o : Oper} {a : Act} {w : World} {K : Act → World → Prop} {Q : Exit → Act → World → Prop} {E : Prop} (hgd : o.guard = none) (s x : Operand) (t : TypeId)
    (ho : o.op = .call { callee := .builtin .append, args := #[s, x], argTypes := #[t, t] })
    (base : Nat) (e : TypeId) (i : TypeInfo) (z : Value) (size bytes : Nat) (ht : P.underlying t = some (.slice e)) (hi : P.info? e = some i) (hz : i.zero = some z)
    (hsize : i.size = size) (hby : i.bytes = bytes) (hzs : z.cells.size = size) (hsz : 0 < size)
    (v : Value) (n : Nat) (xs : List Value) (hs : a.eval s = v) (hown : w.ownsRow base e size v n xs)
    (ad : Addr) (m c : Nat) (news : List Value) (hx : a.eval x = .slice (some ad) m c) (hl : news.length = m * size) (hnews : ∀ j u, news[j]? = some u → w.cell? (ad.add j) = some u) (h1 : ∀ u ∈ news, u.oneCell' = true)
    (h63 : n + m ≤ maxLen) (hbytes : (n + m) * bytes ≤ 140737488355328) (hbase : base ≤ w.heap.size)
    (h : ∀ v' w', w'.ownsRow base e size v' (n + m) (xs ++ news) → w.grownBy w' v.ownBlock → K (a.put o.dst v') w') : if Region.wanted o (yielded ops a.tmps) = true then Oper.wp P o a w K Q else E := by
  rw [if_pos (by simp [Region.wanted, hgd])]
  exact wp_append_own w s x t ho base e i z size bytes ht hi hz hsize hby hzs hsz v n xs hs hown ad m c news hx hl hnews h1 h63 hbytes hbase fun v' w' a b _ => h v' w' a b

theorem infoStr : ∃ i, Tryz.prog.info? 9 = some i ∧ i.zero = some (.string ⟨#[]⟩) ∧ i.size = 1 ∧ i.bytes = 16 := by
  have h : (Tryz.prog.info? 9).map (fun i => (i.zero, i.size, i.bytes)) = some (some (.string ⟨#[]⟩), 1, 16) := by kernel_rfl
  obtain ⟨i, hi, hz⟩ := Option.map_eq_some_iff.1 h
  simp only [Prod.mk.injEq] at hz
  exact ⟨i, hi, hz.1, hz.2.1, hz.2.2⟩

/-- A slice at A reads as the texts l, in a block from lo on and below hi; of an empty one nothing is asked. -/
def RowS (w : World) (lo hi : Nat) (A : Option Addr) (l : List ByteArray) : Prop :=
  0 < l.length → ∃ b o, A = some ⟨b, o, none⟩ ∧ lo ≤ b ∧ b < hi ∧ ∀ j (h : j < l.length), w.cell? ⟨b, o + j, none⟩ = some (.string (l[j]'h))

theorem RowS.below {w w' : World} {lo hi B : Nat} {A : Option Addr} {l : List ByteArray} (h : RowS w lo hi A l) (hb : Below B w w') (hB : hi ≤ B) : RowS w' lo hi A l := fun hn => by
  obtain ⟨b, o, e, h1, h2, hc⟩ := h hn
  exact ⟨b, o, e, h1, h2, fun j hj => (hb.cell (p := ⟨b, o + j, none⟩) (Nat.lt_of_lt_of_le h2 hB)).trans (hc j hj)⟩
theorem RowS.wide {w : World} {lo hi lo' hi' : Nat} {A : Option Addr} {l : List ByteArray} (h : RowS w lo hi A l) (h1 : lo' ≤ lo) (h2 : hi ≤ hi') : RowS w lo' hi' A l := fun hn => by
  obtain ⟨b, o, e, h3, h4, hc⟩ := h hn
  exact ⟨b, o, e, by omega, by omega, hc⟩
theorem RowS.at_ {w : World} {lo hi k : Nat} {A : Option Addr} {l : List ByteArray} (h : RowS w lo hi A l) (hk : k < l.length) : ∃ b o, A = some ⟨b, o, none⟩ ∧ w.cell? ⟨b, o + k, none⟩ = some (.string (l[k]'hk)) := by
  obtain ⟨b, o, e, _, _, hc⟩ := h (by omega)
  exact ⟨b, o, e, hc k hk⟩

/-- A row of the call's own reads as its texts. -/
theorem RowS.own {w : World} {base n : Nat} {v : Value} {l : List ByteArray} (h : w.ownsRow base 9 1 v n (l.map Value.string)) :
    ∃ A c, v = .slice A n c ∧ n = l.length ∧ n ≤ c ∧ (A = none → c = 0) ∧ RowS w base w.heap.size A l := by
  have hl := h.1
  rw [List.length_map, Nat.mul_one] at hl
  rcases h.2 with ⟨hv, hn⟩ | ⟨g, cap, cur, hv, hb, hg, hc, hcm, _⟩
  · subst hn
    exact ⟨none, 0, hv, hl.symm, Nat.le_refl _, fun _ => rfl, fun hp => by omega⟩
  · refine ⟨_, cap, hv, hl.symm, hc, fun h => (by cases h), fun _ => ⟨g, 0, rfl, hb, (Array.getElem?_eq_some_iff.1 hg).1, fun j hj => ?_⟩⟩
    have := h.cells (g := g) (by rw [hv]; rfl) j (.string (l[j]'hj)) (by simp [hj])
    rwa [addr_at] at this

/-- A new block of one text. -/
theorem RowS.one (w : World) (e : TypeId) (x : ByteArray) : RowS (w.alloc (.cells #[.string x] e)) w.heap.size (w.heap.size + 1) (some ⟨w.heap.size, 0, none⟩) [x] := fun _ => by
  refine ⟨w.heap.size, 0, rfl, Nat.le_refl _, by omega, fun j hj => ?_⟩
  have h0 : j = 0 := by simpa using hj
  subst h0
  simp

theorem own_one (w : World) (x : ByteArray) : (w.alloc (.cells #[.string x] 9)).ownsRow w.heap.size 9 1 (.slice (some ⟨w.heap.size, 0, none⟩) 1 1) 1 ([x].map Value.string) :=
  ⟨rfl, .inr ⟨w.heap.size, 1, #[.string x], rfl, Nat.le_refl _, heap_alloc_new w _, Nat.le_refl _, by decide, rfl, rfl⟩⟩

/-- An append of texts that are read, onto a row of the call's own: the source is nil, empty, or not. -/
theorem append_strs {P : Program} (w : World) {ops : Array Oper} {rest : List Oper} {o : Oper} {a : Act} {Q : Exit → Act → World → Prop} (hgd : o.guard = none) (s x : Operand) (t : TypeId)
    (ho : o.op = .call { callee := .builtin .append, args := #[s, x], argTypes := #[t, t] })
    (base : Nat) (e : TypeId) (i : TypeInfo) (z : Value) (ht : P.underlying t = some (.slice e)) (hi : P.info? e = some i) (hz : i.zero = some z)
    (hsize : i.size = 1) (hby : i.bytes = 16) (hzs : z.cells.size = 1)
    (v : Value) (n : Nat) (l : List ByteArray) (hs : a.eval s = v) (hown : w.ownsRow base e 1 v n (l.map Value.string))
    (lo up : Nat) (A : Option Addr) (m c : Nat) (m' : List ByteArray) (hx : a.eval x = .slice A m c) (hm : m = m'.length) (hnil : A = none → c = 0) (hr : RowS w lo up A m')
    (hbig : l.length + m'.length ≤ 2000000) (hbase : base ≤ w.heap.size)
    (h : ∀ v' w', w'.ownsRow base e 1 v' (n + m) ((l ++ m').map Value.string) → w.grownBy w' v.ownBlock → wpList P ops Q rest (a.put o.dst v') w') : wpList P ops Q (o :: rest) a w := by
  subst hm
  have hn : n = l.length := by have := hown.1; rw [List.length_map] at this; omega
  rcases A with _ | ad
  · have h0 : m' = [] := by
      rcases Nat.eq_zero_or_pos m'.length with h0 | h0
      · exact List.eq_nil_of_length_eq_zero h0
      · obtain ⟨b, o, hA, _⟩ := hr h0
        cases hA
    subst h0
    obtain rfl := hnil rfl
    refine wpList_append_own_none hgd s x t ho base e i 1 ht hi v n (l.map Value.string) hs hown hx ?_
    exact h v w (by simpa using hown) ⟨rfl, rfl, rfl, Nat.le_refl _, fun _ _ _ => rfl⟩
  · refine wpList_append_own w hgd s x t ho base e i z 1 16 ht hi hz hsize hby hzs (by omega) v n (l.map Value.string) hs hown ad m'.length c (m'.map Value.string) hx (by simp) ?_ ?_ (by unfold maxLen; omega) (by omega) hbase ?_
    · intro j u hu
      simp only [List.getElem?_map, Option.map_eq_some_iff] at hu
      obtain ⟨y, hy, rfl⟩ := hu
      obtain ⟨hj, rfl⟩ := List.getElem?_eq_some_iff.1 hy
      obtain ⟨b, o, hA, _, _, hc⟩ := hr (by omega)
      injection hA with hA
      subst hA
      rw [addr_at]
      exact hc j hj
    · intro u hu
      simp only [List.mem_map] at hu
      obtain ⟨y, _, rfl⟩ := hu
      rfl
    · intro v' w' h1 h2 _
      exact h v' w' (by rw [List.map_append]; exact h1) h2
end Go.Proofs.YtfpjepeikjfkpaaGreatDoor

/-
  Slices of texts beside errors: see Strs.
-/

/-
  gather and Trail of package fault, of any error that is made of places around an end: the places, in order, as a new slice.
-/
namespace Go.Proofs.YtfpjepeikjfkpaaGreatDoor
open Go.RowKit

theorem neqPP (a : Addr) (w : World) : (binOp .neq 34 (.iface 90 (.pointer (some a))) (.iface 90 (.pointer (some a)))).run Tryz.prog w = .ok (.bool false) w := by
  have h1 : (Tryz.prog.info? 90).map (·.comparable) = some true := by kernel_rfl
  have h2 : (Tryz.prog.info? 92).map (fun _ => ()) = some () := by kernel_rfl
  obtain ⟨i, hi, hc⟩ := Option.map_eq_some_iff.1 h1
  obtain ⟨j, hj, _⟩ := Option.map_eq_some_iff.1 h2
  simp only [binOp]
  simp [Op.equal, Op.maxDepth, run_equalIn_iface_ptr_same w 9998 a Tryz.underlying34 Tryz.underlying90 hi hc hj]

theorem endVal_cases (e : End) : endVal e = .nilIface ∨ ∃ n, endVal e = .iface 25 (.int .i64 n) := by
  rcases e with _ | n | x
  · exact .inl rfl
  · exact .inr ⟨n, rfl⟩
  · exact x.elim

/-- What holds at the head of gather's loop, when k places are still to come: those that were passed are gathered. -/
def Gath (ps : List ByteArray) (e : End) (hi pp : Nat) (w : World) (k : Nat) (u : Value) (wr : World) : Prop :=
  ∃ done rest sv nv, done ++ rest = ps ∧ rest.length = k ∧ Err wr hi e rest u ∧ wr.cell? ⟨pp, 0, none⟩ = some sv ∧ wr.frozen? ⟨pp, 0, none⟩ = false ∧ wr.ownsRow (w.heap.size + 1) 9 1 sv done.length (done.map Value.string)
    ∧ wr.cell? ⟨w.heap.size, 0, none⟩ = some (.pointer nv) ∧ wr.frozen? ⟨w.heap.size, 0, none⟩ = false ∧ Below pp w wr ∧ w.heap.size + 1 ≤ wr.heap.size ∧ Glob wr

theorem gather_step {ps done rest : List ByteArray} {q : ByteArray} {e : End} {hi pp g cap : Nat} {w w2 w3 : World} {sv u : Value} {nv : Option Addr} (hd : done ++ q :: rest = ps) (hr : Err w2 hi e rest u)
    (h1 : w2.cell? ⟨pp, 0, none⟩ = some sv) (h2 : w2.frozen? ⟨pp, 0, none⟩ = false) (h4 : w2.cell? ⟨w.heap.size, 0, none⟩ = some (.pointer nv)) (h5 : w2.frozen? ⟨w.heap.size, 0, none⟩ = false)
    (h6 : Below pp w w2) (h7 : w.heap.size + 1 ≤ w2.heap.size) (h8 : Glob w2) (hhi : hi ≤ pp) (hp : pp < w.heap.size) (hGp : 8 ≤ pp)
    (h9 : w3.ownsRow (w.heap.size + 1) 9 1 (.slice (some ⟨g, 0, none⟩) (done.length + 1) cap) (done.length + 1) (done.map Value.string ++ [Value.string q]) ∧ Below (w.heap.size + 1) w2 w3) :
    Gath ps e hi pp w rest.length u (w3.setCell ⟨pp, 0, none⟩ (.slice (some ⟨g, 0, none⟩) (done.length + 1) cap)) := by
  obtain ⟨ho, hb⟩ := h9
  have hb' : Below pp w2 (w3.setCell ⟨pp, 0, none⟩ (.slice (some ⟨g, 0, none⟩) (done.length + 1) cap)) := (hb.mono (B' := pp) (by omega)).setCell (Nat.le_refl _) _
  have c := bcell hb (by omega) h1
  refine ⟨done ++ [q], rest, _, nv, by simp [← hd], rfl, hr.below hb' hhi, World.cell?_setCell_same _ _ _ c, ?_, ?_, ?_, ?_, h6.trans hb', ?_, h8.below hb' hGp⟩
  · rw [World.frozen?_setCell]; exact bfrozen hb (by omega) h2
  · have h := ownsRow_setCell_below ho (a := ⟨pp, 0, none⟩) (by show pp < w.heap.size + 1; omega) (.slice (some ⟨g, 0, none⟩) (done.length + 1) cap)
    simpa using h
  · rw [World.cell?_setCell_other _ _ _ _ (by intro h; injection h; omega)]; exact bcell hb (by omega) h4
  · rw [World.frozen?_setCell]; exact bfrozen hb (by omega) h5
  · have := hb.size; simp [World.setCell]; omega

set_option maxHeartbeats 1000000 in
theorem gather_any (ps : List ByteArray) (v : Value) (e : End) (hi pp : Nat) (w : World) (he : Err w hi e ps v) (hhi : hi ≤ pp) (hpp : pp + 1 = w.heap.size) (hps : ps.length ≤ 1000000) (hG : Glob w) (hGp : 8 ≤ pp)
    (hp : w.cell? ⟨pp, 0, none⟩ = some (.slice none 0 0)) (hf : w.frozen? ⟨pp, 0, none⟩ = false) :
    Calls Tryz.prog 42 #[.pointer (some ⟨pp, 0, none⟩), v] w
      fun r w' => r = .returned (.tuple #[]) ∧ ∃ sv, w'.cell? ⟨pp, 0, none⟩ = some sv ∧ w'.ownsRow pp 9 1 sv ps.length (ps.map Value.string) ∧ Below pp w w' := by
  have HP := Lib.hid hpp
  clear hpp
  go_enter Tryz.func42, Tryz.ntmps42
  go_wp2_with fail
  go_loopg [1] ps.length (fun k u wr => Gath ps e hi pp w k u wr)
  case atStart =>
    have hb : Below (pp + 1) w (w.alloc (.cells #[.pointer none] 90)) := (Below.refl _ w).alloc (by rw [HP.out]; exact Nat.le_refl _) _
    exact ⟨[], ps, _, none, rfl, rfl, he.below hb (by omega), bcell hb (by omega) hp, bfrozen hb (by omega) hf, World.ownsRow_nil _ _ _ _, by simp, by simp, hb.mono (by omega), by simp, hG.below hb (by omega)⟩
  case round =>
    obtain ⟨i0, hi0, hz0, hz1, hz2⟩ := infoStr
    have I0 := Lib.hid hi0
    have I1 := Lib.hid hz0
    have I2 := Lib.hid hz1
    have I3 := Lib.hid hz2
    clear hi0 hz0 hz1 hz2
    obtain ⟨done, rest, sv, nv, hd, hk, hr, h1, h2, h3, h4, h5, h6, h7, h8⟩ := hrel
    have HD := Lib.hid hd
    have HK := Lib.hid hk
    have HO := Lib.hid h3
    have HB := Lib.hid h6
    have HG := Lib.hid h8
    clear hd hk h3 h6 h8 hG he hp hf
    rcases rest with _ | ⟨q, rest⟩
    · have hdone : done = ps := by simpa using HD.out
      subst hdone
      have HF := Lib.hid (show ∀ w', Below wr.heap.size wr w' → ∃ sv, w'.cell? ⟨pp, 0, none⟩ = some sv ∧ w'.ownsRow pp 9 1 sv done.length (done.map Value.string) ∧ Below pp w w' from fun w' hw => by
        have e1 := HP.out
        exact ⟨sv, bcell hw (by omega) h1, ownF_below HO.out (fun g _ hg => hw.block g hg) (by omega), HB.out.trans (hw.mono (by omega))⟩)
      have hu : u1 = endVal e := hr
      clear hr HO HB HD HK h1 h2 h4 h5
      rcases endVal_cases e with h | ⟨n, h⟩
      · obtain rfl : u1 = .nilIface := hu.trans h
        clear hu h
        go_wp2_with fail
        refine (As_none _ _).mono ?_
        rintro r w2 ⟨rfl, rfl⟩
        go_wp2_with fail
        go_end0
        exact ⟨rfl, HF.out _ (Below.refl _ _)⟩
      · obtain rfl : u1 = .iface 25 (.int .i64 n) := hu.trans h
        clear hu h
        go_wp2_with fail
        refine (AsP_num n _ _ HG.out).mono ?_
        rintro r w2 ⟨rfl, hb⟩
        have HF2 := Lib.hid (HF.out _ hb)
        clear HF hb HG
        go_wp2_with fail
        go_end0
        exact ⟨rfl, HF2.out⟩
    · obtain ⟨b, u, rfl, hb, hc, hr⟩ := hr
      have HC := Lib.hid hc
      have HR := Lib.hid hr
      clear hc hr
      go_wp2_with fail
      refine (AsP_hit b w.heap.size _ _ HG.out h4 h5).mono ?_
      rintro r w2 ⟨rfl, hb2⟩
      have e1 : w.heap.size = pp + 1 := HP.out.symm
      have b2 : Below (w.heap.size) wr w2 := ⟨hb2.os, hb2.tape, hb2.output, by simpa [World.setCell] using hb2.size, fun k hk => (hb2.block k (by omega)).trans (Below.heap_setCell _ _ _ _ (by show k ≠ w.heap.size; omega))⟩
      have s2 : wr.heap.size ≤ w2.heap.size := b2.size
      have c1 : w2.cell? ⟨w.heap.size, 0, none⟩ = some (.pointer (some ⟨b, 0, none⟩)) := bcell hb2 (by omega) (World.cell?_setCell_same _ _ _ h4)
      have c2 := bcell b2 (by omega) h1
      have c3 := bfrozen b2 (by omega) h2
      have k1 : w2.heap[b]? = some (.cells #[.string q, u] 92 (0, 0)) := (b2.block b (by omega)).trans HC.out
      have c4 : w2.cell? ⟨b, 0, none⟩ = some (.string q) := by simp [World.cell?, k1]
      have c5 : w2.cell? ⟨b, 1, none⟩ = some u := by simp [World.cell?, k1]
      have c6 : w2.frozen? ⟨w.heap.size, 0, none⟩ = false := bfrozen hb2 (by omega) (by rw [World.frozen?_setCell]; exact h5)
      have HO2 := Lib.hid (ownF_below (w' := w2) (B' := w.heap.size + 1) HO.out (fun g h1 h2 => (hb2.block g h2).trans (Below.heap_setCell _ _ _ _ (by show g ≠ w.heap.size; omega))) (Nat.le_refl _))
      have HR2 := Lib.hid (HR.out.below b2 (by omega))
      have HB2 := Lib.hid (HB.out.trans (b2.mono (by omega)))
      have HG2 := Lib.hid (HG.out.below b2 (by omega))
      have hpn : pp < w.heap.size := by omega
      have hbn : b < pp := by omega
      clear HB HG HO HR HC h1 h2 h4 h5 hb2 b2 k1 e1
      have fn := neqPP
      have c11 := cell_alloc c2 (.cells #[.string q] 9)
      have hlen : done.length + (rest.length + 1) = ps.length := by rw [← HD.out]; simp
      have HO3 := Lib.hid (ownF_below (w' := w2.alloc (.cells #[.string q] 9)) (B' := w.heap.size + 1) HO2.out (fun g h1 h2 => Below.heap_alloc _ _ _ h2) (Nat.le_refl _))
      have HN := Lib.hid (show ∀ j u, [Value.string q][j]? = some u → (w2.alloc (.cells #[.string q] 9)).cell? ((⟨w2.heap.size, 0, none⟩ : Addr).add j) = some u from fun j u h => by
        rcases j with _ | j
        · simp at h; subst h; simp [Addr.add]
        · simp at h)
      go_wp2_with fail
      refine wp_loop_rounds 1 ?_
      rw [rounds_succ]
      go_wp2_with fail
      go_region_law ((refine step_append_own rfl (.tmp 26) (.tmp 31) 72 rfl (w.heap.size + 1) 9 _ _ 1 16 Tryz.underlying72 I0.out I1.out I2.out I3.out rfl (by decide) sv done.length (done.map Value.string) (by simp [Act.eval]) HO3.out ⟨w2.heap.size, 0, none⟩ 1 1 [.string q] (by simp [Act.eval]) rfl HN.out (by simp [Value.oneCell']) (by unfold maxLen; omega) (by omega) (by simp; omega) ?_; intro v' w3 hown hgr; have hB3 : Below (w.heap.size + 1) w2 w3 := ((((Below.refl _ w2).alloc (by omega) _).drew).grown hgr (by simp; omega) (own_row HO3.out)); have c7 := bcell hB3 (by omega) c2; have c8 := bfrozen hB3 (by omega) c3; have c9 := bcell hB3 (by omega) c1; have c10 := bcell hB3 (by omega) c5; have HX := Lib.hid (And.intro hown hB3); obtain ⟨g, cap, rfl⟩ := Joins.ownsRow_form hown (by omega); clear hown hgr hB3))
      all_goals
        go_wp2_with fail
        go_roundg rest.length
        case measure => have := HK.out; simp at this; omega
        case rel =>
          exact gather_step HD.out HR2.out c2 c3 c1 c6 HB2.out (by omega) HG2.out hhi hpn hGp HX.out

theorem trail1_any (ps : List ByteArray) (v : Value) (e : End) (hi pp pe : Nat) (w : World) (he : Err w hi e ps v) (hhi : hi ≤ pp) (hpp : pp + 1 = w.heap.size) (hps : ps.length ≤ 1000000) (hG : Glob w) (hGp : 8 ≤ pp)
    (hp : w.cell? ⟨pp, 0, none⟩ = some (.slice none 0 0)) (hf : w.frozen? ⟨pp, 0, none⟩ = false) (hv : w.cell? ⟨pe, 0, none⟩ = some v) :
    Calls Tryz.prog 41 #[.pointer (some ⟨pp, 0, none⟩), .pointer (some ⟨pe, 0, none⟩)] w
      fun r w' => r = .returned (.tuple #[]) ∧ ∃ sv, w'.cell? ⟨pp, 0, none⟩ = some sv ∧ w'.ownsRow pp 9 1 sv ps.length (ps.map Value.string) ∧ Below pp w w' := by
  have H := Lib.hid (gather_any ps v e hi pp w he hhi hpp hps hG hGp hp hf)
  clear he hpp hps hG hp hf
  go_enter Tryz.func41, Tryz.ntmps41
  go_wp2_with fail
  refine (H.out).mono ?_
  rintro r w2 ⟨rfl, hq⟩
  have HQ := Lib.hid hq
  clear hq H hv
  go_wp2_with fail
  go_end0
  exact ⟨rfl, HQ.out⟩

/-- A call has made a new slice of these texts, and has changed nothing that was there. -/
def RetS (l : List ByteArray) (w : World) (r : Ending) (w' : World) : Prop :=
  ∃ sv, r = .returned sv ∧ w'.ownsRow w.heap.size 9 1 sv l.length (l.map Value.string) ∧ Below w.heap.size w w'

set_option maxHeartbeats 1000000 in
theorem trail_core (ps : List ByteArray) (v : Value) (w : World) (hv : v = .nilIface ∨ ∃ t x, v = .iface t x)
    (H : Calls Tryz.prog 41 #[.pointer (some ⟨w.heap.size + 1, 0, none⟩), .pointer (some ⟨w.heap.size, 0, none⟩)] ((w.alloc (.cells #[v] 34)).alloc (.cells #[.slice none 0 0] 72))
      fun r w' => r = .returned (.tuple #[]) ∧ ∃ sv, w'.cell? ⟨w.heap.size + 1, 0, none⟩ = some sv ∧ w'.ownsRow (w.heap.size + 1) 9 1 sv ps.length (ps.map Value.string) ∧ Below (w.heap.size + 1) ((w.alloc (.cells #[v] 34)).alloc (.cells #[.slice none 0 0] 72)) w') :
    Calls Tryz.prog 21 #[v] w (RetS ps w) := by
  have hmf : ∀ (fn : Fn) (first cap : Array Value) (w : World), (Instr.makeFunc fn first cap).run Tryz.prog w = .ok (.func fn first cap) w := fun _ _ _ _ => rfl
  have hs := safely_of 41 _ _ _ (by kernel_rfl) H
  have HS := Lib.hid hs
  clear hs H
  rcases hv with rfl | ⟨t, x, rfl⟩
  all_goals
    go_enter Tryz.func21, Tryz.ntmps21
    go_wp2_with fail
    refine (HS.out).mono ?_
    rintro r w2 ⟨rfl, sv, hc, ho, hb⟩
    have HQ := Lib.hid (And.intro ho hb)
    clear ho hb HS
    go_wp2_with fail
    go_ret
    exact ⟨sv, rfl, ownF_below HQ.out.1 (fun _ _ _ => rfl) (by omega), (((Below.refl _ w).alloc (Nat.le_refl _) _).alloc (by simp) _).trans (HQ.out.2.mono (by omega))⟩

theorem Err.nil_or {w : World} {hi : Nat} {e : End} {ps : List ByteArray} {v : Value} (h : Err w hi e ps v) : v = .nilIface ∨ ∃ t x, v = .iface t x := by
  rcases ps with _ | ⟨p, ps⟩
  · rcases e with _ | n | x
    · exact .inl h
    · exact .inr ⟨_, _, h⟩
    · exact x.elim
  · obtain ⟨b, u, rfl, _⟩ := h
    exact .inr ⟨_, _, rfl⟩

theorem trail_any (ps : List ByteArray) (v : Value) (e : End) (hi : Nat) (w : World) (he : Err w hi e ps v) (hhi : hi ≤ w.heap.size) (hps : ps.length ≤ 1000000) (hG : Glob w) :
    Calls Tryz.prog 21 #[v] w (RetS ps w) := by
  have HB : Below w.heap.size w ((w.alloc (.cells #[v] 34)).alloc (.cells #[.slice none 0 0] 72)) := ((Below.refl _ w).alloc (Nat.le_refl _) _).alloc (by simp) _
  have hg := hG.big
  exact trail_core ps v w he.nil_or (trail1_any ps v e hi _ _ _ (he.below HB hhi) (by omega) (by simp) hps (hG.below HB hg) (by omega) (by simp) (by simp) (by simp))
end Go.Proofs.YtfpjepeikjfkpaaGreatDoor
