import Derived.Test.YtfdiidhilonkoaaZC23
import Derived.Test.YtfdiidhilonkoaaZC26
import Derived.Deep.LoopGhost
import Derived.IntWalk
import Derived.Test.YtfdiidhilonkoaaZC24
set_option linter.unusedVariables false
/-
  Package order: does one of those that are left wait for another one?
-/
namespace Go.Proofs.Ytfdiidhilonkoaa
open Go.RowKit

section
variable {w w' : World} {L : LayO} {lo : Nat} {A : Option Addr} {c : Nat} {ms : List MZ} {dn : Nat → Bool} {p1 n1 p2 n2 : Nat → Nat} {ah : Nat → Int}
theorem RestM.rcells (h : RestM w L lo A c ms dn p1 n1 p2 n2 ah) : w.cell? ⟨L.r, 0, none⟩ = some (.slice A ms.length c) ∧ w.cell? ⟨L.r, 1, none⟩ = some (.func (.func 30) #[] #[.pointer (some ⟨L.d0, 0, none⟩)]) ∧ w.cell? ⟨L.r, 2, none⟩ = some (.func (.func 31) #[] #[.pointer (some ⟨L.d0, 0, none⟩)]) ∧
    w.cell? ⟨L.r, 3, none⟩ = some (.pointer (some ⟨L.q1, 0, none⟩)) ∧ w.cell? ⟨L.r, 4, none⟩ = some (.pointer (some ⟨L.q2, 0, none⟩)) ∧ w.cell? ⟨L.r, 5, none⟩ = some (.slice (some ⟨L.a, 0, none⟩) ms.length ms.length) ∧
    w.cell? ⟨L.q1, 0, none⟩ = some (.slice (some ⟨L.g1, 0, none⟩) ms.length ms.length) ∧ w.cell? ⟨L.q2, 0, none⟩ = some (.slice (some ⟨L.g2, 0, none⟩) ms.length ms.length) :=
  ⟨cell_of_row _ _ 0 _ _ _ h.box, cell_of_row _ _ 1 _ _ _ h.box, cell_of_row _ _ 2 _ _ _ h.box, cell_of_row _ _ 3 _ _ _ h.box, cell_of_row _ _ 4 _ _ _ h.box, cell_of_row _ _ 5 _ _ _ h.box, cell_of_row _ _ 0 _ _ _ h.r1.box, cell_of_row _ _ 0 _ _ _ h.r2.box⟩
def SevenAt (w : World) (b o : Nat) (x : MZ) : Prop := ∀ q u, (mzCells x)[q]? = some u → w.cell? ⟨b, o + q, none⟩ = some u
theorem SevenAt.below {b o : Nat} {x : MZ} (h : SevenAt w b o x) (hb : Below w.heap.size w w') (hl : b < w.heap.size) : SevenAt w' b o x := fun q u hu => (hb.cell (p := ⟨b, o + q, none⟩) hl).trans (h q u hu)
theorem SevenAt.all {b o : Nat} {x : MZ} (h : SevenAt w b o x) : w.cell? ⟨b, o, none⟩ = some (.int .i64 x.d.id) ∧ w.cell? ⟨b, o + 1, none⟩ = some (.int .u64 x.d.began) ∧ w.cell? ⟨b, o + 2, none⟩ = some (.int .u64 x.d.at_) ∧ w.cell? ⟨b, o + 3, none⟩ = some (.int .i64 x.d.start) ∧ w.cell? ⟨b, o + 4, none⟩ = some (.int .i64 x.d.end_) ∧
    w.cell? ⟨b, o + 5, none⟩ = some (.slice x.A x.d.reads.length x.c) ∧ w.cell? ⟨b, o + 6, none⟩ = some (.slice x.B x.d.writes.length x.e) :=
  ⟨h 0 _ rfl, h 1 _ rfl, h 2 _ rfl, h 3 _ rfl, h 4 _ rfl, h 5 _ rfl, h 6 _ rfl⟩
theorem ChZ.elem2 (h : ChZ w lo A c ms) {i j : Nat} (hi : i < ms.length) (hj : j < ms.length) : ∃ b o, A = some ⟨b, o, none⟩ ∧ b < lo ∧ SevenAt w b (o + i * 7) (ms[i]'hi) ∧ SevenAt w b (o + j * 7) (ms[j]'hj) := by
  obtain ⟨b, o, e, _, hb, hc⟩ := h.2.2.2.1.at_ mzF hi
  obtain ⟨b2, o2, e2, _, _, hc2⟩ := h.2.2.2.1.at_ mzF hj
  rw [e] at e2
  injection e2 with e2
  injection e2 with e3 e4
  subst e3 e4
  exact ⟨b, o, e, hb, hc, hc2⟩
theorem RestM.told (h : RestM w L lo A c ms dn p1 n1 p2 n2 ah) (W : World) (x : Nat) (hx : x < ms.length) (hW : Below w.heap.size w W) :
    Calls Try.prog 30 #[.int .i64 (x : Nat), .pointer (some ⟨L.d0, 0, none⟩)] W fun r w' => r = .returned (.bool (dn x)) ∧ Below W.heap.size W w' :=
  laid_any L.d0 L.D ms.length dn W (heap_below h.d0 hW (lt_of_heap h.d0)) (h.bools.keep (hW.block _ h.bools.lt)) x hx
theorem from1_any (h : RestE w L lo A c ms dn p1 p2) (z : Int) (k : Nat) (hz : z = (k : Int)) (hk : k ≤ ms.length) :
    Calls Try.prog 25 #[.pointer (some ⟨L.q1, 0, none⟩), .int .i64 z] w fun r w' => ∃ e : Nat, r = .returned (.int .i64 (e : Nat)) ∧ FromP dn p1 ms.length k e ∧ RestE w' L lo A c ms dn p1 p2 ∧ Mut (mvO L) w w' := by
  subst hz
  obtain ⟨hlo, n1, n2, ah, hM⟩ := h
  have hq := hM.ok.mv (k := L.h1) (.inr (.inl rfl))
  refine (from_any dn p1 n1 L.q1 L.g1 L.h1 ms.length k 30 #[.pointer (some ⟨L.d0, 0, none⟩)] w hM.r1 hq.2.2.1.symm hq.2.2.2.1.symm hM.nx1 (fun i hi => by have := hM.by1.in_ i (by rw [dz_len]; exact hi); rwa [dz_len] at this) hk (by have := hM.len; omega) (enters_of Try.func30 (by kernel_rfl) rfl) (fun W x hx hW => hM.told W x hx hW)).mono ?_
  rintro r w' ⟨e, nn, rfl, h1, h2, h3, h4⟩
  exact ⟨e, rfl, h1, ⟨Nat.le_trans hlo h4.size, nn, n2, ah, hM.row1 hlo h4 h3 h2⟩, h4.wide fun k q => .inr (.inl q)⟩
theorem from2_any (h : RestE w L lo A c ms dn p1 p2) (z : Int) (k : Nat) (hz : z = (k : Int)) (hk : k ≤ ms.length) :
    Calls Try.prog 25 #[.pointer (some ⟨L.q2, 0, none⟩), .int .i64 z] w fun r w' => ∃ e : Nat, r = .returned (.int .i64 (e : Nat)) ∧ FromP dn p2 ms.length k e ∧ RestE w' L lo A c ms dn p1 p2 ∧ Mut (mvO L) w w' := by
  subst hz
  obtain ⟨hlo, n1, n2, ah, hM⟩ := h
  have hq := hM.ok.mv (k := L.h2) (.inr (.inr (.inl rfl)))
  refine (from_any dn p2 n2 L.q2 L.g2 L.h2 ms.length k 30 #[.pointer (some ⟨L.d0, 0, none⟩)] w hM.r2 hq.2.2.2.2.1.symm hq.2.2.2.2.2.1.symm hM.nx2 (fun i hi => by have := hM.by2.in_ i (by rw [dz_len]; exact hi); rwa [dz_len] at this) hk (by have := hM.len; omega) (enters_of Try.func30 (by kernel_rfl) rfl) (fun W x hx hW => hM.told W x hx hW)).mono ?_
  rintro r w' ⟨e, nn, rfl, h1, h2, h3, h4⟩
  exact ⟨e, rfl, h1, ⟨Nat.le_trans hlo h4.size, n1, nn, ah, hM.row2 hlo h4 h3 h2⟩, h4.wide fun k q => .inr (.inr (.inl q))⟩
theorem RestE.in1 (h : RestE w L lo A c ms dn p1 p2) {k : Nat} (hk : k < ms.length) : p1 k < ms.length := by
  obtain ⟨_, n1, n2, ah, hM⟩ := h
  have := hM.by1.in_ k (by rw [dz_len]; exact hk)
  rwa [dz_len] at this
theorem RestE.in2 (h : RestE w L lo A c ms dn p1 p2) {k : Nat} (hk : k < ms.length) : p2 k < ms.length := by
  obtain ⟨_, n1, n2, ah, hM⟩ := h
  have := hM.by2.in_ k (by rw [dz_len]; exact hk)
  rwa [dz_len] at this
end
theorem Mut.two {F : Nat → Prop} {w w1 w2 : World} (h : Mut F w w1) (k : Mut F w1 w2) : Mut F w w2 := h.trans k fun _ e => .inl e
end Go.Proofs.Ytfdiidhilonkoaa

/-
  Package order: rows as they are sorted; what restOf makes, step by step.
-/
namespace Go.Proofs.Ytfdiidhilonkoaa
open Go.RowKit

theorem perm_from {n : Nat} {e : Nat → Int} (h : PermO (upTo n 0) e 0 n) : ∃ p : Nat → Nat, (∀ k, k < n → e k = (p k : Int) ∧ p k < n) ∧ ∀ x, x < n → ∃ k, k < n ∧ p k = x := by
  obtain ⟨p, p1, p2, p3, p4⟩ := h
  refine ⟨p, fun k hk => ?_, fun x hx => ?_⟩
  · have := (p4 k (Nat.zero_le _) hk).2
    refine ⟨?_, this⟩
    rw [p1]
    unfold upTo
    rw [if_pos this]
    simp
  · have hn : ((List.range n).map p).Nodup := by
      unfold List.Nodup
      rw [List.pairwise_map]
      exact List.nodup_range.imp fun {a b} hab e => hab (p2 _ _ e)
    have := nodup_all hn (n := n) (fun a ha => by
      obtain ⟨k, hk, rfl⟩ := List.mem_map.1 ha
      exact (p4 k (Nat.zero_le _) (List.mem_range.1 hk)).2) (by simp) x hx
    obtain ⟨k, hk, e⟩ := List.mem_map.1 this
    exact ⟨k, List.mem_range.1 hk, e⟩
theorem byEnd_of {l : List DoneZ} {n : Nat} (hl : l.length = n) {e : Nat → Int} (h : PermO (upTo n 0) e 0 n) (s : SortK (fun v => (atD l v.toNat).end_) e 0 n) : ∃ p : Nat → Nat, (∀ k, k < n → e k = (p k : Int)) ∧ ByEnd l p := by
  obtain ⟨p, h1, h2⟩ := perm_from h
  subst hl
  refine ⟨p, fun k hk => (h1 k hk).1, fun k hk => (h1 k hk).2, h2, fun i j hij hj => ?_⟩
  have := s i j (Nat.zero_le _) hij hj
  rw [(h1 i (by omega)).1, (h1 j hj).1] at this
  unfold ltK at this
  simp only [Int.toNat_natCast] at this
  omega
theorem byBegan_of {l : List DoneZ} {n : Nat} (hl : l.length = n) {e : Nat → Int} (h : PermO (upTo n 0) e 0 n) (s : SortK (fun v => ((atD l v.toNat).began : Int)) e 0 n) : ∃ p : Nat → Nat, (∀ k, k < n → e k = (p k : Int)) ∧ ByBegan l p := by
  obtain ⟨p, h1, h2⟩ := perm_from h
  subst hl
  refine ⟨p, fun k hk => (h1 k hk).1, fun k hk => (h1 k hk).2, h2, fun i j hij hj => ?_⟩
  rcases Nat.lt_or_ge i j with z | z
  · have := s i j (Nat.zero_le _) z hj
    rw [(h1 i (by omega)).1, (h1 j hj).1] at this
    unfold ltK at this
    simp only [Int.toNat_natCast] at this
    omega
  · have : i = j := by omega
    subst this
    exact Nat.le_refl _
def upM (k : Nat) : Nat → Int := fun i => if i < k then -1 else 0
structure RestN (w0 w : World) (L : LayO) (A : Option Addr) (c : Nat) (ms : List MZ) (e1 e2 : Nat → Int) (k : Nat) : Prop where
  ok : L.Ok w0.heap.size
  below : Below w0.heap.size w0 w
  box : w.heap[L.r]? = some (.cells #[.slice A ms.length c, laidV L, layV L, .pointer (some ⟨L.q1, 0, none⟩), .pointer (some ⟨L.q2, 0, none⟩), .slice (some ⟨L.a, 0, none⟩) ms.length ms.length] 45 (0, 0))
  d0 : w.heap[L.d0]? = some (.cells #[.slice (some ⟨L.D, 0, none⟩) ms.length ms.length] 55 (0, 0))
  bools : BoolsAt w L.D ms.length fun _ => false
  b1 : BoxRow L.q1 L.g1 L.h1 ms.length (laidV L) w
  pl1 : IntsAt w L.g1 ms.length e1
  nx1 : IntsAt w L.h1 ms.length (upTo ms.length 1)
  b2 : BoxRow L.q2 L.g2 L.h2 ms.length (laidV L) w
  pl2 : IntsAt w L.g2 ms.length e2
  nx2 : IntsAt w L.h2 ms.length (upTo ms.length 1)
  ahd : IntsAt w L.a ms.length (upM k)
theorem RestN.step {w0 w : World} {L : LayO} {A : Option Addr} {c : Nat} {ms : List MZ} {e1 e2 : Nat → Int} {k : Nat} (h : RestN w0 w L A c ms e1 e2 k) : RestN w0 (w.setCell ⟨L.a, k, none⟩ (.int .i64 (-1))) L A c ms e1 e2 (k + 1) := by
  have hm := mut_setI w L.a k (.int .i64 (-1))
  have f := h.ok.four
  have a := h.ok.ma
  refine ⟨h.ok, h.below.setCell a.2.2.2.2.2.2 _, (hm.block _ (lt_of_heap h.box) (fun e => a.1 e.symm)).trans h.box, (hm.block _ (lt_of_heap h.d0) (fun e => a.2.1 e.symm)).trans h.d0, h.bools.keep (hm.block _ h.bools.lt f.2.2.1),
    (hm.block _ (lt_of_heap h.b1) (fun e => a.2.2.1 e.symm)).trans h.b1, h.pl1.keep (hm.block _ h.pl1.lt (fun e => a.2.2.2.1 e.symm)), h.nx1.keep (hm.block _ h.nx1.lt f.2.2.2.2.1),
    (hm.block _ (lt_of_heap h.b2) (fun e => a.2.2.2.2.1 e.symm)).trans h.b2, h.pl2.keep (hm.block _ h.pl2.lt (fun e => a.2.2.2.2.2.1 e.symm)), h.nx2.keep (hm.block _ h.nx2.lt f.2.2.2.2.2), (h.ahd.set k (-1)).eq fun i _ => ?_⟩
  unfold updI upM
  repeat' split
  all_goals first | rfl | omega
theorem nextP_start (dn : Nat → Bool) (pp : Nat → Nat) (n : Nat) : NextP dn pp (fun i => i + 1) n := fun i hi => ⟨Nat.lt_succ_self i, hi, fun j a b => by
  have : j < i + 1 := b
  omega⟩
theorem RestN.rest {w0 w : World} {L : LayO} {A : Option Addr} {c : Nat} {ms : List MZ} {e1 e2 : Nat → Int} (h : RestN w0 w L A c ms e1 e2 ms.length) (hr : ChZ w0 w0.heap.size A c ms) (hf : ∀ x ∈ ms, fewMZ x) (hl : ms.length ≤ 1000)
    (m1 : PermO (upTo ms.length 0) e1 0 ms.length) (s1 : SortK (fun v => (atD (dz ms) v.toNat).end_) e1 0 ms.length) (m2 : PermO (upTo ms.length 0) e2 0 ms.length) (s2 : SortK (fun v => ((atD (dz ms) v.toNat).began : Int)) e2 0 ms.length) :
    ∃ p1 p2, RestE w L w0.heap.size A c ms (fun _ => false) p1 p2 := by
  obtain ⟨p1, q1, r1⟩ := byEnd_of (dz_len ms) m1 s1
  obtain ⟨p2, q2, r2⟩ := byBegan_of (dz_len ms) m2 s2
  have hup : ∀ i, i < ms.length → upTo ms.length 1 i = ((i + 1 : Nat) : Int) := fun i hi => by unfold upTo; rw [if_pos hi]; omega
  refine ⟨p1, p2, h.below.size, fun i => i + 1, fun i => i + 1, fun _ => -1, h.ok, h.box, h.d0, h.bools, ⟨h.b1, h.pl1.eq q1, h.nx1.eq hup⟩, ⟨h.b2, h.pl2.eq q2, h.nx2.eq hup⟩, h.ahd.eq (fun i hi => by unfold upM; rw [if_pos hi]), hr.below h.below (Nat.le_refl _) (Nat.le_refl _), hf, hl, r1, r2, nextP_start _ _ _, nextP_start _ _ _, fun i _ => aheadP_start _ _ _ _⟩
/-! ### truths that are made -/
theorem mkBools (n : Nat) (hn : n ≤ 1000000) (w : World) : (Instr.makeSlice 55 (.int .i64 (n : Int)) (.int .i64 (n : Int))).run Try.prog w = .ok (.slice (some ⟨w.heap.size, 0, none⟩) n n) (w.alloc (.cells (madeCells #[.bool false] n) 4)) :=
  run_make_row' 55 4 (.bool false) 1 (by first | rfl | kernel_rfl) (by kernel_rfl) rfl .i64 .i64 n (by omega) (by omega) w
theorem madeBools {w : World} {g n : Nat} (h : w.heap[g]? = some (.cells (madeCells #[.bool false] n) 4 (0, 0))) : BoolsAt w g n fun _ => false :=
  ⟨_, h, fun i hi => by simp [madeCells, hi, Nat.mod_one]⟩
end Go.Proofs.Ytfdiidhilonkoaa
