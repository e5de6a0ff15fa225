import Derived.Test.YtooegjdppeiccaaZC14
import Derived.Test.YtooegjdppeiccaaZC44
import Derived.Deep.LoopGhost
/-
  The walk of StoreDoes.
-/
namespace Go.Proofs.Ytooegjdppeiccaa
open Go.RowKit

theorem eq_sizesD (x y z : Int) (w : World) : (Op.equalIn 10000 49 (.agg #[.int .i64 x, .int .i64 y, .int .i64 z]) (.agg #[.int .i64 x, .int .i64 y, .int .i64 z])).run Try.prog w = .ok true w := by
  simp [go_sem, Try.underlying49, Try.underlying3]
namespace storeDoes
/-- The two stores, side by side. -/
structure Both (St : InStore) (w0 W : World) (p q : Nat) (F : Nat → Prop) (L : LimS) (m r v : Int) (st : PS) : Prop where
  dev : NewS St w0 W p F L st
  ref : RefC W q (fun b => ¬ F b ∧ b ≠ q) L m r v st
  out : ¬ F q
  new : w0.heap.size ≤ q
section
variable {St : InStore} {w0 W W' : World} {p q : Nat} {F F' : Nat → Prop} {L : LimS} {m r v : Int} {st st' : PS}
theorem Both.lt (h : Both St w0 W p q F L m r v st) : q < W.heap.size := by
  obtain ⟨_, _, _, h1, _⟩ := h.ref
  exact h1.lt
theorem Both.next (K : StoreC St) (h : Both St w0 W p q F L m r v st) (hb : Below W.heap.size W W') : Both St w0 W' p q F L m r v st := by
  obtain ⟨A, c, os, h1, h2⟩ := h.ref
  exact ⟨h.dev.next K hb, ⟨A, c, os, h1.below hb, h2⟩, h.out, h.new⟩
/-- The developers' store has turned: the document's own is as before. -/
theorem Both.mid (h : Both St w0 W p q F L m r v st) (hm : Mut F W W') (hF : ∀ k, F' k → F k ∨ W.heap.size ≤ k) : RefC W' q (fun b => ¬ F' b ∧ b ≠ q) L m r v st ∧ ¬ F' q := by
  obtain ⟨A, c, os, h1, h2⟩ := h.ref
  have hq : ∀ g, ¬ F g → g < W.heap.size → ¬ F' g := fun g h3 h4 h5 => by
    rcases hF g h5 with h6 | h6
    · exact h3 h6
    · omega
  exact ⟨⟨A, c, os, h1.keep (hm.block q h1.lt h.out) fun g hg hlt => ⟨hm.block g hlt hg.1, hq g hg.1 hlt, hg.2⟩, h2⟩, hq q h.out h1.lt⟩
/-- The document's own has turned, too. -/
theorem Both.end_ (K : StoreC St) (hd : NewS St w0 W p F' L st') (hr : RefC W' q (fun b => ¬ F' b ∧ b ≠ q) L m r v st') (ho : ¬ F' q) (hn : w0.heap.size ≤ q) (hm : Mut (fun k => k = q) W W') : Both St w0 W' p q F' L m r v st' :=
  ⟨⟨hd.below.trans (hm.below hd.below.size fun k hk => by have e : k = q := hk; omega), K.keep hd.st fun k hk => hm.block k (K.upto hd.st k hk) (fun e => ho (by have e2 : k = q := e; rw [← e2]; exact hk)), hd.new⟩, hr, ho, hn⟩
end
/-- Behind both operations. -/
structure Aft (St : InStore) (w0 : World) (p q : Nat) (L : LimS) (m r v : Int) (st : PS) (b : Nat) (X : Obj) (F : Nat → Prop) (W : World) : Prop where
  both : Both St w0 W p q F L m r v st
  op : W.heap[b]? = some X
theorem Aft.next {St : InStore} (K : StoreC St) {w0 W W' : World} {p q : Nat} {L : LimS} {m r v : Int} {st : PS} {b : Nat} {X : Obj} {F : Nat → Prop} (h : Aft St w0 p q L m r v st b X F W) (hb : Below W.heap.size W W') : Aft St w0 p q L m r v st b X F W' :=
  ⟨h.both.next K hb, heap_below h.op hb (lt_of_heap h.op)⟩
/-- Between the two operations. -/
structure Mid (St : InStore) (w0 : World) (p q : Nat) (L : LimS) (m r v : Int) (st st' : PS) (dd : ToldS) (b : Nat) (X : Obj) (A9 B9 : Option Addr) (c9 d9 lo hi : Nat) (F : Nat → Prop) (W : World) : Prop where
  told : ToldIn W lo hi dd A9 c9 B9 d9
  far : q < lo
  top : hi ≤ W.heap.size
  dev : NewS St w0 W p F L st'
  ref : RefC W q (fun b => ¬ F b ∧ b ≠ q) L m r v st
  out : ¬ F q
  op : W.heap[b]? = some X
structure End (St : InStore) (w0 : World) (p q : Nat) (L : LimS) (m r v : Int) (st' : PS) (dd : ToldS) (b : Nat) (X : Obj) (A9 B9 : Option Addr) (c9 d9 : Nat) (A8 B8 : Option Addr) (c8 d8 : Nat) (F : Nat → Prop) (W : World) : Prop where
  one : ∃ lo hi, ToldIn W lo hi dd A9 c9 B9 d9 ∧ hi ≤ W.heap.size
  two : ToldIn W 0 W.heap.size dd A8 c8 B8 d8
  aft : Aft St w0 p q L m r v st' b X F W
set_option maxRecDepth 100000 in
set_option maxHeartbeats 16000000 in
theorem walk {St : InStore} (K : StoreC St) (L : LimS) (m r v : Int) (a : List OpS) (A : Option Addr) (c : Nat) (w : World) (ha : ChO w w.heap.size A c a) (h1 : I64 L.keys) (h2 : I64 L.vers) (h3 : I64 L.byts) (h4 : L.last < 18446744073709551616) :
    Calls Try.prog 3 #[limVal L m r v, .slice A a.length c] w fun r w' => r = .returned (.bool true) ∧ Below w.heap.size w w' := by
  obtain ⟨keys, vers, byts, last⟩ := L
  simp only at h1 h2 h3 h4
  obtain ⟨w0, hw0⟩ : ∃ y, w.alloc (.cells #[.int .i64 keys, .int .i64 vers, .int .i64 byts, .int .i64 m, .int .i64 r, .int .i64 v, .int .u64 last] 24) = y := ⟨_, rfl⟩
  have b0 : Below w.heap.size w w0 := by rw [← hw0]; exact (Below.refl _ w).alloc (Nat.le_refl _) _
  have s0 : w0.heap.size = w.heap.size + 1 := by rw [← hw0]; simp
  have x0 : w0.heap[w.heap.size]? = some (.cells #[.int .i64 keys, .int .i64 vers, .int .i64 byts, .int .i64 m, .int .i64 r, .int .i64 v, .int .u64 last] 24 (0, 0)) := by rw [← hw0]; exact heap_alloc_new w _
  have HLim : Hid (∀ W, Below w0.heap.size w0 W → W.cell? ⟨w.heap.size, 0, none⟩ = some (.int .i64 keys) ∧ W.cell? ⟨w.heap.size, 1, none⟩ = some (.int .i64 vers) ∧ W.cell? ⟨w.heap.size, 2, none⟩ = some (.int .i64 byts) ∧ W.cell? ⟨w.heap.size, 3, none⟩ = some (.int .i64 m) ∧ W.cell? ⟨w.heap.size, 4, none⟩ = some (.int .i64 r) ∧ W.cell? ⟨w.heap.size, 5, none⟩ = some (.int .i64 v) ∧ W.cell? ⟨w.heap.size, 6, none⟩ = some (.int .u64 last)) := Lib.hid fun W h => by
    have hx := heap_below x0 h (by omega)
    exact ⟨cell_of_row W _ 0 _ _ _ hx, cell_of_row W _ 1 _ _ _ hx, cell_of_row W _ 2 _ _ _ hx, cell_of_row W _ 3 _ _ _ hx, cell_of_row W _ 4 _ _ _ hx, cell_of_row W _ 5 _ _ _ hx, cell_of_row W _ 6 _ _ _ hx⟩
  have ha0 : ChO w0 w.heap.size A c a := ha.below b0 (Nat.le_refl _) (Nat.le_refl _)
  have HL := Lib.hid (live_from K w0)
  have HFA := Lib.hid (few_from (ha.below b0 (Nat.le_refl _) b0.size))
  have HMay : Hid (∀ wx, Below w0.heap.size w0 wx → Calls Try.prog 14 #[.agg #[.int .i64 keys, .int .i64 vers, .int .i64 byts, .int .i64 m, .int .i64 r, .int .i64 v, .int .u64 last]] wx fun r w' => r = .returned (.bool (MayS ⟨keys, vers, byts, last⟩)) ∧ Below wx.heap.size wx w') := Lib.hid fun wx hb =>
    may_any ⟨keys, vers, byts, last⟩ m r v wx
  have hb6 := Below.refl w0.heap.size w0
  have HB0 := Lib.hid b0
  have HZ0 := Lib.hid b0.size
  have HW0 := Lib.hid hw0
  have HK := Lib.hid K
  clear b0 s0 x0 hw0
  unfold limVal
  simp only
  by_cases fa : fewO a = true
  · rw [fa] at HFA
    obtain ⟨fwa, fla⟩ := fewO_yes fa
    have HRA := Lib.hid ha0.2.2.2
    have HWA := Lib.hid fwa
    have hal : a.length ≤ 9223372036854775807 := by omega
    clear ha ha0 fa fla fwa
    by_cases hm : MayS ⟨keys, vers, byts, last⟩ = true
    · have HNew : Hid (∀ wx, Below w0.heap.size w0 wx → Calls Try.prog 13 #[.agg #[.int .i64 keys, .int .i64 vers, .int .i64 byts, .int .i64 m, .int .i64 r, .int .i64 v, .int .u64 last]] wx fun r w' => ∃ p F, r = .returned (.tuple #[.pointer (some ⟨p, 0, none⟩), .int .i64 0]) ∧ NewS St w0 w' p F ⟨keys, vers, byts, last⟩ ⟨0, []⟩) := Lib.hid fun wx hb =>
        (HK.out.new ⟨keys, vers, byts, last⟩ m r v wx h1 h2 h3 h4).mono fun _ _ q => by
          rw [if_pos hm] at q
          obtain ⟨hb2, p, F, e, hst, hF⟩ := q
          exact ⟨p, F, e, hb.trans (hb2.mono hb.size), hst, fun k hk => Nat.le_trans hb.size (hF k hk)⟩
      rw [hm] at HMay
      have HMayT := Lib.hid hm
      clear h1 h2 h3 hm
      go_enter Try.func3, Try.ntmps3
      go_upto_region 1 with fail
      rw [HW0.out]
      clear HW0
      go_wp2_with (first
        | (go_at_call 11; (with_reducible refine (HL.out _ (by assumption)).mono ?_); rintro r1 w' ⟨rfl, hb6⟩)
        | (go_at_call 12; (with_reducible refine (HFA.out _ (by assumption)).mono ?_); rintro r1 w' ⟨rfl, hb6⟩; obtain ⟨z0, z1, z2, z3, z4, z5, z6⟩ := HLim.out _ hb6)
        | (go_at_call 13; (with_reducible refine (HNew.out _ (by assumption)).mono ?_); rintro r1 w5 ⟨p, F, rfl, hn5⟩; clear z0 z1 z2 z3 z4 z5 z6; obtain ⟨z0, z1, z2, z3, z4, z5, z6⟩ := HLim.out _ hn5.below)
        | (go_at_call 14; (with_reducible refine (HMay.out _ hn5.below).mono ?_); rintro r1 w7 ⟨rfl, hb7⟩; clear z0 z1 z2 z3 z4 z5 z6; obtain ⟨z0, z1, z2, z3, z4, z5, z6⟩ := HLim.out _ (hn5.below.trans (hb7.mono hn5.below.size))))
      have HN5 := Lib.hid hn5
      have HB7 := Lib.hid hb7
      obtain ⟨w8, hw8⟩ : ∃ y, w7.alloc (.cells #[.int .i64 keys, .int .i64 vers, .int .i64 byts, .int .i64 m, .int .i64 r, .int .i64 v, .int .u64 last, .int .u64 0, .slice none 0 0] 36) = y := ⟨_, rfl⟩
      have hb8 : Below w7.heap.size w7 w8 := by rw [← hw8]; exact (Below.refl _ w7).alloc (Nat.le_refl _) _
      have hx8 : w8.heap[w7.heap.size]? = some (.cells #[.int .i64 keys, .int .i64 vers, .int .i64 byts, .int .i64 m, .int .i64 r, .int .i64 v, .int .u64 last, .int .u64 0, .slice none 0 0] 36 (0, 0)) := by rw [← hw8]; exact heap_alloc_new w7 _
      have HBoth8 : Hid (Both St w0 w8 p w7.heap.size F ⟨keys, vers, byts, last⟩ m r v ⟨0, []⟩) := Lib.hid (by
        have hn7 := (hn5.next HK.out hb7)
        refine ⟨hn7.next HK.out hb8, ⟨none, 0, [], ⟨hx8, Nat.le_refl _, Nat.zero_le _, fun _ => rfl, fun hn => absurd hn (by simp), fun x hx => by cases hx⟩, rfl⟩, fun hf => ?_, hn7.below.size⟩
        have := HK.out.upto hn7.st _ hf
        omega)
      rw [hw8]
      clear hw8 hb8 hx8 hn5 hb7 z0 z1 z2 z3 z4 z5 z6 HNew HMay hb6 HL HFA HLim
      go_loopg [45] a.length (fun n i wr => ∃ (j : Nat) (st : PS) (F : Nat → Prop), j + n = a.length ∧ i = .int .i64 j ∧ Both St w0 wr p w7.heap.size F ⟨keys, vers, byts, last⟩ m r v st)
      case atStart => exact ⟨0, ⟨0, []⟩, F, by omega, rfl, HBoth8.out⟩
      case round =>
        obtain ⟨j, st, G, hk, rfl, hboth⟩ := hrel
        have HJ := Lib.hid hk
        have HBo := Lib.hid hboth
        clear hk hboth
        by_cases hj : j < a.length
        · have hlt : decide ((j : Int) < (a.length : Int)) = true := by simpa using hj
          have hlt2 : decide (j < a.length) = true := by simpa using hj
          obtain ⟨b0, o0, A', c', rfl, _, c0, c1, c2, c3, c4, c5, hok⟩ := (HRA.out.below HBo.out.dev.below HZ0.out (Nat.le_refl _)).at_ hj
          have hw := HWA.out _ (List.getElem_mem hj)
          generalize a[j] = x at *
          obtain ⟨what, ws, low, tm, klo, khi⟩ := x
          simp only at c0 c1 c2 c3 c4 c5 hw
          obtain ⟨w1, hw1⟩ : ∃ y, wr.alloc (.cells #[.int .i64 what, .slice A' ws.length c', .int .u64 low, .int .u64 tm, .string (bs klo), .string (bs khi)] 39) = y := ⟨_, rfl⟩
          have hba : Below wr.heap.size wr w1 := by rw [← hw1]; exact (Below.refl _ wr).alloc (Nat.le_refl _) _
          have hx1 : w1.heap[wr.heap.size]? = some (.cells #[.int .i64 what, .slice A' ws.length c', .int .u64 low, .int .u64 tm, .string (bs klo), .string (bs khi)] 39 (0, 0)) := by rw [← hw1]; exact heap_alloc_new wr _
          have hd1 := (HBo.out.next HK.out hba).next HK.out (W' := w1.drew) (Below.refl _ w1).drew
          have hqlt := HBo.out.lt
          have hokd := HK.out.okay hd1.dev.st
          have hupd := HK.out.upto hd1.dev.st
          have hokw : ∀ W, Below w0.heap.size w0 W → OkMO W w.heap.size ⟨⟨what, ws, low, tm, klo, khi⟩, A', c'⟩ := fun W hb =>
            ⟨hok.1, hok.2.1, hok.2.2.1, hok.2.2.2.1, hok.2.2.2.2.1, hok.2.2.2.2.2.keep fun g _ hg => (hb.block g (Nat.lt_of_lt_of_le hg HZ0.out)).trans (HBo.out.dev.below.block g (Nat.lt_of_lt_of_le hg HZ0.out)).symm⟩
          have hop1 : w1.drew.heap[wr.heap.size]? = some (.cells #[.int .i64 what, .slice A' ws.length c', .int .u64 low, .int .u64 tm, .string (bs klo), .string (bs khi)] 39 (0, 0)) := hx1
          have KX : Hid (∀ W : World, W.heap[wr.heap.size]? = some (.cells #[.int .i64 what, .slice A' ws.length c', .int .u64 low, .int .u64 tm, .string (bs klo), .string (bs khi)] 39 (0, 0)) → W.cell? ⟨wr.heap.size, 0, none⟩ = some (.int .i64 what) ∧ W.cell? ⟨wr.heap.size, 1, none⟩ = some (.slice A' ws.length c') ∧ W.cell? ⟨wr.heap.size, 2, none⟩ = some (.int .u64 low) ∧ W.cell? ⟨wr.heap.size, 3, none⟩ = some (.int .u64 tm) ∧ W.cell? ⟨wr.heap.size, 4, none⟩ = some (.string (bs klo)) ∧ W.cell? ⟨wr.heap.size, 5, none⟩ = some (.string (bs khi))) := Lib.hid fun W hx =>
            ⟨cell_of_row W _ 0 _ _ _ hx, cell_of_row W _ 1 _ _ _ hx, cell_of_row W _ 2 _ _ _ hx, cell_of_row W _ 3 _ _ _ hx, cell_of_row W _ 4 _ _ _ hx, cell_of_row W _ 5 _ _ _ hx⟩
          have HNewQ := Lib.hid HBo.out.new
          obtain ⟨st', hst'⟩ : ∃ y, (doesS ⟨keys, vers, byts, last⟩ st ⟨what, ws, low, tm, klo, khi⟩).1 = y := ⟨_, rfl⟩
          obtain ⟨dd, hdd⟩ : ∃ y, (doesS ⟨keys, vers, byts, last⟩ st ⟨what, ws, low, tm, klo, khi⟩).2 = y := ⟨_, rfl⟩
          have HDo : Hid (Calls Try.prog 16 #[.pointer (some ⟨p, 0, none⟩), .agg #[.int .i64 what, .slice A' ws.length c', .int .u64 low, .int .u64 tm, .string (bs klo), .string (bs khi)]] w1.drew fun e w' => ∃ A9 B9 c9 d9 lo hi F', e = .returned (toldVal dd A9 c9 B9 d9) ∧ Mid St w0 p w7.heap.size ⟨keys, vers, byts, last⟩ m r v st st' dd wr.heap.size (.cells #[.int .i64 what, .slice A' ws.length c', .int .u64 low, .int .u64 tm, .string (bs klo), .string (bs khi)] 39 (0, 0)) A9 B9 c9 d9 lo hi F' w') := Lib.hid (by
            refine (does_from HK.out hd1.dev ⟨what, ws, low, tm, klo, khi⟩ A' c' hw.1 hw.2.1 hw.2.2 ((hokw _ hd1.dev.below).below (Below.refl w.heap.size _) (Nat.le_refl _) HZ0.out)).mono ?_
            rintro e w' ⟨A9, B9, c9, d9, lo, hi, F', rfl, k1, k2, k3, k4, k5, k6, k7⟩
            rw [hst'] at k5
            rw [hdd] at k1
            obtain ⟨g1, g2⟩ := hd1.mid k6 k7
            exact ⟨A9, B9, c9, d9, lo, hi, F', by rw [hdd], k1, Nat.lt_of_lt_of_le hd1.lt k2, k3, k5, g1, g2, (k6.block _ (lt_of_heap hop1) (fun hf => by have h1 := HK.out.upto HBo.out.dev.st _ hf; omega)).trans hop1⟩)
          have HSh : Hid (∀ A9 B9 c9 d9 lo hi F' W, Mid St w0 p w7.heap.size ⟨keys, vers, byts, last⟩ m r v st st' dd wr.heap.size (.cells #[.int .i64 what, .slice A' ws.length c', .int .u64 low, .int .u64 tm, .string (bs klo), .string (bs khi)] 39 (0, 0)) A9 B9 c9 d9 lo hi F' W → Calls Try.prog 17 #[.pointer (some ⟨w7.heap.size, 0, none⟩), .agg #[.int .i64 what, .slice A' ws.length c', .int .u64 low, .int .u64 tm, .string (bs klo), .string (bs khi)]] W fun e w' => ∃ A8 B8 c8 d8, e = .returned (toldVal dd A8 c8 B8 d8) ∧ End St w0 p w7.heap.size ⟨keys, vers, byts, last⟩ m r v st' dd wr.heap.size (.cells #[.int .i64 what, .slice A' ws.length c', .int .u64 low, .int .u64 tm, .string (bs klo), .string (bs khi)] 39 (0, 0)) A9 B9 c9 d9 A8 B8 c8 d8 F' w') := Lib.hid fun A9 B9 c9 d9 lo hi F' W h => by
            refine (should_any ⟨what, ws, low, tm, klo, khi⟩ A' c' w7.heap.size (fun b => ¬ F' b ∧ b ≠ w7.heap.size) ⟨keys, vers, byts, last⟩ m r v st w.heap.size W h.ref hokd.1 hokd.2.1 hokd.2.2.1 hokd.2.2.2.2 (fun hq => hq.2 rfl) (fun b hb => ⟨fun hf => by have := HK.out.upto h.dev.st _ hf; omega, by have h9 := h.ref; obtain ⟨_, _, _, h8, _⟩ := h9; have := h8.lt; omega⟩) hw.1 (hokw W h.dev.below) (Nat.le_trans HZ0.out h.dev.below.size) (fun b hb => ⟨fun hf => by have := h.dev.new _ hf; have := HZ0.out; omega, by have := HNewQ.out; have := HZ0.out; omega⟩)).mono ?_
            rintro e w' ⟨A8, B8, c8, d8, rfl, k1, k2, k3⟩
            rw [hst'] at k2
            rw [hdd] at k1
            refine ⟨A8, B8, c8, d8, by rw [hdd], ⟨lo, hi, h.told.keep fun g h1 h2 => k3.block g (Nat.lt_of_lt_of_le h2 h.top) (fun e2 => by have e3 : g = w7.heap.size := e2; have := h.far; omega), Nat.le_trans h.top k3.size⟩, k1, Both.end_ HK.out h.dev k2 h.out HNewQ.out k3, (k3.block _ (lt_of_heap h.op) (fun e2 => by have e3 : wr.heap.size = w7.heap.size := e2; omega)).trans h.op⟩
          have HSame : Hid (∀ A9 B9 c9 d9 A8 B8 c8 d8 F' W, End St w0 p w7.heap.size ⟨keys, vers, byts, last⟩ m r v st' dd wr.heap.size (.cells #[.int .i64 what, .slice A' ws.length c', .int .u64 low, .int .u64 tm, .string (bs klo), .string (bs khi)] 39 (0, 0)) A9 B9 c9 d9 A8 B8 c8 d8 F' W → Calls Try.prog 15 #[toldVal dd A9 c9 B9 d9, toldVal dd A8 c8 B8 d8] W fun e w' => e = .returned (.bool true) ∧ Aft St w0 p w7.heap.size ⟨keys, vers, byts, last⟩ m r v st' wr.heap.size (.cells #[.int .i64 what, .slice A' ws.length c', .int .u64 low, .int .u64 tm, .string (bs klo), .string (bs khi)] 39 (0, 0)) F' w') := Lib.hid fun A9 B9 c9 d9 A8 B8 c8 d8 F' W h => by
            obtain ⟨lo, hi, h1, h2⟩ := h.one
            refine (sameT_any dd dd A9 B9 A8 B8 c9 d9 c8 d8 lo hi 0 W.heap.size W h1 h.two h2 (Nat.le_refl _)).mono ?_
            rintro e w' ⟨rfl, hb⟩
            exact ⟨by rw [(sameT_eq dd dd).2 rfl], h.aft.next HK.out hb⟩
          have HNow : Hid (∀ F' W, Aft St w0 p w7.heap.size ⟨keys, vers, byts, last⟩ m r v st' wr.heap.size (.cells #[.int .i64 what, .slice A' ws.length c', .int .u64 low, .int .u64 tm, .string (bs klo), .string (bs khi)] 39 (0, 0)) F' W → Calls Try.prog 18 #[.pointer (some ⟨p, 0, none⟩)] W fun e w' => e = .returned (.int .u64 st'.time) ∧ Aft St w0 p w7.heap.size ⟨keys, vers, byts, last⟩ m r v st' wr.heap.size (.cells #[.int .i64 what, .slice A' ws.length c', .int .u64 low, .int .u64 tm, .string (bs klo), .string (bs khi)] 39 (0, 0)) F' w') := Lib.hid fun F' W h =>
            (HK.out.now p F' _ st' W h.both.dev.st).mono fun _ _ q => ⟨q.1, h.next HK.out q.2⟩
          have HCnt : Hid (∀ F' W, Aft St w0 p w7.heap.size ⟨keys, vers, byts, last⟩ m r v st' wr.heap.size (.cells #[.int .i64 what, .slice A' ws.length c', .int .u64 low, .int .u64 tm, .string (bs klo), .string (bs khi)] 39 (0, 0)) F' W → Calls Try.prog 19 #[.pointer (some ⟨p, 0, none⟩)] W fun e w' => e = .returned (.agg #[.int .i64 (st'.K.length : Nat), .int .i64 (versS st'.K : Nat), .int .i64 (bytsS st'.K : Nat)]) ∧ Aft St w0 p w7.heap.size ⟨keys, vers, byts, last⟩ m r v st' wr.heap.size (.cells #[.int .i64 what, .slice A' ws.length c', .int .u64 low, .int .u64 tm, .string (bs klo), .string (bs khi)] 39 (0, 0)) F' w') := Lib.hid fun F' W h =>
            (HK.out.count p F' _ st' W h.both.dev.st).mono fun _ _ q => ⟨q.1, h.next HK.out q.2⟩
          have HCntR : Hid (∀ F' W, Aft St w0 p w7.heap.size ⟨keys, vers, byts, last⟩ m r v st' wr.heap.size (.cells #[.int .i64 what, .slice A' ws.length c', .int .u64 low, .int .u64 tm, .string (bs klo), .string (bs khi)] 39 (0, 0)) F' W → Calls Try.prog 20 #[.pointer (some ⟨w7.heap.size, 0, none⟩)] W fun e w' => e = .returned (.agg #[.int .i64 (st'.K.length : Nat), .int .i64 (versS st'.K : Nat), .int .i64 (bytsS st'.K : Nat)]) ∧ Aft St w0 p w7.heap.size ⟨keys, vers, byts, last⟩ m r v st' wr.heap.size (.cells #[.int .i64 what, .slice A' ws.length c', .int .u64 low, .int .u64 tm, .string (bs klo), .string (bs khi)] 39 (0, 0)) F' w') := Lib.hid fun F' W h => by
            obtain ⟨A1, e1, os1, g1, g2⟩ := h.both.ref
            have hsm := in_sizes (HK.out.okay h.both.dev.st).2.2.1 (HK.out.okay h.both.dev.st).2.1
            refine (refCount_any _ _ _ m r v _ A1 e1 os1 W g1 (by rw [g2]; omega) (by rw [g2]; omega)).mono ?_
            rintro e w' ⟨rfl, hb⟩
            exact ⟨by rw [g2]; rfl, h.next HK.out hb⟩
          have HChk : Hid (∀ F' W, Aft St w0 p w7.heap.size ⟨keys, vers, byts, last⟩ m r v st' wr.heap.size (.cells #[.int .i64 what, .slice A' ws.length c', .int .u64 low, .int .u64 tm, .string (bs klo), .string (bs khi)] 39 (0, 0)) F' W → Calls Try.prog 21 #[.slice A' ws.length c'] W fun e w' => e = .returned (.int .i64 (checkS [] ws)) ∧ Aft St w0 p w7.heap.size ⟨keys, vers, byts, last⟩ m r v st' wr.heap.size (.cells #[.int .i64 what, .slice A' ws.length c', .int .u64 low, .int .u64 tm, .string (bs klo), .string (bs khi)] 39 (0, 0)) F' w') := Lib.hid fun F' W h =>
            (HK.out.check ws 0 w.heap.size A' c' W hw.1 (hokw W h.both.dev.below).2.2.2.2.2 (Nat.le_trans HZ0.out h.both.dev.below.size)).mono fun _ _ q => ⟨q.1, h.next HK.out q.2⟩
          have HChkR : Hid (∀ F' W, Aft St w0 p w7.heap.size ⟨keys, vers, byts, last⟩ m r v st' wr.heap.size (.cells #[.int .i64 what, .slice A' ws.length c', .int .u64 low, .int .u64 tm, .string (bs klo), .string (bs khi)] 39 (0, 0)) F' W → Calls Try.prog 22 #[.slice A' ws.length c'] W fun e w' => e = .returned (.int .i64 (checkS [] ws)) ∧ Aft St w0 p w7.heap.size ⟨keys, vers, byts, last⟩ m r v st' wr.heap.size (.cells #[.int .i64 what, .slice A' ws.length c', .int .u64 low, .int .u64 tm, .string (bs klo), .string (bs khi)] 39 (0, 0)) F' w') := Lib.hid fun F' W h =>
            (refCheck_any ws 0 w.heap.size A' c' W (by have := hw.1.1; omega) (hokw W h.both.dev.below).2.2.2.2.2.row (Nat.le_trans HZ0.out h.both.dev.below.size)).mono fun _ _ q => ⟨q.1, h.next HK.out q.2⟩
          have H7 : Hid (∀ F' W, Aft St w0 p w7.heap.size ⟨keys, vers, byts, last⟩ m r v st' wr.heap.size (.cells #[.int .i64 what, .slice A' ws.length c', .int .u64 low, .int .u64 tm, .string (bs klo), .string (bs khi)] 39 (0, 0)) F' W → W.cell? ⟨w7.heap.size, 7, none⟩ = some (.int .u64 (st'.time : Nat))) := Lib.hid fun F' W h => by
            obtain ⟨A1, e1, os1, g1, g2⟩ := h.both.ref
            exact cell_of_row W _ 7 _ _ _ g1.box
          have H1c : Hid (∀ F' W, Aft St w0 p w7.heap.size ⟨keys, vers, byts, last⟩ m r v st' wr.heap.size (.cells #[.int .i64 what, .slice A' ws.length c', .int .u64 low, .int .u64 tm, .string (bs klo), .string (bs khi)] 39 (0, 0)) F' W → W.cell? ⟨wr.heap.size, 1, none⟩ = some (.slice A' ws.length c')) := Lib.hid fun F' W h => cell_of_row W _ 1 _ _ _ h.op
          have heq := eq_sizesD
          obtain ⟨y0, y1, y2, y3, y4, y5⟩ := KX.out _ hx1
          generalize checkS [] ws = ck at *
          generalize versS st'.K = vv at *
          generalize bytsS st'.K = vb at *
          generalize st'.K.length = vk at *
          generalize st'.time = vt at *
          clear hba hx1 hd1 hqlt hokd hupd hokw hst' hdd hok hw
          go_wp2_with fail
          (try rw [hw1])
          clear hw1 c0 c1 c2 c3 c4 c5
          refine wp_region_held_drew (S := fun W : World => W.cell? ⟨wr.heap.size, 0, none⟩ = some (.int .i64 what) ∧ W.cell? ⟨wr.heap.size, 1, none⟩ = some (.slice A' ws.length c') ∧ W.cell? ⟨wr.heap.size, 2, none⟩ = some (.int .u64 low) ∧ W.cell? ⟨wr.heap.size, 3, none⟩ = some (.int .u64 tm) ∧ W.cell? ⟨wr.heap.size, 4, none⟩ = some (.string (bs klo)) ∧ W.cell? ⟨wr.heap.size, 5, none⟩ = some (.string (bs khi))) (by kernel_rfl) ?_ (fun hHeld => ?_)
          · exact KX.out _ hop1
          refine take_held (i := 0) (v := ?_) rfl (by kernel_rfl) (by kernel_rfl) (by kernel_rfl) (fun _ _ _ h => h) (by rfl) (fun w hSw => ?_) (by assumption) ?_
          rotate_left
          · (try dsimp only at hSw); go_simp <;> with_reducible rfl
          (try simp only [Act.put, List.setIfInBounds_toArray, List.set_cons_zero, List.set_cons_succ])
          refine take_held (i := 1) (v := ?_) rfl (by kernel_rfl) (by kernel_rfl) (by kernel_rfl) (fun _ _ _ h => h) (by rfl) (fun w hSw => ?_) (by assumption) ?_
          rotate_left
          · (try dsimp only at hSw); go_simp <;> with_reducible rfl
          (try simp only [Act.put, List.setIfInBounds_toArray, List.set_cons_zero, List.set_cons_succ])
          refine take_held (i := 3) (v := ?_) rfl (by kernel_rfl) (by kernel_rfl) (by kernel_rfl) (fun _ _ _ h => h) (by rfl) (fun w hSw => ?_) (by assumption) ?_
          rotate_left
          · (try dsimp only at hSw); go_simp <;> with_reducible rfl
          (try simp only [Act.put, List.setIfInBounds_toArray, List.set_cons_zero, List.set_cons_succ])
          refine take_held (i := 4) (v := ?_) rfl (by kernel_rfl) (by kernel_rfl) (by kernel_rfl) (fun _ _ _ h => h) (by rfl) (fun w hSw => ?_) (by assumption) ?_
          rotate_left
          · (try dsimp only at hSw); go_simp <;> with_reducible rfl
          (try simp only [Act.put, List.setIfInBounds_toArray, List.set_cons_zero, List.set_cons_succ])
          refine step_held (i := 2) (by kernel_rfl) rfl (fun K' hK => ?_)
          go_simp
          go_at_call 16; with_reducible refine HDo.out.mono ?_; rintro e2 x2 ⟨A9, B9, c9, d9, lo9, hi9, F9, rfl, hmid⟩; clear HDo; have HMid := Lib.hid hmid; clear hmid
          (first | (refine hK.out _ _ ?_ (fun hHeld2 => ?_)) | (go_wp2_with fail; refine hK.out _ _ ?_ (fun hHeld2 => ?_)))
          · exact KX.out _ HMid.out.op
          clear hK K' hHeld
          have hHeld := hHeld2
          clear hHeld2
          (try simp only [Act.put, List.setIfInBounds_toArray, List.set_cons_zero, List.set_cons_succ])
          refine step_held (i := 5) (by kernel_rfl) rfl (fun K' hK => ?_)
          go_simp
          go_at_call 17; with_reducible refine (HSh.out _ _ _ _ _ _ _ _ HMid.out).mono ?_; rintro e3 x3 ⟨A8, B8, c8, d8, rfl, hend⟩; clear HSh HMid; have HEnd := Lib.hid hend; clear hend
          (first | (refine hK.out _ _ ?_ (fun hHeld2 => ?_)) | (go_wp2_with fail; refine hK.out _ _ ?_ (fun hHeld2 => ?_)))
          · exact KX.out _ HEnd.out.aft.op
          clear hK K' hHeld
          have hHeld := hHeld2
          clear hHeld2
          (try simp only [Act.put, List.setIfInBounds_toArray, List.set_cons_zero, List.set_cons_succ])
          refine step_held (i := 6) (by kernel_rfl) rfl (fun K' hK => ?_)
          go_simp
          go_at_call 15; with_reducible refine (HSame.out _ _ _ _ _ _ _ _ _ _ HEnd.out).mono ?_; rintro e4 x4 ⟨rfl, ha4⟩; clear HSame HEnd; have HA4 := Lib.hid ha4; clear ha4
          (first | (refine hK.out _ _ ?_ (fun hHeld2 => ?_)) | (go_wp2_with fail; refine hK.out _ _ ?_ (fun hHeld2 => ?_)))
          · exact KX.out _ HA4.out.op
          clear hK K' hHeld
          have hHeld := hHeld2
          clear hHeld2
          (try simp only [Act.put, List.setIfInBounds_toArray, List.set_cons_zero, List.set_cons_succ])
          refine turn_held (S' := fun W : World => W.cell? ⟨w7.heap.size, 7, none⟩ = some (.int .u64 (vt : Nat)) ∧ W.cell? ⟨wr.heap.size, 0, none⟩ = some (.int .i64 what) ∧ W.cell? ⟨wr.heap.size, 1, none⟩ = some (.slice A' ws.length c') ∧ W.cell? ⟨wr.heap.size, 2, none⟩ = some (.int .u64 low) ∧ W.cell? ⟨wr.heap.size, 3, none⟩ = some (.int .u64 tm) ∧ W.cell? ⟨wr.heap.size, 4, none⟩ = some (.string (bs klo)) ∧ W.cell? ⟨wr.heap.size, 5, none⟩ = some (.string (bs khi))) (fun _ h => h.2) _ _ _ _ ?_
          replace hHeld := And.intro (H7.out _ _ HA4.out) hHeld
          refine take_held (i := 7) (v := ?_) rfl (by kernel_rfl) (by kernel_rfl) (by kernel_rfl) (fun _ _ _ h => h) (by rfl) (fun w hSw => ?_) (by assumption) ?_
          rotate_left
          · (try dsimp only at hSw); go_simp <;> with_reducible rfl
          (try simp only [Act.put, List.setIfInBounds_toArray, List.set_cons_zero, List.set_cons_succ])
          refine take_held (i := 8) (v := ?_) rfl (by kernel_rfl) (by kernel_rfl) (by kernel_rfl) (fun _ _ _ h => h) (by rfl) (fun w hSw => ?_) (by assumption) ?_
          rotate_left
          · (try dsimp only at hSw); go_simp <;> with_reducible rfl
          (try simp only [Act.put, List.setIfInBounds_toArray, List.set_cons_zero, List.set_cons_succ])
          refine take_held (i := 9) (v := ?_) rfl (by kernel_rfl) (by kernel_rfl) (by kernel_rfl) (fun _ _ _ h => h) (by rfl) (fun w hSw => ?_) (by assumption) ?_
          rotate_left
          · (try dsimp only at hSw); go_simp <;> with_reducible rfl
          (try simp only [Act.put, List.setIfInBounds_toArray, List.set_cons_zero, List.set_cons_succ])
          refine take_held (i := 11) (v := ?_) rfl (by kernel_rfl) (by kernel_rfl) (by kernel_rfl) (fun _ _ _ h => h) (by rfl) (fun w hSw => ?_) (by assumption) ?_
          rotate_left
          · (try dsimp only at hSw); go_simp <;> with_reducible rfl
          (try simp only [Act.put, List.setIfInBounds_toArray, List.set_cons_zero, List.set_cons_succ])
          refine take_held (i := 12) (v := ?_) rfl (by kernel_rfl) (by kernel_rfl) (by kernel_rfl) (fun _ _ _ h => h) (by rfl) (fun w hSw => ?_) (by assumption) ?_
          rotate_left
          · (try dsimp only at hSw); go_simp <;> with_reducible rfl
          (try simp only [Act.put, List.setIfInBounds_toArray, List.set_cons_zero, List.set_cons_succ])
          refine take_held (i := 13) (v := ?_) rfl (by kernel_rfl) (by kernel_rfl) (by kernel_rfl) (fun _ _ _ h => h) (by rfl) (fun w hSw => ?_) (by assumption) ?_
          rotate_left
          · (try dsimp only at hSw); go_simp <;> with_reducible rfl
          (try simp only [Act.put, List.setIfInBounds_toArray, List.set_cons_zero, List.set_cons_succ])
          refine take_held (i := 14) (v := ?_) rfl (by kernel_rfl) (by kernel_rfl) (by kernel_rfl) (fun _ _ _ h => h) (by rfl) (fun w hSw => ?_) (by assumption) ?_
          rotate_left
          · (try dsimp only at hSw); go_simp <;> with_reducible rfl
          (try simp only [Act.put, List.setIfInBounds_toArray, List.set_cons_zero, List.set_cons_succ])
          refine step_held (i := 10) (by kernel_rfl) rfl (fun K' hK => ?_)
          go_simp
          go_at_call 18; with_reducible refine (HNow.out _ _ HA4.out).mono ?_; rintro e5 x5 ⟨rfl, ha5⟩; clear HNow HA4; have HA5 := Lib.hid ha5; clear ha5
          (first | (refine hK.out _ _ ?_ (fun hHeld2 => ?_)) | (go_wp2_with fail; refine hK.out _ _ ?_ (fun hHeld2 => ?_)))
          · exact ⟨H7.out _ _ HA5.out, KX.out _ HA5.out.op⟩
          clear hK K' hHeld
          have hHeld := hHeld2
          clear hHeld2
          (try simp only [Act.put, List.setIfInBounds_toArray, List.set_cons_zero, List.set_cons_succ])
          refine take_held (i := 15) (v := ?_) rfl (by kernel_rfl) (by kernel_rfl) (by kernel_rfl) (fun _ _ _ h => h) (by rfl) (fun w hSw => ?_) (by assumption) ?_
          rotate_left
          · (try dsimp only at hSw); go_simp <;> with_reducible rfl
          (try simp only [Act.put, List.setIfInBounds_toArray, List.set_cons_zero, List.set_cons_succ])
          refine take_held (i := 16) (v := ?_) rfl (by kernel_rfl) (by kernel_rfl) (by kernel_rfl) (fun _ _ _ h => h) (by rfl) (fun w hSw => ?_) (by assumption) ?_
          rotate_left
          · (try dsimp only at hSw); go_simp <;> with_reducible rfl
          (try simp only [Act.put, List.setIfInBounds_toArray, List.set_cons_zero, List.set_cons_succ])
          refine take_held (i := 17) (v := ?_) rfl (by kernel_rfl) (by kernel_rfl) (by kernel_rfl) (fun _ _ _ h => h) (by rfl) (fun w hSw => ?_) (by assumption) ?_
          rotate_left
          · (try dsimp only at hSw); go_simp <;> with_reducible rfl
          (try simp only [Act.put, List.setIfInBounds_toArray, List.set_cons_zero, List.set_cons_succ])
          refine take_held (i := 18) (v := ?_) rfl (by kernel_rfl) (by kernel_rfl) (by kernel_rfl) (fun _ _ _ h => h) (by rfl) (fun w hSw => ?_) (by assumption) ?_
          rotate_left
          · (try dsimp only at hSw); go_simp <;> with_reducible rfl
          (try simp only [Act.put, List.setIfInBounds_toArray, List.set_cons_zero, List.set_cons_succ])
          refine take_held (i := 20) (v := ?_) rfl (by kernel_rfl) (by kernel_rfl) (by kernel_rfl) (fun _ _ _ h => h) (by rfl) (fun w hSw => ?_) (by assumption) ?_
          rotate_left
          · (try dsimp only at hSw); go_simp <;> with_reducible rfl
          (try simp only [Act.put, List.setIfInBounds_toArray, List.set_cons_zero, List.set_cons_succ])
          refine step_held (i := 19) (by kernel_rfl) rfl (fun K' hK => ?_)
          go_simp
          go_at_call 19; with_reducible refine (HCnt.out _ _ HA5.out).mono ?_; rintro e6 x6 ⟨rfl, ha6⟩; clear HCnt HA5; have HA6 := Lib.hid ha6; clear ha6
          (first | (refine hK.out _ _ ?_ (fun hHeld2 => ?_)) | (go_wp2_with fail; refine hK.out _ _ ?_ (fun hHeld2 => ?_)))
          · exact ⟨H7.out _ _ HA6.out, KX.out _ HA6.out.op⟩
          clear hK K' hHeld
          have hHeld := hHeld2
          clear hHeld2
          (try simp only [Act.put, List.setIfInBounds_toArray, List.set_cons_zero, List.set_cons_succ])
          refine step_held (i := 21) (by kernel_rfl) rfl (fun K' hK => ?_)
          go_simp
          go_at_call 20; with_reducible refine (HCntR.out _ _ HA6.out).mono ?_; rintro e7 x7 ⟨rfl, ha7⟩; clear HCntR HA6; have HA7 := Lib.hid ha7; clear ha7
          (first | (refine hK.out _ _ ?_ (fun hHeld2 => ?_)) | (go_wp2_with fail; refine hK.out _ _ ?_ (fun hHeld2 => ?_)))
          · exact ⟨H7.out _ _ HA7.out, KX.out _ HA7.out.op⟩
          clear hK K' hHeld
          have hHeld := hHeld2
          clear hHeld2
          (try simp only [Act.put, List.setIfInBounds_toArray, List.set_cons_zero, List.set_cons_succ])
          refine take_held (i := 22) (v := ?_) rfl (by kernel_rfl) (by kernel_rfl) (by kernel_rfl) (fun _ _ _ h => h) (by rfl) (fun w hSw => ?_) (by assumption) ?_
          rotate_left
          · (try dsimp only at hSw); go_simp <;> with_reducible rfl
          (try simp only [Act.put, List.setIfInBounds_toArray, List.set_cons_zero, List.set_cons_succ])
          refine take_held (i := 23) (v := ?_) rfl (by kernel_rfl) (by kernel_rfl) (by kernel_rfl) (fun _ _ _ h => h) (by rfl) (fun w hSw => ?_) (by assumption) ?_
          rotate_left
          · (try dsimp only at hSw); go_simp <;> with_reducible rfl
          (try simp only [Act.put, List.setIfInBounds_toArray, List.set_cons_zero, List.set_cons_succ])
          refine take_held (i := 24) (v := ?_) rfl (by kernel_rfl) (by kernel_rfl) (by kernel_rfl) (fun _ _ _ h => h) (by rfl) (fun w hSw => ?_) (by assumption) ?_
          rotate_left
          · (try dsimp only at hSw); go_simp <;> with_reducible rfl
          (try simp only [Act.put, List.setIfInBounds_toArray, List.set_cons_zero, List.set_cons_succ])
          refine take_held (i := 25) (v := ?_) rfl (by kernel_rfl) (by kernel_rfl) (by kernel_rfl) (fun _ _ _ h => h) (by rfl) (fun w hSw => ?_) (by assumption) ?_
          rotate_left
          · (try dsimp only at hSw); go_simp <;> with_reducible rfl
          (try simp only [Act.put, List.setIfInBounds_toArray, List.set_cons_zero, List.set_cons_succ])
          refine take_held (i := 26) (v := ?_) rfl (by kernel_rfl) (by kernel_rfl) (by kernel_rfl) (fun _ _ _ h => h) (by rfl) (fun w hSw => ?_) (by assumption) ?_
          rotate_left
          · (try dsimp only at hSw); go_simp <;> with_reducible rfl
          (try simp only [Act.put, List.setIfInBounds_toArray, List.set_cons_zero, List.set_cons_succ])
          refine take_held (i := 28) (v := ?_) rfl (by kernel_rfl) (by kernel_rfl) (by kernel_rfl) (fun _ _ _ h => h) (by rfl) (fun w hSw => ?_) (by assumption) ?_
          rotate_left
          · (try dsimp only at hSw); go_simp <;> with_reducible rfl
          (try simp only [Act.put, List.setIfInBounds_toArray, List.set_cons_zero, List.set_cons_succ])
          refine take_held (i := 29) (v := ?_) rfl (by kernel_rfl) (by kernel_rfl) (by kernel_rfl) (fun _ _ _ h => h) (by rfl) (fun w hSw => ?_) (by assumption) ?_
          rotate_left
          · (try dsimp only at hSw); go_simp <;> with_reducible rfl
          (try simp only [Act.put, List.setIfInBounds_toArray, List.set_cons_zero, List.set_cons_succ])
          refine step_held (i := 27) (by kernel_rfl) rfl (fun K' hK => ?_)
          go_simp
          go_at_call 21; with_reducible refine (HChk.out _ _ HA7.out).mono ?_; rintro e8 x8 ⟨rfl, ha8⟩; clear HChk HA7; have HA8 := Lib.hid ha8; clear ha8
          (first | (refine hK.out _ _ ?_ (fun hHeld2 => ?_)) | (go_wp2_with fail; refine hK.out _ _ ?_ (fun hHeld2 => ?_)))
          · exact ⟨H7.out _ _ HA8.out, KX.out _ HA8.out.op⟩
          clear hK K' hHeld
          have hHeld := hHeld2
          clear hHeld2
          (try simp only [Act.put, List.setIfInBounds_toArray, List.set_cons_zero, List.set_cons_succ])
          refine step_held (i := 30) (by kernel_rfl) rfl (fun K' hK => ?_)
          go_simp
          go_at_call 22; with_reducible refine (HChkR.out _ _ HA8.out).mono ?_; rintro e9 x9 ⟨rfl, ha9⟩; clear HChkR HA8; have HA9 := Lib.hid ha9; clear ha9
          (first | (refine hK.out _ _ ?_ (fun hHeld2 => ?_)) | (go_wp2_with fail; refine hK.out _ _ ?_ (fun hHeld2 => ?_)))
          · exact ⟨H7.out _ _ HA9.out, KX.out _ HA9.out.op⟩
          clear hK K' hHeld
          have hHeld := hHeld2
          clear hHeld2
          (try simp only [Act.put, List.setIfInBounds_toArray, List.set_cons_zero, List.set_cons_succ])
          refine take_held (i := 31) (v := ?_) rfl (by kernel_rfl) (by kernel_rfl) (by kernel_rfl) (fun _ _ _ h => h) (by rfl) (fun w hSw => ?_) (by assumption) ?_
          rotate_left
          · (try dsimp only at hSw); go_simp <;> with_reducible rfl
          (try simp only [Act.put, List.setIfInBounds_toArray, List.set_cons_zero, List.set_cons_succ])
          refine take_held (i := 32) (v := ?_) rfl (by kernel_rfl) (by kernel_rfl) (by kernel_rfl) (fun _ _ _ h => h) (by rfl) (fun w hSw => ?_) (by assumption) ?_
          rotate_left
          · (try dsimp only at hSw); go_simp <;> with_reducible rfl
          (try simp only [Act.put, List.setIfInBounds_toArray, List.set_cons_zero, List.set_cons_succ])
          refine wpAnyH_done (by kernel_rfl) ?_ _
          go_wp2
          go_roundg (gk - 1)
          case measure => have := HJ.out; omega
          case rel => exact ⟨j + 1, st', F9, by have := HJ.out; omega, by go_num, HA9.out.both⟩
        · have hlt : decide ((j : Int) < (a.length : Int)) = false := by simpa using hj
          have hok9 := HK.out.okay HBo.out.dev.st
          obtain ⟨hsz, _, _⟩ := in_sizes hok9.2.2.1 hok9.2.1
          have hkeys := hok9.2.2.2.1
          obtain ⟨ks, hks⟩ : ∃ y, st.K.map Prod.fst = y := ⟨_, rfl⟩
          obtain ⟨n, hn⟩ : ∃ y, st.K.length = y := ⟨_, rfl⟩
          have hkn : ks.length = n := by rw [← hks, List.length_map, hn]
          rw [hn] at hsz
          have HKeysD : Hid (∀ W, Both St w0 W p w7.heap.size G ⟨keys, vers, byts, last⟩ m r v st → Calls Try.prog 24 #[.pointer (some ⟨p, 0, none⟩)] W fun e w' => ∃ A1 c1, e = .returned (.slice A1 n c1) ∧ RowG kCells w' 0 w'.heap.size A1 ks ∧ Both St w0 w' p w7.heap.size G ⟨keys, vers, byts, last⟩ m r v st ∧ Below W.heap.size W w') := Lib.hid fun W h =>
            (HK.out.keys p G _ st W h.dev.st).mono fun e w' q => by
              obtain ⟨A1, c1, e1, k1, k2, k3, k4, hb⟩ := q
              rw [hn] at e1
              rw [hks] at k4
              exact ⟨A1, c1, e1, k4.wide (Nat.zero_le _) (Nat.le_refl _), h.next HK.out hb, hb⟩
          have HKeysR : Hid (∀ W, Both St w0 W p w7.heap.size G ⟨keys, vers, byts, last⟩ m r v st → Calls Try.prog 25 #[.pointer (some ⟨w7.heap.size, 0, none⟩)] W fun e w' => ∃ A1 c1, e = .returned (.slice A1 n c1) ∧ RowG kCells w' 0 w'.heap.size A1 ks ∧ Both St w0 w' p w7.heap.size G ⟨keys, vers, byts, last⟩ m r v st ∧ Below W.heap.size W w') := Lib.hid fun W h => by
            obtain ⟨A0, c0, os, g1, g2⟩ := h.ref
            have hol : os.length = n := by rw [← hn, ← g2, List.length_map]
            have hok : os.map MOne.key = ks := by rw [← hks, ← g2, List.map_map]; rfl
            refine (refKeys_any _ _ _ m r v _ A0 c0 os W (by omega) g1).mono ?_
            rintro e w' ⟨A1, c1, e1, k1, k2, k3, k4, hb⟩
            rw [hol] at e1
            rw [hok] at k4
            exact ⟨A1, c1, e1, k4.wide (Nat.zero_le _) (Nat.le_refl _), h.next HK.out hb, hb⟩
          have HSameK : Hid (∀ W A1 c1 h1 A2 c2 h2, RowG kCells W 0 h1 A1 ks → RowG kCells W 0 h2 A2 ks → Both St w0 W p w7.heap.size G ⟨keys, vers, byts, last⟩ m r v st → Calls Try.prog 23 #[.slice A1 n c1, .slice A2 n c2] W fun e w' => e = .returned (.bool true) ∧ Both St w0 w' p w7.heap.size G ⟨keys, vers, byts, last⟩ m r v st) := Lib.hid fun W A1 c1 h1 A2 c2 h2 r1 r2 h =>
            (sameK_any ks A1 A2 n n c1 c2 0 h1 0 h2 W hkn.symm hkn.symm r1 r2 (by omega)).mono fun e w' q => ⟨q.1, h.next HK.out q.2⟩
          have HChD : Hid (∀ k W, k.length ≤ 256 → Both St w0 W p w7.heap.size G ⟨keys, vers, byts, last⟩ m r v st → Calls Try.prog 27 #[.pointer (some ⟨p, 0, none⟩), .string (bs k)] W fun e w' => ∃ A1 c1, e = .returned (.slice A1 (chainS st.K k).length c1) ∧ (chainS st.K k).length ≤ maxLen ∧ RowH w' w'.heap.size A1 (chainS st.K k) ∧ Both St w0 w' p w7.heap.size G ⟨keys, vers, byts, last⟩ m r v st ∧ Below W.heap.size W w') := Lib.hid fun k W hk h =>
            (HK.out.chain p G _ st k W h.dev.st (by omega)).mono fun e w' q => by
              obtain ⟨A1, c1, e1, k1, k2, k3, k4, hb⟩ := q
              exact ⟨A1, c1, e1, Nat.le_trans k1 k2, k4, h.next HK.out hb, hb⟩
          have HChR : Hid (∀ k W, Both St w0 W p w7.heap.size G ⟨keys, vers, byts, last⟩ m r v st → Calls Try.prog 28 #[.pointer (some ⟨w7.heap.size, 0, none⟩), .string (bs k)] W fun e w' => ∃ A1 c1, e = .returned (.slice A1 (chainS st.K k).length c1) ∧ RowH w' w'.heap.size A1 (chainS st.K k) ∧ Both St w0 w' p w7.heap.size G ⟨keys, vers, byts, last⟩ m r v st ∧ Below W.heap.size W w') := Lib.hid fun k W h => by
            obtain ⟨A0, c0, os, g1, g2⟩ := h.ref
            refine (refChain_any _ _ _ m r v _ A0 c0 os k W g1).mono ?_
            rintro e w' ⟨rfl, hb⟩
            obtain ⟨A1, c1, ms, e1, e2, h1⟩ := chain_in (g1.below hb) k
            have e3 := h1.rowM
            rw [g2] at e2
            have e4 : ms.length = (chainS st.K k).length := by rw [← e2, List.length_map]
            exact ⟨A1, c1, by rw [e1, e4], ⟨ms, e2, e3.1, e3.2⟩, h.next HK.out hb, hb⟩
          have HSameC : Hid (∀ k W A1 c1 A2 c2, (chainS st.K k).length ≤ maxLen → RowH W W.heap.size A1 (chainS st.K k) → RowH W W.heap.size A2 (chainS st.K k) → Both St w0 W p w7.heap.size G ⟨keys, vers, byts, last⟩ m r v st → Calls Try.prog 26 #[.slice A1 (chainS st.K k).length c1, .slice A2 (chainS st.K k).length c2] W fun e w' => e = .returned (.bool true) ∧ Both St w0 w' p w7.heap.size G ⟨keys, vers, byts, last⟩ m r v st ∧ Below W.heap.size W w') := Lib.hid fun k W A1 c1 A2 c2 hl r1 r2 h =>
            (refSameH_any _ _ A1 A2 c1 c2 W (by unfold maxLen at hl; omega) (by unfold maxLen at hl; omega) r1 r2).mono fun e w' q => ⟨by rw [q.1]; unfold sameH; rw [decide_eq_true rfl], h.next HK.out q.2, q.2⟩
          have hc0 : chainS st.K [] = [] := chainS_no fun x hx => (hkeys x hx).1
          have HCh0 : Hid (∀ W, Both St w0 W p w7.heap.size G ⟨keys, vers, byts, last⟩ m r v st → Calls Try.prog 27 #[.pointer (some ⟨p, 0, none⟩), .string ⟨#[]⟩] W fun e w' => ∃ A1 c1, e = .returned (.slice A1 0 c1) ∧ Both St w0 w' p w7.heap.size G ⟨keys, vers, byts, last⟩ m r v st) := Lib.hid fun W h =>
            Calls.mono (HK.out.chain p G _ st [] W h.dev.st (by decide)) fun e w' q => by
              obtain ⟨A1, c1, e1, k1, k2, k3, k4, hb⟩ := q
              rw [hc0] at e1
              exact ⟨A1, c1, e1, h.next HK.out hb⟩
          have HKL : Hid (∀ k ∈ ks, k.length ≤ 256) := Lib.hid fun k hk => by
            rw [← hks] at hk
            obtain ⟨x, hx, rfl⟩ := List.mem_map.1 hk
            exact (hkeys x hx).2
          have hbo0 := HBo.out
          clear hc0 hkeys hok9 hks hn HBoth8 HBo HWA HRA HN5 HB7
          go_wp2_with (first
            | (go_at_call 24; with_reducible refine (HKeysD.out _ (by assumption)).mono ?_; rintro e1 x1 ⟨A1, c1, rfl, row1, hbo1, _⟩; clear hbo0)
            | (go_at_call 25; with_reducible refine (HKeysR.out _ (by assumption)).mono ?_; rintro e2 x2 ⟨A2, c2, rfl, row2, hbo2, hb2⟩)
            | (go_at_call 23; with_reducible refine (HSameK.out _ _ _ _ _ _ _ (row1.below hb2 (Nat.le_refl _)) row2 hbo2).mono ?_; rintro e3 x3 ⟨rfl, hbo3⟩; clear row1 row2 hbo1 hbo2 hb2))
          have HRow := Lib.hid row2
          clear row2 hbo3 hb2 HKeysD HKeysR HSameK
          go_loopg [92] n (fun q i wr2 => ∃ j2 : Nat, j2 + q = n ∧ i = .int .i64 j2 ∧ Both St w0 wr2 p w7.heap.size G ⟨keys, vers, byts, last⟩ m r v st ∧ Below x2.heap.size x2 wr2)
          case atStart => exact ⟨0, by omega, rfl, hbo2, Below.refl _ _⟩
          case round =>
            obtain ⟨j2, hk2, rfl, hbo4, hb4⟩ := hrel
            have HJ2 := Lib.hid hk2
            have HB4 := Lib.hid hb4
            clear hk2 hb4 hbo2
            by_cases hj2 : j2 < n
            · have hlt3 : decide ((j2 : Int) < (n : Int)) = true := by simpa using hj2
              have hlt4 : decide (j2 < n) = true := by simpa using hj2
              have hjk : j2 < ks.length := by omega
              obtain ⟨b3, o3, rfl, d3⟩ := key_at (HRow.out.below HB4.out (Nat.le_refl _)) hjk
              have hkl := HKL.out _ (List.getElem_mem hjk)
              generalize ks[j2] = kx at *
              go_wp2_with (first
                | (go_at_call 27; with_reducible refine (HChD.out _ _ hkl hbo4).mono ?_; rintro e5 x5 ⟨A5, c5, rfl, l5, row5, hbo5, hb5⟩; have HL5 := Lib.hid l5; clear l5 hbo4)
                | (go_at_call 28; with_reducible refine (HChR.out _ _ hbo5).mono ?_; rintro e6 x6 ⟨A6, c6, rfl, row6, hbo6, hb6⟩; clear hbo5)
                | (go_at_call 26; with_reducible refine (HSameC.out _ _ _ _ _ _ HL5.out (row5.below hb6 (Nat.le_refl _) hb6.size) row6 hbo6).mono ?_; rintro e7 x7 ⟨rfl, hbo7, hb7⟩; clear row5 row6 hbo6))
              go_roundg (gk - 1)
              case measure => have := HJ2.out; omega
              case rel => exact ⟨j2 + 1, by have := HJ2.out; omega, by go_num, hbo7, ((HB4.out.trans (hb5.mono HB4.out.size)).trans (hb6.mono (Nat.le_trans HB4.out.size hb5.size))).trans (hb7.mono (Nat.le_trans HB4.out.size (Nat.le_trans hb5.size hb6.size)))⟩
            · have hlt3 : decide ((j2 : Int) < (n : Int)) = false := by simpa using hj2
              go_wp2_with (go_at_call 27; with_reducible refine (HCh0.out _ hbo4).mono ?_; rintro e8 x8 ⟨A8, c8, rfl, hbo8⟩)
              go_ret
              exact ⟨rfl, HB0.out.trans (hbo8.dev.below.mono HB0.out.size)⟩
    · have HNew : Hid (∀ wx, Below w0.heap.size w0 wx → Calls Try.prog 13 #[.agg #[.int .i64 keys, .int .i64 vers, .int .i64 byts, .int .i64 m, .int .i64 r, .int .i64 v, .int .u64 last]] wx fun r w' => r = .returned (.tuple #[.pointer none, .int .i64 1]) ∧ Below w0.heap.size w0 w') := Lib.hid fun wx hb =>
        (HK.out.new ⟨keys, vers, byts, last⟩ m r v wx h1 h2 h3 h4).mono fun _ _ q => by
          rw [if_neg hm] at q
          exact ⟨q.2, hb.trans (q.1.mono hb.size)⟩
      have hmf : MayS ⟨keys, vers, byts, last⟩ = false := by simpa using hm
      rw [hmf] at HMay
      clear h1 h2 h3 hm hmf
      go_enter Try.func3, Try.ntmps3
      go_upto_region 1 with fail
      rw [HW0.out]
      clear HW0
      go_wp2_with (first
        | (go_at_call 11; (with_reducible refine (HL.out _ (by assumption)).mono ?_); rintro r1 w' ⟨rfl, hb6⟩)
        | (go_at_call 12; (with_reducible refine (HFA.out _ (by assumption)).mono ?_); rintro r1 w' ⟨rfl, hb6⟩; obtain ⟨z0, z1, z2, z3, z4, z5, z6⟩ := HLim.out _ hb6)
        | (go_at_call 13; (with_reducible refine (HNew.out _ (by assumption)).mono ?_); rintro r1 w5 ⟨rfl, hb5⟩; clear z0 z1 z2 z3 z4 z5 z6; obtain ⟨z0, z1, z2, z3, z4, z5, z6⟩ := HLim.out _ hb5)
        | (go_at_call 14; (with_reducible refine (HMay.out _ hb5).mono ?_); rintro r1 w7 ⟨rfl, hb7⟩))
      go_ret
      exact ⟨rfl, HB0.out.trans ((hb5.trans (hb7.mono hb5.size)).mono HB0.out.size)⟩
  · have fa2 : fewO a = false := by simpa using fa
    rw [fa2] at HFA
    clear fa fa2
    go_enter Try.func3, Try.ntmps3
    go_upto_region 1 with fail
    rw [HW0.out]
    clear HW0
    go_wp2_with (first
      | (go_at_call 11; (with_reducible refine (HL.out _ (by assumption)).mono ?_); rintro r1 w' ⟨rfl, hb6⟩)
      | (go_at_call 12; (with_reducible refine (HFA.out _ (by assumption)).mono ?_); rintro r1 w' ⟨rfl, hb6⟩))
    go_ret
    exact ⟨rfl, HB0.out.trans (hb6.mono HB0.out.size)⟩
end storeDoes
end Go.Proofs.Ytooegjdppeiccaa
