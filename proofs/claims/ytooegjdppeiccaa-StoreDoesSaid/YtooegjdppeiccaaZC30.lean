import Derived.Test.YtooegjdppeiccaaZC07
import Derived.Test.YtooegjdppeiccaaZC24
import Derived.Test.YtooegjdppeiccaaZC25
import Derived.Test.YtooegjdppeiccaaZC29
/-
  Stores in plain words, step by step: what writes bring, one behind the other; no chain begins with one that is Gone, and no two that are Gone stand side by side.
-/
namespace Go.Proofs.Ytooegjdppeiccaa
open Go.RowKit

/-- Sizes. -/
structure Sz where
  k : Nat
  v : Nat
  b : Nat
def szS (K : KsS) : Sz := ⟨K.length, versS K, bytsS K⟩
def upG (st : PS) (l : List Wr) (j : Nat) : KsS := (l.take j).foldl (withOne st) st.K
def bringS (l : List Ver) (now : Nat) (gone : Bool) : Int := if (gone && !(getH l now).isSome) = true then 0 else if l.isEmpty = true then 1 else 2
theorem get_later {l : List Ver} {t u : Nat} (h : ∀ v ∈ l, v.tm ≤ t) (hu : t ≤ u) : getH l u = getH l t := by
  have e : ∀ s, t ≤ s → (l.filter fun v => decide (v.tm ≤ s)) = l := fun s hs => by
    rw [List.filter_eq_self]
    intro x hx
    have := h x hx
    simp
    omega
  unfold getH findH
  rw [e u hu, e t (Nat.le_refl _)]
section
variable {st : PS} {l : List Wr} {j : Nat}
theorem bring_now (h : OkS st) (w : Wr) {t : Nat} (ht : st.time ≤ t) : bringS (chainS st.K w.key) t w.gone = if comesS st w = true then (if (chainS st.K w.key).isEmpty = true then 1 else 2) else 0 := by
  unfold bringS comesS readS
  rw [get_later (h.upto w.key) ht]
  cases w.gone <;> cases getH (chainS st.K w.key) st.time <;> simp
theorem upG_len : upG st l l.length = withS st l := by unfold upG withS; rw [List.take_length]
theorem upG_succ (hj : j < l.length) : upG st l (j + 1) = withOne st (upG st l j) (l[j]'hj) := by
  unfold upG
  rw [List.take_succ_eq_append_getElem hj, List.foldl_append]
  rfl
theorem upG_ok (h : OkS st) (hc : checkS [] l = 0) (j : Nat) : SortS (upG st l j) ∧ FullS (upG st l j) ∧ ∀ i (hi : i < l.length), j ≤ i → chainS (upG st l j) (l[i]'hi).key = chainS st.K (l[i]'hi).key := by
  obtain ⟨_, h2⟩ := checkS_ok hc
  obtain ⟨k1, k2, k3⟩ := with_fold st (l.take j) st.K (List.Pairwise.sublist (List.take_sublist _ _) h2) h.sort h.full fun _ _ => rfl
  refine ⟨k1, k2, fun i hi hji => ?_⟩
  have h3 := k3 (l[i]'hi).key
  have hno : (l.take j).find? (fun w => w.key == (l[i]'hi).key) = none := List.find?_eq_none.2 fun x hx => by
    obtain ⟨m, hm, rfl⟩ := List.mem_take_iff_getElem.1 hx
    have := blt_ne (List.pairwise_iff_getElem.1 h2 m i (by omega) hi (by omega))
    simpa using this
  rw [hno] at h3
  exact h3
theorem upG_no (hj : j < l.length) (hcm : comesS st (l[j]'hj) = false) : upG st l (j + 1) = upG st l j := by
  rw [upG_succ hj]
  unfold withOne
  rw [hcm]
  rfl
theorem upG_yes (h : OkS st) (hc : checkS [] l = 0) (hj : j < l.length) (hcm : comesS st (l[j]'hj) = true) : upG st l (j + 1) = putS (upG st l j) (l[j]'hj).key (chainS st.K (l[j]'hj).key ++ [verW st (l[j]'hj)]) := by
  rw [upG_succ hj]
  unfold withOne
  rw [if_pos hcm, addH_ok (v := verW st (l[j]'hj)) (h.rightC _) ((checkS_ok hc).1 _ (List.getElem_mem hj)).2.2.2 (Nat.lt_succ_of_le (last_le (h.upto _)))]
theorem sz_put {K : KsS} (h : SortS K) (hf : FullS K) (k : KeyS) (v : Ver) :
    szS (putS K k (chainS K k ++ [v])) = if (chainS K k).isEmpty = true then ⟨K.length + 1, versS K + 1, bytsS K + k.length + v.dat.length⟩ else ⟨K.length, versS K + 1, bytsS K + v.dat.length⟩ := by
  have f2 := full_put hf k (chainS K k ++ [v])
  have s1 := sum_put m_zero.1 h hf k (chainS K k ++ [v])
  have s2 := sum_put m_zero.2.1 h hf k (chainS K k ++ [v])
  have s3 := sum_put m_zero.2.2 h hf k (chainS K k ++ [v])
  have e1 := len_sum f2
  have e2 := vers_sum (putS K k (chainS K k ++ [v]))
  have e3 := byts_sum f2
  have d1 := len_sum hf
  have d2 := vers_sum K
  have d3 := byts_sum hf
  have hsz : sizeH (chainS K k ++ [v]) = sizeH (chainS K k) + v.dat.length := by rw [size_append]; simp [sizeH]
  have q1 : m1 k (chainS K k ++ [v]) = 1 := if_neg (by simp)
  have q2 : m2 k (chainS K k ++ [v]) = (chainS K k).length + 1 := by unfold m2; rw [List.length_append, List.length_singleton]
  have q3 : m3 k (chainS K k ++ [v]) = k.length + (sizeH (chainS K k) + v.dat.length) := by rw [← hsz]; exact if_neg (by simp)
  rw [q1] at s1
  rw [q2] at s2
  rw [q3] at s3
  unfold szS
  by_cases hch : chainS K k = []
  · have r1 : m1 k (chainS K k) = 0 := if_pos hch
    have r2 : m2 k (chainS K k) = 0 := by unfold m2; rw [hch]; rfl
    have r3 : m3 k (chainS K k) = 0 := if_pos hch
    have r4 : (chainS K k).length = 0 := by rw [hch]; rfl
    have r5 : sizeH (chainS K k) = 0 := by rw [hch]; rfl
    rw [if_pos (by rw [hch]; rfl)]
    rw [Sz.mk.injEq]
    omega
  · have r1 : m1 k (chainS K k) = 1 := if_neg hch
    have r2 : m2 k (chainS K k) = (chainS K k).length := rfl
    have r3 : m3 k (chainS K k) = k.length + sizeH (chainS K k) := if_neg hch
    rw [if_neg (by simpa using hch)]
    rw [Sz.mk.injEq]
    omega
end

/-! ### who is Gone -/
def AltH : Bool → List Ver → Prop
  | _, [] => True
  | p, v :: l => (p = true → v.gone = false) ∧ AltH v.gone l
def lastG : Bool → List Ver → Bool
  | p, [] => p
  | _, v :: l => lastG v.gone l
theorem alt_append : ∀ (a b : List Ver) (p : Bool), AltH p (a ++ b) ↔ AltH p a ∧ AltH (lastG p a) b
  | [], b, p => by simp [AltH, lastG]
  | v :: a, b, p => by
    simp only [List.cons_append, AltH, lastG]
    rw [alt_append a b v.gone, and_assoc]
theorem last_append : ∀ (a b : List Ver) (p : Bool), lastG p (a ++ b) = lastG (lastG p a) b
  | [], b, p => rfl
  | v :: a, b, p => last_append a b v.gone
def AltC (l : List Ver) : Prop := AltH true l
def AltS (K : KsS) : Prop := ∀ k, AltC (chainS K k)
theorem split_le {l : List Ver} (h : l.Pairwise fun a b => a.tm < b.tm) (t : Nat) : l = (l.filter fun v => decide (v.tm ≤ t)) ++ (l.filter fun v => decide (t < v.tm)) := by
  induction l with
  | nil => rfl
  | cons v l ih =>
    obtain ⟨h1, h2⟩ := List.pairwise_cons.1 h
    rw [List.filter_cons, List.filter_cons]
    by_cases hv : v.tm ≤ t
    · rw [if_pos (by simpa using hv), if_neg (by simp; omega), List.cons_append, ← ih h2]
    · have e1 : (l.filter fun v => decide (v.tm ≤ t)) = [] := by
        rw [List.filter_eq_nil_iff]
        intro x hx
        have := h1 x hx
        simp
        omega
      have e2 : (l.filter fun v => decide (t < v.tm)) = l := by
        rw [List.filter_eq_self]
        intro x hx
        have := h1 x hx
        simp
        omega
      rw [if_neg (by simpa using hv), if_pos (by simp; omega), e1, e2, List.nil_append]
theorem alt_trim {l : List Ver} (h : l.Pairwise fun a b => a.tm < b.tm) (ha : AltC l) (low : Nat) : AltC (trimH l low) := by
  unfold AltC trimH findH at *
  have hs := split_le h low
  generalize (l.filter fun v => decide (v.tm ≤ low)) = a at *
  generalize (l.filter fun v => decide (low < v.tm)) = b at *
  subst hs
  rw [alt_append] at ha
  rcases List.eq_nil_or_concat a with rfl | ⟨c, v, rfl⟩
  · exact ha.2
  · rw [List.concat_eq_append] at *
    have e : lastG true (c ++ [v]) = v.gone := by rw [last_append]; rfl
    rw [e] at ha
    rw [List.getLast?_append, List.getLast?_singleton, Option.some_or]
    cases hg : v.gone
    · rw [keep_not hg]
      rw [hg] at ha
      exact ⟨fun _ => hg, by rw [hg]; exact ha.2⟩
    · rw [keep_gone hg]
      rw [hg] at ha
      exact ha.2
theorem last_get {l : List Ver} {t : Nat} (h : ∀ v ∈ l, v.tm ≤ t) : lastG true l = (getH l t).isNone := by
  have e : (l.filter fun v => decide (v.tm ≤ t)) = l := by
    rw [List.filter_eq_self]
    intro x hx
    simpa using h x hx
  unfold getH findH
  rw [e]
  rcases List.eq_nil_or_concat l with rfl | ⟨c, v, rfl⟩
  · rfl
  · rw [List.concat_eq_append, last_append, List.getLast?_append, List.getLast?_singleton, Option.some_or]
    unfold getOf lastG
    cases hg : v.gone <;> simp [lastG, hg]
theorem alt_put {st : PS} (h : OkS st) (w : Wr) (ha : AltC (chainS st.K w.key)) (hcm : comesS st w = true) : AltC (chainS st.K w.key ++ [verW st w]) := by
  unfold AltC
  rw [alt_append]
  refine ⟨ha, fun hp => ?_, trivial⟩
  rw [last_get (h.upto w.key)] at hp
  show w.gone = false
  unfold comesS readS at hcm
  rw [hp] at hcm
  simpa using hcm
theorem alt_with {st : PS} {l : List Wr} (h : OkS st) (hc : checkS [] l = 0) (ha : AltS st.K) : AltS (withS st l) := fun k => by
  rw [(with_ok h hc).2.2 k]
  rcases afterC_cases h hc k with e | ⟨w, _, hk, hcm, e, _⟩
  · rw [e]
    exact ha k
  · rw [e]
    subst hk
    exact alt_put h w (ha _) hcm
theorem alt_collect {st : PS} (h : OkS st) (ha : AltS st.K) (low : Nat) : AltS (collectS st.K low) := fun k => by
  rw [chain_collect h.sort]
  exact alt_trim (h.rise k) (ha k) low
theorem alt_none : AltS [] := fun _ => trivial
/-- Who has no second version at or below low loses none. -/
theorem trim_stays {l : List Ver} (h : l.Pairwise fun a b => a.tm < b.tm) (ha : AltC l) (low : Nat) (hl : ∀ (h1 : 1 < l.length), low < (l[1]'h1).tm) : trimH l low = l := by
  cases l with
  | nil => rfl
  | cons v l =>
    have hv : v.gone = false := ha.1 rfl
    have hb : ∀ x ∈ l, low < x.tm := fun x hx => by
      cases l with
      | nil => cases hx
      | cons y l =>
        have h1 := hl (by simp)
        simp only [List.getElem_cons_succ, List.getElem_cons_zero] at h1
        rcases List.mem_cons.1 hx with rfl | hx
        · exact h1
        · have := (List.pairwise_cons.1 (List.pairwise_cons.1 h).2).1 x hx
          omega
    have e1 : (l.filter fun v => decide (v.tm ≤ low)) = [] := by
      rw [List.filter_eq_nil_iff]
      intro x hx
      have := hb x hx
      simp
      omega
    have e2 : (l.filter fun v => decide (low < v.tm)) = l := by
      rw [List.filter_eq_self]
      intro x hx
      simpa using hb x hx
    unfold trimH findH
    rw [List.filter_cons, List.filter_cons, e1, e2]
    by_cases hvl : v.tm ≤ low
    · rw [if_pos (by simpa using hvl), if_neg (by simp; omega)]
      show keepH (some v) ++ l = v :: l
      rw [keep_not hv]
      rfl
    · rw [if_neg (by simpa using hvl), if_pos (by simp; omega)]
      rfl
end Go.Proofs.Ytooegjdppeiccaa

/-
  The developers' store in memory.
-/
namespace Go.Proofs.Ytooegjdppeiccaa
open Go.RowKit

def szVal (z : Sz) : Value := .agg #[.int .i64 (z.k : Int), .int .i64 (z.v : Int), .int .i64 (z.b : Int)]
def boxS (L : LimS) (m r v : Int) (now B : Nat) (kv : Value) (z : Sz) : Array Value :=
  #[.int .i64 L.keys, .int .i64 L.vers, .int .i64 L.byts, .int .i64 m, .int .i64 r, .int .i64 v, .int .u64 L.last, .int .u64 now, .map (some B), kv, .int .i64 (z.k : Int), .int .i64 (z.v : Int), .int .i64 (z.b : Int)]
def OkD (w : World) (D : Nat → Prop) (x : MV) : Prop := x.v.tm < 18446744073709551616 ∧ x.v.dat.length ≤ x.c ∧ x.c ≤ maxLen ∧ (x.A = none → x.c = 0) ∧ RdD w D x.A x.v.dat
/-- A chain of a store's own. -/
def OwnC (w : World) (D : Nat → Prop) (v : Value) (l : List Ver) : Prop := ∃ ms : List MV, ms.map MV.v = l ∧ OwnG 103 3 mvCells w 0 v ms ∧ ∀ x ∈ ms, OkD w D x
section
variable {w w' : World} {D D' : Nat → Prop} {x : MV} {v : Value} {l : List Ver} {hi lo : Nat}
theorem OkD.keep (h : OkD w D x) (hk : ∀ b, D b → w'.heap[b]? = w.heap[b]?) (hd : ∀ b, D b → D' b) : OkD w' D' x :=
  ⟨h.1, h.2.1, h.2.2.1, h.2.2.2.1, fun hn => by
    obtain ⟨b, o, e, h1, h2⟩ := h.2.2.2.2 hn
    exact ⟨b, o, e, hd b h1, fun j hj => (World.cell?_of_block (a := ⟨b, o + j, none⟩) (hk b h1)).trans (h2 j hj)⟩⟩
theorem OkD.ok (h : OkD w D x) (hd : ∀ b, D b → b < hi) : OkMV w hi x :=
  ⟨h.1, h.2.1, h.2.2.1, h.2.2.2.1, fun hn => by
    obtain ⟨b, o, e, h1, h2⟩ := h.2.2.2.2 hn
    exact ⟨b, o, e, Nat.zero_le _, hd b h1, h2⟩⟩
theorem OkFar.okD (h : OkFar w lo hi x) (hd : ∀ b, lo ≤ b → b < hi → D b) : OkD w D x :=
  ⟨h.1, h.2.1, h.2.2.1, h.2.2.2.1, fun hn => by
    obtain ⟨b, o, e, h1, h2, h3⟩ := h.2.2.2.2 hn
    exact ⟨b, o, e, hd b h1 h2, h3⟩⟩
theorem OwnC.keep (h : OwnC w D v l) (hk : ∀ b, D b → w'.heap[b]? = w.heap[b]?) (hd : ∀ b, D b → D' b) (hv : ∀ b, v.ownBlock = some b → w'.heap[b]? = w.heap[b]?) : OwnC w' D' v l := by
  obtain ⟨ms, e, h1, h2⟩ := h
  exact ⟨ms, e, h1.keep (fun g hg _ => hv g hg) (Nat.le_refl _), fun x hx => (h2 x hx).keep hk hd⟩
theorem OwnC.ch (h : OwnC w D v l) (hd : ∀ b, D b → b < w.heap.size) : ∃ A c, v = .slice A l.length c ∧ ChH w w.heap.size A c l := by
  obtain ⟨ms, rfl, h1, h2⟩ := h
  obtain ⟨A, c, e, k1, k2, k3, k4⟩ := h1.form
  refine ⟨A, c, by rw [List.length_map]; exact e, by rw [List.length_map]; exact k1, k2, k3, ms, rfl, k4, fun x hx => (h2 x hx).ok hd⟩
end
def valS (g : KeyS → List Ver) (cv : KeyS → Value) (k : KeyS) : Value := if (g k).isEmpty = true then .slice none 0 0 else cv k
def mapG (g : KeyS → List Ver) (cv : KeyS → Value) (k : KeyS) : Option Value := if (g k).isEmpty = true then none else some (cv k)
/-- A store in memory: its struct at p, its map at B; F: all blocks that are its own, D: those where bytes lie; g: the chains; ks: the keys. -/
structure RawS (w : World) (p : Nat) (F D : Nat → Prop) (B : Nat) (kv : Value) (cv : KeyS → Value) (L : LimS) (m r v : Int) (now : Nat) (g : KeyS → List Ver) (ks : List KeyS) (z : Sz) : Prop where
  box : w.heap[p]? = some (.cells (boxS L m r v now B kv z) 92 (0, 0))
  map : MapS w B (mapG g cv)
  keys : OwnG 9 1 kCells w 0 kv ks
  chain : ∀ k, g k ≠ [] → OwnC w D (cv k) (g k)
  Fp : F p
  FB : F B
  Fk : ∀ b, kv.ownBlock = some b → F b
  Fc : ∀ k, g k ≠ [] → ∀ b, (cv k).ownBlock = some b → F b
  FD : ∀ b, D b → F b
  lt : ∀ b, F b → b < w.heap.size
  pB : p ≠ B
  kvp : ∀ b, kv.ownBlock = some b → b ≠ p ∧ b ≠ B ∧ ¬ D b
  cvp : ∀ k, g k ≠ [] → ∀ b, (cv k).ownBlock = some b → b ≠ p ∧ b ≠ B ∧ ¬ D b ∧ kv.ownBlock ≠ some b
  apart : ∀ k k', g k ≠ [] → g k' ≠ [] → k ≠ k' → ∀ b, (cv k).ownBlock = some b → (cv k').ownBlock ≠ some b
  Dp : ¬ D p
  DB : ¬ D B
theorem kInfo : InfoG Try.prog 9 1 16 := InfoG.of (by kernel_rfl)
theorem zeroCh (w : World) : (zeroValue 56).run Try.prog w = .ok (.slice none 0 0) w := by kernel_rfl
section
variable {w w' : World} {p : Nat} {F D : Nat → Prop} {B : Nat} {kv : Value} {cv : KeyS → Value} {L : LimS} {m r v : Int} {now : Nat} {g : KeyS → List Ver} {ks : List KeyS} {z : Sz}
theorem RawS.keep (h : RawS w p F D B kv cv L m r v now g ks z) (hk : ∀ b, F b → w'.heap[b]? = w.heap[b]?) : RawS w' p F D B kv cv L m r v now g ks z where
  box := (hk p h.Fp).trans h.box
  map := h.map.keep (hk B h.FB)
  keys := OwnG.keep h.keys (fun b hb _ => hk b (h.Fk b hb)) (Nat.le_refl _)
  chain := fun k hg => (h.chain k hg).keep (fun b hb => hk b (h.FD b hb)) (fun _ hb => hb) (fun b hb => hk b (h.Fc k hg b hb))
  Fp := h.Fp
  FB := h.FB
  Fk := h.Fk
  Fc := h.Fc
  FD := h.FD
  lt := fun b hb => by
    have e := hk b hb
    have h1 := h.lt b hb
    rw [Array.getElem?_eq_getElem h1] at e
    exact (Array.getElem?_eq_some_iff.1 e).1
  pB := h.pB
  kvp := h.kvp
  cvp := h.cvp
  apart := h.apart
  Dp := h.Dp
  DB := h.DB
theorem RawS.below (h : RawS w p F D B kv cv L m r v now g ks z) (hb : Below w.heap.size w w') : RawS w' p F D B kv cv L m r v now g ks z := h.keep fun b hf => hb.block b (h.lt b hf)
theorem RawS.look (h : RawS w p F D B kv cv L m r v now g ks z) (k : KeyS) : (Instr.lookup 90 (.map (some B)) (.string (bs k)) false).run Try.prog w = .ok (valS g cv k) w := by
  have e := MapS.look (P := Try.prog) (t := 90) (kt := 9) (et := 56) h.map Try.underlying90 Try.underlying9 (zeroCh w) false k
  unfold keyV at e
  rw [e]
  unfold valS mapG
  cases (g k).isEmpty <;> rfl
theorem RawS.look2 (h : RawS w p F D B kv cv L m r v now g ks z) (k : KeyS) : (Instr.lookup 90 (.map (some B)) (.string (bs k)) true).run Try.prog w = .ok (.tuple #[valS g cv k, .bool (!(g k).isEmpty)]) w := by
  have e := MapS.look (P := Try.prog) (t := 90) (kt := 9) (et := 56) h.map Try.underlying90 Try.underlying9 (zeroCh w) true k
  unfold keyV at e
  rw [e]
  unfold valS mapG
  cases (g k).isEmpty <;> rfl
theorem RawS.ch (h : RawS w p F D B kv cv L m r v now g ks z) (k : KeyS) : ∃ A c, valS g cv k = .slice A (g k).length c ∧ ChH w w.heap.size A c (g k) := by
  unfold valS
  cases hg : g k with
  | nil => exact ⟨none, 0, by simp, ChH.none_ _ _⟩
  | cons x l =>
    have h1 := (h.chain k (by rw [hg]; simp)).ch (fun b hb => h.lt b (h.FD b hb))
    rw [hg] at h1
    simpa using h1
theorem RawS.cell (h : RawS w p F D B kv cv L m r v now g ks z) (i : Nat) (u : Value) (hu : (boxS L m r v now B kv z)[i]? = some u) : w.cell? ⟨p, i, none⟩ = some u := by
  rw [cell_of_row w p i _ _ _ h.box]
  exact hu
theorem RawS.now_ (h : RawS w p F D B kv cv L m r v now g ks z) : w.cell? ⟨p, 7, none⟩ = some (.int .u64 (now : Int)) := h.cell 7 _ rfl
theorem RawS.map_ (h : RawS w p F D B kv cv L m r v now g ks z) : w.cell? ⟨p, 8, none⟩ = some (.map (some B)) := h.cell 8 _ rfl
theorem RawS.keys_ (h : RawS w p F D B kv cv L m r v now g ks z) : w.cell? ⟨p, 9, none⟩ = some kv := h.cell 9 _ rfl
theorem RawS.sz0 (h : RawS w p F D B kv cv L m r v now g ks z) : w.cell? ⟨p, 10, none⟩ = some (.int .i64 (z.k : Int)) := h.cell 10 _ rfl
theorem RawS.sz1 (h : RawS w p F D B kv cv L m r v now g ks z) : w.cell? ⟨p, 11, none⟩ = some (.int .i64 (z.v : Int)) := h.cell 11 _ rfl
theorem RawS.sz2 (h : RawS w p F D B kv cv L m r v now g ks z) : w.cell? ⟨p, 12, none⟩ = some (.int .i64 (z.b : Int)) := h.cell 12 _ rfl
theorem RawS.lim0 (h : RawS w p F D B kv cv L m r v now g ks z) : w.cell? ⟨p, 0, none⟩ = some (.int .i64 L.keys) := h.cell 0 _ rfl
theorem RawS.lim1 (h : RawS w p F D B kv cv L m r v now g ks z) : w.cell? ⟨p, 1, none⟩ = some (.int .i64 L.vers) := h.cell 1 _ rfl
theorem RawS.lim2 (h : RawS w p F D B kv cv L m r v now g ks z) : w.cell? ⟨p, 2, none⟩ = some (.int .i64 L.byts) := h.cell 2 _ rfl
theorem RawS.lim6 (h : RawS w p F D B kv cv L m r v now g ks z) : w.cell? ⟨p, 6, none⟩ = some (.int .u64 L.last) := h.cell 6 _ rfl
theorem RawS.frozen (h : RawS w p F D B kv cv L m r v now g ks z) (o : Nat) : w.frozen? ⟨p, o, none⟩ = false := frozen_of h.box o
end
end Go.Proofs.Ytooegjdppeiccaa
