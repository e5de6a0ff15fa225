import Derived.Test.YtfdiidhilonkoaaZC06
set_option linter.unusedVariables false
/-
  Stores in plain words: what is done, and what it tells; snapshots stay, limits hold, collecting is not seen, few are left.
-/
namespace Go.Proofs.Ytfdiidhilonkoaa
open Go.RowKit

/-- What is done: 0 a commit, 1 a collecting, 2 a read, 3 a scan. -/
structure OpS where
  what : Int
  l : List Wr
  low : Nat
  tm : Nat
  lo : KeyS
  hi : KeyS
structure ToldS where
  n : Nat
  e : Int
  b : List UInt8
  is : Bool
  scan : List (KeyS × List UInt8)
def told0 : ToldS := ⟨0, 0, [], false, []⟩
def doesS (L : LimS) (st : PS) (o : OpS) : PS × ToldS :=
  if o.what = 0 then ((commitS L st o.l o.low).1, ⟨(commitS L st o.l o.low).2.1, (commitS L st o.l o.low).2.2, [], false, []⟩)
  else if o.what = 1 then (⟨st.time, collectS st.K o.low⟩, ⟨versS st.K - versS (collectS st.K o.low), 0, [], false, []⟩)
  else if o.what = 2 then (st, ⟨lastH (chainS st.K o.lo), 0, (readS st.K o.lo o.tm).getD [], (readS st.K o.lo o.tm).isSome, []⟩)
  else if o.what = 3 then (st, ⟨0, 0, [], false, scanS st.K o.lo o.hi o.tm⟩)
  else (st, told0)

section
variable {L : LimS} {st : PS} {l : List Wr} {low : Nat}
theorem okS_room (h : OkS st) : OkS (roomS L st l low) := by
  unfold roomS
  split
  · exact h
  · exact okS_collect h low
theorem room_time : (roomS L st l low).time = st.time := by
  unfold roomS
  split <;> rfl
theorem commit_cases (L : LimS) (st : PS) (l : List Wr) (low : Nat) :
    ((commitS L st l low) = (st, 0, checkS [] l) ∧ checkS [] l ≠ 0) ∨ (commitS L st l low = (st, st.time, 0) ∧ checkS [] l = 0 ∧ l = []) ∨ (commitS L st l low = (st, 0, 5) ∧ checkS [] l = 0 ∧ l ≠ [] ∧ st.time = L.last) ∨
      (commitS L st l low = (⟨st.time + 1, withS (roomS L st l low) l⟩, st.time + 1, 0) ∧ checkS [] l = 0 ∧ l ≠ [] ∧ st.time ≠ L.last ∧ fitsS L (withS (roomS L st l low) l) = true) ∨
      (commitS L st l low = (roomS L st l low, 0, 5) ∧ checkS [] l = 0 ∧ l ≠ [] ∧ st.time ≠ L.last ∧ fitsS L (withS (roomS L st l low) l) = false) := by
  unfold commitS
  by_cases h1 : checkS [] l = 0
  · rw [if_neg (fun h => h h1)]
    by_cases h2 : l = []
    · rw [if_pos h2]
      exact .inr (.inl ⟨rfl, h1, h2⟩)
    · rw [if_neg h2]
      by_cases h3 : st.time = L.last
      · rw [if_pos h3]
        exact .inr (.inr (.inl ⟨rfl, h1, h2, h3⟩))
      · rw [if_neg h3]
        by_cases h4 : fitsS L (withS (roomS L st l low) l) = true
        · rw [if_pos h4]
          exact .inr (.inr (.inr (.inl ⟨rfl, h1, h2, h3, h4⟩)))
        · rw [if_neg h4]
          exact .inr (.inr (.inr (.inr ⟨rfl, h1, h2, h3, by simpa using h4⟩)))
  · rw [if_pos h1]
    exact .inl ⟨rfl, h1⟩
theorem okS_commit (h : OkS st) (L : LimS) (l : List Wr) (low : Nat) : OkS (commitS L st l low).1 := by
  rcases commit_cases L st l low with ⟨e, _⟩ | ⟨e, _⟩ | ⟨e, _⟩ | ⟨e, hc, _⟩ | ⟨e, _⟩ <;> rw [e]
  · exact h
  · exact h
  · exact h
  · have := okS_with (okS_room (L := L) (l := l) (low := low) h) hc
    rw [room_time] at this
    exact this
  · exact okS_room h
theorem okS_does (h : OkS st) (L : LimS) (o : OpS) : OkS (doesS L st o).1 := by
  unfold doesS
  split
  · exact okS_commit h L _ _
  · split
    · exact okS_collect h _
    · split
      · exact h
      · split <;> exact h
/-- Within its limits. -/
def InS (L : LimS) (st : PS) : Prop := fitsS L st.K = true ∧ st.time ≤ L.last
theorem in_room (h : OkS st) (hi : InS L st) : InS L (roomS L st l low) := by
  unfold roomS
  split
  · exact hi
  · exact ⟨fits_collect h.sort h.full low hi.1, hi.2⟩
theorem in_commit (h : OkS st) (hi : InS L st) (l : List Wr) (low : Nat) : InS L (commitS L st l low).1 := by
  rcases commit_cases L st l low with ⟨e, _⟩ | ⟨e, _⟩ | ⟨e, _⟩ | ⟨e, _, _, h3, h4⟩ | ⟨e, _⟩ <;> rw [e]
  · exact hi
  · exact hi
  · exact hi
  · exact ⟨h4, by have := hi.2; show st.time + 1 ≤ L.last; omega⟩
  · exact in_room h hi
theorem in_does (h : OkS st) (hi : InS L st) (o : OpS) : InS L (doesS L st o).1 := by
  unfold doesS
  split
  · exact in_commit h hi _ _
  · split
    · exact ⟨fits_collect h.sort h.full _ hi.1, hi.2⟩
    · split
      · exact hi
      · split <;> exact hi
theorem time_commit (L : LimS) (st : PS) (l : List Wr) (low : Nat) : st.time ≤ (commitS L st l low).1.time := by
  rcases commit_cases L st l low with ⟨e, _⟩ | ⟨e, _⟩ | ⟨e, _⟩ | ⟨e, _⟩ | ⟨e, _⟩ <;> rw [e]
  · exact Nat.le_refl _
  · exact Nat.le_refl _
  · exact Nat.le_refl _
  · exact Nat.le_succ _
  · rw [room_time]; exact Nat.le_refl _
theorem time_does (L : LimS) (st : PS) (o : OpS) : st.time ≤ (doesS L st o).1.time := by
  unfold doesS
  split
  · exact time_commit L st _ _
  · split
    · exact Nat.le_refl _
    · split
      · exact Nat.le_refl _
      · split <;> exact Nat.le_refl _

/-! ### snapshots -/
theorem read_room (h : OkS st) {t : Nat} (hl : low ≤ t) (k : KeyS) : readS (roomS L st l low).K k t = readS st.K k t := by
  unfold roomS
  split
  · rfl
  · exact read_collect h hl k
theorem read_room_now (h : OkS st) (k : KeyS) : readS (roomS L st l low).K k st.time = readS st.K k st.time := by
  unfold roomS
  split
  · rfl
  · exact read_collect_now h low k
theorem read_commit (h : OkS st) {t : Nat} (ht : t ≤ st.time) (hl : low ≤ t) (k : KeyS) : readS (commitS L st l low).1.K k t = readS st.K k t := by
  rcases commit_cases L st l low with ⟨e, _⟩ | ⟨e, _⟩ | ⟨e, _⟩ | ⟨e, hc, _⟩ | ⟨e, _⟩ <;> rw [e]
  · rw [← read_room (L := L) (l := l) (low := low) h hl]
    exact read_with (okS_room h) hc (by rw [room_time]; exact ht) k
  · exact read_room h hl k
theorem read_does (h : OkS st) (L : LimS) (o : OpS) {t : Nat} (ht : t ≤ st.time) (hl : o.low ≤ t) (k : KeyS) : readS (doesS L st o).1.K k t = readS st.K k t := by
  unfold doesS
  split
  · exact read_commit h ht hl k
  · split
    · exact read_collect h hl k
    · split
      · rfl
      · split <;> rfl
/-- Whatever is refused, or is no commit, changes nothing that is read now. -/
theorem read_refused (h : OkS st) (L : LimS) (o : OpS) (hr : (doesS L st o).1.time = st.time) (k : KeyS) : readS (doesS L st o).1.K k st.time = readS st.K k st.time := by
  unfold doesS at hr ⊢
  split
  · next h0 =>
    rw [if_pos h0] at hr
    rcases commit_cases L st o.l o.low with ⟨e, _⟩ | ⟨e, _⟩ | ⟨e, _⟩ | ⟨e, _⟩ | ⟨e, _⟩
    · rw [e]
    · rw [e]
    · rw [e]
    · rw [e] at hr
      exact absurd hr (Nat.succ_ne_self _)
    · rw [e]
      exact read_room_now h k
  · split
    · exact read_collect_now h _ k
    · split
      · rfl
      · split <;> rfl
/-- When the time turns. -/
theorem time_turns (L : LimS) (st : PS) (o : OpS) : (o.what = 0 ∧ (doesS L st o).2.e = 0 ∧ o.l ≠ [] ∧ (doesS L st o).1.time = st.time + 1 ∧ (doesS L st o).2.n = st.time + 1) ∨
    (¬ (o.what = 0 ∧ (doesS L st o).2.e = 0 ∧ o.l ≠ []) ∧ (doesS L st o).1.time = st.time) := by
  unfold doesS
  by_cases h0 : o.what = 0
  · rw [if_pos h0]
    rcases commit_cases L st o.l o.low with ⟨e, hc⟩ | ⟨e, _, hl⟩ | ⟨e, _⟩ | ⟨e, _, hl, _⟩ | ⟨e, _⟩ <;> rw [e]
    · exact .inr ⟨(fun h => hc h.2.1), rfl⟩
    · exact .inr ⟨(fun h => h.2.2 hl), rfl⟩
    · exact .inr ⟨(fun h => by cases h.2.1), rfl⟩
    · exact .inl ⟨h0, rfl, hl, rfl, rfl⟩
    · exact .inr ⟨(fun h => by cases h.2.1), room_time⟩
  · rw [if_neg h0]
    refine .inr ⟨fun h => h0 h.1, ?_⟩
    split
    · rfl
    · split
      · rfl
      · split <;> rfl
end

/-! ### collecting is not seen -/
theorem trim_put_late {l : List Ver} {v : Ver} {low : Nat} (hv : low < v.tm) : trimH (l ++ [v]) low = trimH l low ++ [v] := by
  unfold trimH
  rw [find_put, if_neg (by omega), List.filter_append, List.append_assoc]
  congr 1
  congr 1
  rw [List.filter_cons, if_pos (by simpa using hv)]
  rfl
def trimS (st : PS) (low : Nat) : PS := ⟨st.time, collectS st.K low⟩
theorem comes_trim {st : PS} (h : OkS st) {low : Nat} (hl : low ≤ st.time) (w : Wr) : comesS (trimS st low) w = comesS st w := by
  unfold comesS
  rw [show readS (trimS st low).K w.key (trimS st low).time = readS st.K w.key st.time from read_collect h hl w.key]
theorem trim_with {st : PS} (h : OkS st) {l : List Wr} (hc : checkS [] l = 0) {low : Nat} (hl : low ≤ st.time) : collectS (withS st l) low = withS (trimS st low) l := by
  have ht := okS_collect h low
  obtain ⟨k1, k2, k3⟩ := with_ok h hc
  obtain ⟨j1, j2, j3⟩ := with_ok (st := trimS st low) ht hc
  refine store_ext (sort_collect k1 low) j1 (full_collect _ _) j2 fun k => ?_
  rw [chain_collect k1, k3, j3]
  obtain ⟨hw, _⟩ := checkS_ok hc
  unfold afterC
  cases hf : l.find? fun w => w.key == k with
  | none => exact (chain_collect h.sort low k).symm
  | some w =>
    have hm := List.mem_of_find?_eq_some hf
    have hk : w.key = k := by simpa using List.find?_some hf
    have e1 := newC_ok h (hw w hm).2.2.2
    have e2 := newC_ok (st := trimS st low) ht (hw w hm).2.2.2
    show trimH (newC st w) low = newC (trimS st low) w
    rw [e1, e2, comes_trim h hl]
    split
    · rw [trim_put_late (show low < st.time + 1 by omega)]
      congr 1
      exact (chain_collect h.sort low _).symm
    · exact (chain_collect h.sort low _).symm
theorem collect_collect {K : KsS} (h : SortS K) (hr : ∀ k, (chainS K k).Pairwise (fun a b => a.tm < b.tm)) {less low : Nat} (hl : less ≤ low) : collectS (collectS K less) low = collectS K low :=
  store_ext (sort_collect (sort_collect h less) low) (sort_collect h low) (full_collect _ _) (full_collect _ _) fun k => by
    rw [chain_collect (sort_collect h less), chain_collect h, chain_collect h]
    exact trim_trim (hr k) hl
theorem OkS.rise {st : PS} (h : OkS st) (k : KeyS) : (chainS st.K k).Pairwise (fun a b => a.tm < b.tm) := ((right_iff _ 0).1 (h.rightC k)).2
/-- A commit is taken just where it has room behind a collecting. -/
theorem commit_trim {L : LimS} {st : PS} (h : OkS st) {l : List Wr} (hc : checkS [] l = 0) {low : Nat} (hl : low ≤ st.time) :
    fitsS L (withS (roomS L st l low) l) = fitsS L (withS (trimS st low) l) ∧ collectS (withS (roomS L st l low) l) low = withS (trimS st low) l ∧ collectS (roomS L st l low).K low = collectS st.K low := by
  have ht := okS_collect h low
  unfold roomS
  by_cases hf : fitsS L (withS st l) = true
  · rw [if_pos hf]
    obtain ⟨k1, k2, _⟩ := with_ok h hc
    refine ⟨?_, trim_with h hc hl, rfl⟩
    rw [hf, ← trim_with h hc hl, fits_collect k1 k2 low hf]
  · rw [if_neg hf]
    refine ⟨rfl, ?_, collect_collect h.sort h.rise (Nat.le_refl _)⟩
    have e := trim_with (st := trimS st low) ht hc hl
    rw [show trimS (trimS st low) low = trimS st low by unfold trimS; rw [collect_collect h.sort h.rise (Nat.le_refl _)]] at e
    exact e
/-- Two stores that are told apart by nobody who asks of low, and of what comes behind it. -/
structure LikeS (low : Nat) (s x : PS) : Prop where
  okS : OkS s
  okX : OkS x
  time : s.time = x.time
  upto : low ≤ s.time
  trim : collectS s.K low = collectS x.K low
theorem LikeS.read {low : Nat} {s x : PS} (h : LikeS low s x) {t : Nat} (ht : low ≤ t) (k : KeyS) : readS s.K k t = readS x.K k t := by
  rw [← read_collect h.okS ht, ← read_collect h.okX ht, h.trim]
theorem LikeS.scan {low : Nat} {s x : PS} (h : LikeS low s x) {t : Nat} (ht : low ≤ t) (lo hi : KeyS) : scanS s.K lo hi t = scanS x.K lo hi t :=
  scan_same h.okS.sort h.okX.sort fun k => h.read ht k
theorem LikeS.up {low low' : Nat} {s x : PS} (h : LikeS low s x) (hl : low ≤ low') (ht : low' ≤ s.time) : LikeS low' s x :=
  ⟨h.okS, h.okX, h.time, ht, by rw [← collect_collect h.okS.sort h.okS.rise hl, ← collect_collect h.okX.sort h.okX.rise hl, h.trim]⟩
theorem LikeS.commit {L : LimS} {low : Nat} {s x : PS} (h : LikeS low s x) (l : List Wr) : (commitS L s l low).2 = (commitS L x l low).2 ∧ LikeS low (commitS L s l low).1 (commitS L x l low).1 := by
  have oS := okS_commit h.okS L l low
  have oX := okS_commit h.okX L l low
  have tS := time_commit L s l low
  by_cases hc : checkS [] l = 0
  · have hlx : low ≤ x.time := by rw [← h.time]; exact h.upto
    obtain ⟨f1, f2, f3⟩ := commit_trim (L := L) h.okS hc h.upto
    obtain ⟨g1, g2, g3⟩ := commit_trim (L := L) h.okX hc hlx
    have e0 : trimS s low = trimS x low := by unfold trimS; rw [h.time, h.trim]
    have e1 : fitsS L (withS (roomS L s l low) l) = fitsS L (withS (roomS L x l low) l) := by rw [f1, g1, e0]
    rcases commit_cases L s l low with ⟨e, hn⟩ | ⟨e, _, hn⟩ | ⟨e, _, hn, hlast⟩ | ⟨e, _, hn, hlast, hfit⟩ | ⟨e, _, hn, hlast, hfit⟩
    · exact absurd hc hn
    · rcases commit_cases L x l low with ⟨e', hn'⟩ | ⟨e', _, hn'⟩ | ⟨e', _, hn', _⟩ | ⟨e', _, hn', _⟩ | ⟨e', _, hn', _⟩
      · exact absurd hc hn'
      · rw [e, e']
        exact ⟨by rw [h.time], h⟩
      · exact absurd hn hn'
      · exact absurd hn hn'
      · exact absurd hn hn'
    · rcases commit_cases L x l low with ⟨e', hn'⟩ | ⟨e', _, hn'⟩ | ⟨e', _, _, _⟩ | ⟨e', _, _, hl', _⟩ | ⟨e', _, _, hl', _⟩
      · exact absurd hc hn'
      · exact absurd hn' hn
      · rw [e, e']
        exact ⟨rfl, h⟩
      · exact absurd (h.time.symm.trans hlast) hl'
      · exact absurd (h.time.symm.trans hlast) hl'
    · rcases commit_cases L x l low with ⟨e', hn'⟩ | ⟨e', _, hn'⟩ | ⟨e', _, _, hl'⟩ | ⟨e', _, _, _, _⟩ | ⟨e', _, _, _, hf'⟩
      · exact absurd hc hn'
      · exact absurd hn' hn
      · exact absurd (h.time.trans hl') hlast
      · rw [e] at oS tS
        rw [e'] at oX
        rw [e, e']
        refine ⟨by rw [h.time], oS, oX, by show s.time + 1 = x.time + 1; rw [h.time], Nat.le_trans h.upto tS, ?_⟩
        show collectS (withS (roomS L s l low) l) low = collectS (withS (roomS L x l low) l) low
        rw [f2, g2, e0]
      · rw [e1, hf'] at hfit
        cases hfit
    · rcases commit_cases L x l low with ⟨e', hn'⟩ | ⟨e', _, hn'⟩ | ⟨e', _, _, hl'⟩ | ⟨e', _, _, _, hf'⟩ | ⟨e', _, _, _, _⟩
      · exact absurd hc hn'
      · exact absurd hn' hn
      · exact absurd (h.time.trans hl') hlast
      · rw [e1, hf'] at hfit
        cases hfit
      · rw [e] at oS tS
        rw [e'] at oX
        rw [e, e']
        refine ⟨rfl, oS, oX, by show (roomS L s l low).time = (roomS L x l low).time; rw [room_time, room_time, h.time], Nat.le_trans h.upto tS, ?_⟩
        show collectS (roomS L s l low).K low = collectS (roomS L x l low).K low
        rw [f3, g3, h.trim]
  · have e1 : commitS L s l low = (s, 0, checkS [] l) := by unfold commitS; rw [if_pos hc]
    have e2 : commitS L x l low = (x, 0, checkS [] l) := by unfold commitS; rw [if_pos hc]
    rw [e1, e2]
    exact ⟨rfl, h⟩
theorem LikeS.collect {low : Nat} {s x : PS} (h : LikeS low s x) : LikeS low ⟨s.time, collectS s.K low⟩ x :=
  ⟨okS_collect h.okS low, h.okX, h.time, h.upto, by show collectS (collectS s.K low) low = _; rw [collect_collect h.okS.sort h.okS.rise (Nat.le_refl _), h.trim]⟩

/-! ### few are left -/
theorem few_left {st : PS} (h : OkS st) (low : Nat) {x : KeyS × List Ver} (hx : x ∈ collectS st.K low) : (x.2.filter fun v => decide (v.tm ≤ low)).length ≤ 1 ∧ (∀ v ∈ x.2, v.tm ≤ low → v.gone = false) ∧ x.2 ≠ [] := by
  obtain ⟨y, hy, e, hn⟩ := mem_collect.1 hx
  have hp := ((right_iff _ 0).1 (h.right y hy)).2
  have e2 : x.2 = trimH y.2 low := by rw [e]
  refine ⟨?_, fun v hv ht => ?_, hn⟩
  · rw [e2, trim_low]
    exact keep_few _
  · rw [e2] at hv
    have hm : v ∈ (trimH y.2 low).filter fun v => decide (v.tm ≤ low) := List.mem_filter.2 ⟨hv, by simpa using ht⟩
    rw [trim_low] at hm
    exact (keep_le v hm).2.1

/-! ### bounds -/
def roomB (n : Int) : Bool := decide (1 ≤ n) && decide (n ≤ 1048576)
def MayS (L : LimS) : Bool := roomB L.keys && roomB L.vers && roomB L.byts && decide (1 ≤ L.last)
def KeysS (K : KsS) : Prop := ∀ x ∈ K, x.1 ≠ [] ∧ x.1.length ≤ 256
theorem keys_fold (st : PS) : ∀ (l : List Wr) (K : KsS), (∀ w ∈ l, w.key ≠ [] ∧ w.key.length ≤ 256) → KeysS K → KeysS (l.foldl (withOne st) K)
  | [], _, _, h => h
  | w :: l, K, hl, h => by
    rw [List.foldl_cons]
    refine keys_fold st l _ (fun x hx => hl x (List.mem_cons_of_mem _ hx)) ?_
    unfold withOne
    split
    · intro x hx
      rcases mem_putS.1 hx with ⟨h1, _⟩ | ⟨rfl, _⟩ | ⟨h1, _⟩
      · exact h x h1
      · exact hl w (List.mem_cons_self ..)
      · exact h x h1
    · exact h
theorem keys_with {st : PS} {l : List Wr} (h : KeysS st.K) (hc : checkS [] l = 0) : KeysS (withS st l) := by
  obtain ⟨h1, _⟩ := checkS_ok hc
  exact keys_fold st l st.K (fun w hw => ⟨(fun e => by
    have := (h1 w hw).1
    rw [e, blt_self] at this
    cases this), (h1 w hw).2.1⟩) h
theorem keys_collect {K : KsS} (h : KeysS K) (low : Nat) : KeysS (collectS K low) := fun x hx => by
  obtain ⟨y, hy, e, _⟩ := mem_collect.1 hx
  rw [e]
  exact h y hy
theorem keys_room {L : LimS} {st : PS} {l : List Wr} {low : Nat} (h : KeysS st.K) : KeysS (roomS L st l low).K := by
  unfold roomS
  split
  · exact h
  · exact keys_collect h low
theorem keys_commit {st : PS} (h : KeysS st.K) (L : LimS) (l : List Wr) (low : Nat) : KeysS (commitS L st l low).1.K := by
  rcases commit_cases L st l low with ⟨e, _⟩ | ⟨e, _⟩ | ⟨e, _⟩ | ⟨e, hc, _⟩ | ⟨e, _⟩ <;> rw [e]
  · exact h
  · exact h
  · exact h
  · exact keys_with (keys_room h) hc
  · exact keys_room h
theorem keys_does {st : PS} (h : KeysS st.K) (L : LimS) (o : OpS) : KeysS (doesS L st o).1.K := by
  unfold doesS
  split
  · exact keys_commit h L _ _
  · split
    · exact keys_collect h _
    · split
      · exact h
      · split <;> exact h
theorem may_room {L : LimS} (h : MayS L = true) : (1 ≤ L.keys ∧ L.keys ≤ 1048576) ∧ (1 ≤ L.vers ∧ L.vers ≤ 1048576) ∧ (1 ≤ L.byts ∧ L.byts ≤ 1048576) ∧ 1 ≤ L.last := by
  unfold MayS roomB at h
  simp only [Bool.and_eq_true, decide_eq_true_eq] at h
  omega
theorem in_sizes {L : LimS} {st : PS} (hm : MayS L = true) (hi : InS L st) : st.K.length ≤ 1048576 ∧ versS st.K ≤ 1048576 ∧ bytsS st.K ≤ 1048576 := by
  have h := may_room hm
  have hf := hi.1
  unfold fitsS at hf
  simp only [Bool.and_eq_true, decide_eq_true_eq] at hf
  omega
theorem in_none {L : LimS} (hm : MayS L = true) : InS L ⟨0, []⟩ := by
  have h := may_room hm
  refine ⟨?_, Nat.zero_le _⟩
  unfold fitsS
  simp only [Bool.and_eq_true, decide_eq_true_eq]
  have e1 : versS [] = 0 := rfl
  have e2 : bytsS [] = 0 := rfl
  rw [e1, e2]
  simp only [List.length_nil]
  omega
theorem sum_mem {m : KeyS × List Ver → Nat} : ∀ {K : KsS} {x : KeyS × List Ver}, x ∈ K → m x ≤ (K.map m).sum
  | y :: K, x, hx => by
    rw [List.map_cons, List.sum_cons]
    rcases List.mem_cons.1 hx with rfl | hx
    · omega
    · have := sum_mem (m := m) hx
      omega
theorem chain_sizes (K : KsS) (k : KeyS) : (chainS K k).length ≤ versS K ∧ sizeH (chainS K k) ≤ bytsS K := by
  by_cases e : chainS K k = []
  · rw [e]
    exact ⟨Nat.zero_le _, Nat.zero_le _⟩
  · have hm := chainS_some e
    refine ⟨sum_mem (m := fun x => x.2.length) hm, ?_⟩
    have := sum_mem (m := fun x => x.1.length + sizeH x.2) hm
    exact Nat.le_trans (Nat.le_add_left _ _) this
theorem vers_collect {st : PS} (h : OkS st) (low : Nat) : versS (collectS st.K low) ≤ versS st.K := by
  rw [vers_sum, vers_sum]
  exact sum_le m_zero.2.1 (sort_collect h.sort low) h.sort fun k => by rw [chain_collect h.sort]; exact (m_trim k _ low).2.1
end Go.Proofs.Ytfdiidhilonkoaa
