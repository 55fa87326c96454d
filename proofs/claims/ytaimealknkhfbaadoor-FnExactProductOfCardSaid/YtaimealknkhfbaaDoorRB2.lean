
/- Plain facts on the automaton of right columns: places are states with the tapes that have ended.
   Conditions: stated at each theorem. -/
import Derived.Test.YtaimealknkhfbaaDoorRB1
namespace Go.Proofs.YtaimealknkhfbaaDoor.TidyRight
set_option linter.unusedVariables false
set_option linter.unusedSimpArgs false
open TidyMath TidyClass TidyAuto

/-- The tapes on which a column has pads, as bits. -/
def pd (k : Nat) (c : Nat) : Nat := ((List.range k).map fun t => if c / 3 ^ t % 3 = 2 then 2 ^ t else 0).foldl (· + ·) 0
/-- All tapes that have ended before have pads. -/
def fol (e p : Nat) : Bool := decide (e &&& p = e)
/-- So many columns. -/
def wide (k : Nat) : Nat := 3 ^ k - 1

/-- What is read of a relation: its number of tapes, its lists. -/
structure L where
  k : Nat
  start : Nat
  acc : List Bool
  nx : List (List Nat)

structure L.Ok (r : L) : Prop where
  k0 : 1 ≤ r.k
  k3 : r.k ≤ 3
  st : r.start < r.acc.length
  len : r.nx.length = r.acc.length
  row : ∀ s, s < r.acc.length → (r.nx.getD s []).length = wide r.k
  lt : ∀ s, s < r.acc.length → ∀ c, c < wide r.k → (r.nx.getD s []).getD c 0 < r.acc.length

def succR (r : L) (p : Nat × Nat) : List (Option (Nat × Nat)) :=
  (List.range (wide r.k)).map fun c => if fol p.2 (pd r.k c) = true then some ((r.nx.getD p.1 []).getD c 0, pd r.k c) else none

theorem wide_cases {k : Nat} (h0 : 1 ≤ k) (h3 : k ≤ 3) : wide k = 2 ∨ wide k = 8 ∨ wide k = 26 := by
  have : k = 1 ∨ k = 2 ∨ k = 3 := by omega
  rcases this with rfl | rfl | rfl
  · exact .inl rfl
  · exact .inr (.inl rfl)
  · exact .inr (.inr rfl)
theorem pd_lt8 {k c : Nat} (h3 : k ≤ 3) (hc : c < 26) : pd k c < 8 := by
  have h : ∀ k, k < 4 → ∀ c, c < 26 → pd k c < 8 := by decide
  exact h k (by omega) c hc
theorem pd_lt {k c : Nat} (h3 : k ≤ 3) (hc : c < 26) : pd k c < 2 ^ k := by
  have h : ∀ k, k < 4 → ∀ c, c < 26 → pd k c < 2 ^ k := by decide
  exact h k (by omega) c hc

theorem succR_length (r : L) (p : Nat × Nat) : (succR r p).length = wide r.k := by simp [succR]
theorem succR_get (r : L) (p : Nat × Nat) {c : Nat} (hc : c < wide r.k) : (succR r p)[c]'(by rw [succR_length]; exact hc) = if fol p.2 (pd r.k c) = true then some ((r.nx.getD p.1 []).getD c 0, pd r.k c) else none := by
  simp [succR]

def places (r : L) (i : Nat) : List (Nat × Nat) := bfs id (succR r) (r.start, 0) i
def D (r : L) (p : Nat × Nat) : Prop := p.1 < r.acc.length ∧ p.2 < 2 ^ r.k

theorem D_succ {r : L} (h : r.Ok) (x : Nat × Nat) (hx : D r x) (y : Nat × Nat) (hy : some y ∈ succR r x) : D r y := by
  unfold succR at hy
  obtain ⟨c, hc, e⟩ := List.mem_map.1 hy
  rw [List.mem_range] at hc
  split at e
  · have e' := Option.some.inj e
    subst e'
    have hw := wide_cases h.k0 h.k3
    exact ⟨h.lt x.1 hx.1 c hc, pd_lt h.k3 (by omega)⟩
  · cases e
theorem places_D {r : L} (h : r.Ok) (i : Nat) : ∀ p ∈ places r i, D r p :=
  bfs_all _ _ _ (D r) ⟨h.st, Nat.two_pow_pos _⟩ (D_succ h) i
theorem pow_le8 {k : Nat} (h3 : k ≤ 3) : 2 ^ k ≤ 8 := by
  have : k = 0 ∨ k = 1 ∨ k = 2 ∨ k = 3 := by omega
  rcases this with rfl | rfl | rfl | rfl <;> decide
theorem places_len {r : L} (h : r.Ok) (i : Nat) : (places r i).length ≤ r.acc.length * 8 := by
  have h8 := pow_le8 h.k3
  refine dist_few id (bfs_dist _ _ _ i) (fun p => p.1 * 8 + p.2) _ (fun x hx y hy e => ?_) (fun x hx => ?_)
  · have hx' := places_D h i x hx
    have hy' := places_D h i y hy
    unfold D at hx' hy'
    have e : x.1 * 8 + x.2 = y.1 * 8 + y.2 := e
    show x = y
    exact Prod.ext (by omega) (by omega)
  · have hx' := places_D h i x hx
    unfold D at hx'
    show x.1 * 8 + x.2 < _
    omega
/-- All places that are met. -/
def F (r : L) : List (Nat × Nat) := places r (r.acc.length * 8)
def num (r : L) (p : Nat × Nat) : Nat := idx id (F r) p

/-- The automaton, the state to which other columns lead being the last one. -/
def rowM (r : L) (p : Nat × Nat) : List Nat := (succR r p).map fun | some q => num r q | none => (F r).length
def accM (r : L) : List Bool := (F r).map (fun p => r.acc.getD p.1 false) ++ [false]
def nxM (r : L) : List (List Nat) := (F r).map (rowM r) ++ [List.replicate (wide r.k) (F r).length]
def auM (r : L) : Au := ⟨(F r).length + 1, fun s => (accM r).getD s false, fun s => (nxM r).getD s []⟩
/-- The same, this state being the first one. -/
def rowP (r : L) (p : Nat × Nat) : List Nat := (succR r p).map fun | some q => num r q + 1 | none => 0
def accP (r : L) : List Bool := false :: (F r).map (fun p => r.acc.getD p.1 false)
def nxP (r : L) : List (List Nat) := List.replicate (wide r.k) 0 :: (F r).map (rowP r)
def auP (r : L) : Au := ⟨(F r).length + 1, fun s => (accP r).getD s false, fun s => (nxP r).getD s []⟩

theorem F_pos (r : L) : 0 < (F r).length := bfs_pos _ _ _ _
theorem F_get0 (r : L) : (F r)[0]'(F_pos r) = (r.start, 0) := by
  have hp : places r 0 <+: F r := bfs_mono _ _ _ (Nat.zero_le _)
  exact prefix_get hp (show 0 < (places r 0).length from Nat.one_pos)
theorem num_lt {r : L} (h : r.Ok) {s : Nat} (hs : s < (F r).length) {q : Nat × Nat} (hq : some q ∈ succR r (F r)[s]) : num r q < (F r).length := by
  have hB := places_len h
  have hb := end_before id (succR r) (r.start, 0) hB hs
  have hg : (bfs id (succR r) (r.start, 0) s)[s] = (F r)[s] := (prefix_get (end_prefix id (succR r) (r.start, 0) hB s) hb).symm
  refine bfs_found id (succR r) (r.start, 0) (i := r.acc.length * 8) (j := s) (Nat.lt_of_lt_of_le hs (hB _)) hb q ?_
  rw [hg]; exact hq

def σ (r : L) (s : Nat) : Nat := if s = (F r).length then 0 else s + 1
def τ (r : L) (p : Nat) : Nat := if p = 0 then (F r).length else p - 1

theorem auM_nx {r : L} {s : Nat} (hs : s < (F r).length) : (auM r).nx s = rowM r (F r)[s] := by
  show (nxM r).getD s [] = _
  unfold nxM
  rw [List.getD_eq_getElem?_getD, List.getElem?_append_left (by rw [List.length_map]; exact hs)]
  simp [hs]
theorem auM_dead (r : L) : (auM r).nx (F r).length = List.replicate (wide r.k) (F r).length := by
  show (nxM r).getD _ [] = _
  unfold nxM
  rw [List.getD_eq_getElem?_getD, List.getElem?_append_right (by rw [List.length_map]; exact Nat.le_refl _)]
  simp
theorem auP_nx {r : L} {s : Nat} (hs : s < (F r).length) : (auP r).nx (s + 1) = rowP r (F r)[s] := by
  show (nxP r).getD (s + 1) [] = _
  unfold nxP
  simp [hs]
theorem auM_acc {r : L} {s : Nat} (hs : s < (F r).length) : (auM r).acc s = r.acc.getD (F r)[s].1 false := by
  show (accM r).getD s false = _
  unfold accM
  rw [List.getD_eq_getElem?_getD, List.getElem?_append_left (by rw [List.length_map]; exact hs)]
  simp [hs]
theorem auM_acc_dead (r : L) : (auM r).acc (F r).length = false := by
  show (accM r).getD _ false = _
  unfold accM
  rw [List.getD_eq_getElem?_getD, List.getElem?_append_right (by rw [List.length_map]; exact Nat.le_refl _)]
  simp
theorem auP_acc {r : L} {s : Nat} (hs : s < (F r).length) : (auP r).acc (s + 1) = r.acc.getD (F r)[s].1 false := by
  show (accP r).getD (s + 1) false = _
  unfold accP
  simp [hs]

theorem rowM_lt {r : L} (h : r.Ok) {s : Nat} (hs : s < (F r).length) : ∀ t ∈ rowM r (F r)[s], t < (F r).length + 1 := by
  intro t ht
  obtain ⟨o, ho, rfl⟩ := List.mem_map.1 ht
  cases o with
  | none => exact Nat.lt_succ_self _
  | some q => have := num_lt h hs ho; show num r q < _; omega
theorem rowP_of {r : L} (h : r.Ok) {s : Nat} (hs : s < (F r).length) : rowP r (F r)[s] = (rowM r (F r)[s]).map (σ r) := by
  unfold rowP rowM
  rw [List.map_map]
  refine List.map_congr_left fun o ho => ?_
  cases o with
  | none => simp [σ]
  | some q =>
    have := num_lt h hs ho
    show num r q + 1 = σ r (num r q)
    unfold σ
    rw [if_neg (by omega)]

theorem fits {r : L} (h : r.Ok) : Fits (auM r) 0 := by
  refine ⟨Nat.succ_pos _, fun s hs t ht => ?_⟩
  have hs' : s < (F r).length + 1 := hs
  by_cases hl : s < (F r).length
  · rw [auM_nx hl] at ht
    exact rowM_lt h hl t ht
  · obtain rfl : s = (F r).length := by omega
    rw [auM_dead] at ht
    have := List.eq_of_mem_replicate ht
    subst this
    exact Nat.lt_succ_self _

theorem twin {r : L} (h : r.Ok) : Twin (auM r) (auP r) (τ r) (σ r) where
  size := rfl
  fl := fun p hp => by
    have hp' : p < (F r).length + 1 := hp
    show τ r p < (F r).length + 1
    unfold τ; split <;> omega
  gl := fun s hs => by
    have hs' : s < (F r).length + 1 := hs
    show σ r s < (F r).length + 1
    unfold σ; split <;> omega
  fg := fun s hs => by
    have hs' : s < (F r).length + 1 := hs
    unfold σ τ
    by_cases e : s = (F r).length
    · rw [if_pos e, if_pos rfl, e]
    · rw [if_neg e, if_neg (by omega)]; omega
  gf := fun p hp => by
    have hp' : p < (F r).length + 1 := hp
    unfold σ τ
    by_cases e : p = 0
    · rw [if_pos e, if_pos rfl, e]
    · rw [if_neg e, if_neg (by omega)]; omega
  acc := fun p hp => by
    have hp' : p < (F r).length + 1 := hp
    unfold τ
    cases p with
    | zero => rw [if_pos rfl, auM_acc_dead]; rfl
    | succ s => rw [if_neg (by omega), Nat.add_sub_cancel, auM_acc (by omega), auP_acc (by omega)]
  nx := fun p hp => by
    have hp' : p < (F r).length + 1 := hp
    unfold τ
    cases p with
    | zero =>
      rw [if_pos rfl, auM_dead, List.map_replicate]
      show List.replicate (wide r.k) 0 = _
      unfold σ
      rw [if_pos rfl]
    | succ s => rw [if_neg (by omega), Nat.add_sub_cancel, auM_nx (by omega), auP_nx (by omega), rowP_of h]
  nl := fun s hs t ht => (fits h).2 s hs t ht

/-- The tidy relation: what both make. -/
def tidyAcc (r : L) : List Bool := tidAcc (auM r) 0
def tidyNext (r : L) : List (List Int) := tidNext (auM r) 0
theorem start_eq (r : L) : σ r 0 = 1 := by
  have := F_pos r
  unfold σ
  rw [if_neg (by omega)]
theorem tidyP {r : L} (h : r.Ok) : tid (auP r) 1 = (tid (auM r) 0).map (σ r) ∧ tidAcc (auP r) 1 = tidyAcc r ∧ tidNext (auP r) 1 = tidyNext r := by
  have t := twin h
  have h0 : 0 < (auM r).n := Nat.succ_pos _
  have a := t.tid h0
  have b := t.tidAcc h0
  have c := t.tidNext h0
  rw [start_eq] at a b c
  exact ⟨a, b, c⟩

theorem many {r : L} (h : r.Ok) : most (auM r) ≤ (tid (auM r) 0).length + 1 := by
  refine tid_many (fits h) (F r).length fun s hs hd => ?_
  have hs' : s < (F r).length + 1 := hs
  have hsl : s < (F r).length := by omega
  by_cases h0 : s = 0
  · exact .inl h0
  · right
    obtain ⟨t, y, ht, hy, e⟩ := bfs_origin id (succR r) (r.start, 0) (r.acc.length * 8) s hsl (by omega)
    have htl : t < (F r).length := by omega
    refine ⟨t, ht, by omega, ?_⟩
    rw [auM_nx htl]
    unfold rowM
    rw [List.mem_map]
    refine ⟨some y, hy, ?_⟩
    show idx id (F r) y = s
    rw [← e]
    exact idx_self id (bfs_dist _ _ _ _) hsl
end Go.Proofs.YtaimealknkhfbaaDoor.TidyRight
/- Plain facts on the numbers that classes get when their states are met.
   Conditions: stated at each theorem. -/
namespace Go.Proofs.YtaimealknkhfbaaDoor.TidyNum
set_option linter.unusedVariables false
set_option linter.unusedSimpArgs false
open TidyMath TidyClass TidyAuto

/-- Where the first thing of a class stands, or -1. -/
def fidx (κ : Nat → Nat) (l : List Nat) (q : Nat) : Nat := l.findIdx fun y => decide (κ y = q)
def numC (κ : Nat → Nat) (l : List Nat) (q : Nat) : Int := if fidx κ l q < l.length then ((fidx κ l q : Nat) : Int) else -1
theorem fidx_idx (κ : Nat → Nat) (l : List Nat) (x : Nat) : fidx κ l (κ x) = idx κ l x := rfl
theorem numC_at (κ : Nat → Nat) (l : List Nat) (x : Nat) : numC κ l (κ x) = if idx κ l x < l.length then ((idx κ l x : Nat) : Int) else -1 := rfl
theorem numC_none (κ : Nat → Nat) (q : Nat) : numC κ [] q = -1 := by simp [numC, fidx]
theorem numC_meet {κ : Nat → Nat} {l : List Nat} {x : Nat} (hn : ¬ idx κ l x < l.length) (q : Nat) : numC κ (meet κ l x) q = if q = κ x then (l.length : Int) else numC κ l q := by
  have hm : meet κ l x = l ++ [x] := by unfold meet; rw [if_neg hn]
  have hil : idx κ l x = l.length := by have := idx_le κ l x; omega
  rw [hm]
  by_cases e : q = κ x
  · rw [if_pos e, e, numC_at, idx_snoc, hil, if_pos (by simp)]
  · rw [if_neg e]
    unfold numC fidx
    rw [List.findIdx_append]
    have h1 : List.findIdx (fun y => decide (κ y = q)) [x] = 1 := by
      rw [List.findIdx_cons]
      have : decide (κ x = q) = false := decide_eq_false fun h => e h.symm
      rw [this]; rfl
    by_cases h : List.findIdx (fun y => decide (κ y = q)) l < l.length
    · rw [if_pos h, if_pos h, if_pos (by rw [List.length_append]; omega)]
    · rw [if_neg h, if_neg h, h1, if_neg (by rw [List.length_append]; simp; omega)]

variable {A : Au} {x0 : Nat}
/-- The classes in the end. -/
abbrev κ (A : Au) : Nat → Nat := cls A (stop A + 1)
def pt (A : Au) (x0 i c : Nat) : List Nat := part (κ A) (sucs A) x0 i c
theorem pt_zero (i : Nat) : pt A x0 i 0 = met A x0 i := part_zero _ _ _ i
theorem pt_end {i c : Nat} (hi : i < (met A x0 i).length) (hc : (A.nx (met A x0 i)[i]).length ≤ c) : pt A x0 i c = met A x0 (i + 1) :=
  part_all _ _ _ hi (by unfold sucs; rw [List.length_map]; exact hc)
theorem pt_step (hf : Fits A x0) {i c s t : Nat} (hi : i < (met A x0 i).length) (hs : (met A x0 i)[i] = s) (hc : c < (A.nx s).length) (ht : (A.nx s)[c] = t) :
    pt A x0 i (c + 1) = meet (κ A) (pt A x0 i c) t ∧ (tidRow A x0 s).take (c + 1) = (tidRow A x0 s).take c ++ [((idx (κ A) (pt A x0 i c) t : Nat) : Int)] := by
  subst hs
  have hl : c < (sucs A (met A x0 i)[i]).length := by unfold sucs; rw [List.length_map]; exact hc
  have hg : (sucs A (met A x0 i)[i])[c] = some t := by
    have h2 : (sucs A (met A x0 i)[i])[c]? = some (some t) := by unfold sucs; rw [List.getElem?_map, List.getElem?_eq_getElem hc, ht]; rfl
    obtain ⟨_, h3⟩ := List.getElem?_eq_some_iff.1 h2
    exact h3
  refine ⟨?_, ?_⟩
  · show part _ _ _ i (c + 1) = _
    rw [part_step _ _ _ hi hl]
    show meetO _ _ ((sucs A (met A x0 i)[i])[c]) = _
    rw [hg]; rfl
  · have h1 : c < (tidRow A x0 (met A x0 i)[i]).length := by unfold tidRow; rw [List.length_map]; exact hc
    rw [List.take_succ_eq_append_getElem h1]
    congr 2
    have h2 : (tidRow A x0 (met A x0 i)[i])[c]? = some ((idx (κ A) (tid A x0) t : Nat) : Int) := by unfold tidRow; rw [List.getElem?_map, List.getElem?_eq_getElem hc, ht]; rfl
    obtain ⟨_, h3⟩ := List.getElem?_eq_some_iff.1 h2
    rw [h3]
    have := part_num (κ A) (sucs A) x0 (met_few hf) hi hl hg
    exact congrArg Int.ofNat this.symm
theorem pt_get {i c : Nat} (hi : i < (met A x0 i).length) : ∃ h : i < (pt A x0 i c).length, (pt A x0 i c)[i] = (met A x0 i)[i] := by
  have hp := part_from (κ A) (sucs A) x0 i c
  exact ⟨Nat.lt_of_lt_of_le hi hp.length_le, prefix_get hp hi⟩
theorem pt_few (hf : Fits A x0) {i c : Nat} (hi : i < (met A x0 i).length) : (pt A x0 i c).length ≤ most A :=
  Nat.le_trans (part_prefix (κ A) (sucs A) x0 (met_few hf) hi).length_le (met_few hf _)
theorem met_get (hf : Fits A x0) {i : Nat} (hi : i < (met A x0 i).length) : ∃ h : i < (tid A x0).length, (tid A x0)[i] = (met A x0 i)[i] := by
  have hp := end_prefix (κ A) (sucs A) x0 (met_few hf) i
  exact ⟨Nat.lt_of_lt_of_le hi hp.length_le, prefix_get hp hi⟩
theorem met_end (hf : Fits A x0) {i : Nat} (hi : (met A x0 i).length ≤ i) : met A x0 i = tid A x0 := (end_len (κ A) (sucs A) x0 (met_few hf) hi).symm
theorem met_step (i : Nat) : (met A x0 i).length ≤ (met A x0 (i + 1)).length := (bfs_step _ _ _ i).length_le
end Go.Proofs.YtaimealknkhfbaaDoor.TidyNum
/- Two automata whose states take the same lists of columns step by step have the same tidy automaton.
   Conditions: stated at each theorem. -/
namespace Go.Proofs.YtaimealknkhfbaaDoor.Sim
set_option linter.unusedVariables false
set_option linter.unusedSimpArgs false
open TidyMath TidyClass TidyAuto TidyRight

/-- Two lists whose elements stand in a relation, one by one. -/
def P2 {α β : Type} (R : α → β → Prop) : List α → List β → Prop
  | [], [] => True
  | x :: l, y :: m => R x y ∧ P2 R l m
  | _, _ => False
section
variable {α β γ : Type} {R : α → β → Prop}
theorem P2.length {l : List α} {m : List β} (h : P2 R l m) : l.length = m.length := by
  induction l generalizing m with
  | nil => cases m with
    | nil => rfl
    | cons y q => exact h.elim
  | cons x r ih => cases m with
    | nil => exact h.elim
    | cons y q => rw [List.length_cons, List.length_cons, ih h.2]
theorem P2.get {l : List α} {m : List β} (h : P2 R l m) (i : Nat) (hi : i < l.length) (hj : i < m.length) : R l[i] m[i] := by
  induction l generalizing m i with
  | nil => exact absurd hi (Nat.not_lt_zero i)
  | cons x r ih => cases m with
    | nil => exact h.elim
    | cons y q =>
      cases i with
      | zero => exact h.1
      | succ i => exact ih h.2 i (by simpa using hi) (by simpa using hj)
theorem P2.snoc {l : List α} {m : List β} (h : P2 R l m) {x : α} {y : β} (hxy : R x y) : P2 R (l ++ [x]) (m ++ [y]) := by
  induction l generalizing m with
  | nil => cases m with
    | nil => exact ⟨hxy, trivial⟩
    | cons y q => exact h.elim
  | cons z r ih => cases m with
    | nil => exact h.elim
    | cons y q => exact ⟨h.1, ih h.2⟩
theorem P2.map_eq {l : List α} {m : List β} (h : P2 R l m) {f : α → γ} {g : β → γ} (hfg : ∀ x y, R x y → f x = g y) : l.map f = m.map g := by
  induction l generalizing m with
  | nil => cases m with
    | nil => rfl
    | cons y q => exact h.elim
  | cons z r ih => cases m with
    | nil => exact h.elim
    | cons y q => rw [List.map_cons, List.map_cons, hfg _ _ h.1, ih h.2]
theorem P2.mono {S : α → β → Prop} {l : List α} {m : List β} (h : P2 R l m) (hs : ∀ x y, R x y → S x y) : P2 S l m := by
  induction l generalizing m with
  | nil => cases m with
    | nil => trivial
    | cons y q => exact h.elim
  | cons z r ih => cases m with
    | nil => exact h.elim
    | cons y q => exact ⟨hs _ _ h.1, ih h.2⟩
theorem P2.of_get {l : List α} {m : List β} (hl : l.length = m.length) (h : ∀ i (hi : i < l.length) (hj : i < m.length), R l[i] m[i]) : P2 R l m := by
  induction l generalizing m with
  | nil => cases m with
    | nil => trivial
    | cons y q => simp at hl
  | cons z r ih => cases m with
    | nil => simp at hl
    | cons y q =>
      refine ⟨h 0 (by simp) (by simp), ih (by simpa using hl) fun i hi hj => ?_⟩
      exact h (i + 1) (by simpa using hi) (by simpa using hj)
theorem P2.iff {c : α → γ} {d : β → γ} {l l' : List α} {m m' : List β} (h : P2 R l m) (h' : P2 R l' m') (hc : ∀ x y x' y', R x y → R x' y' → (c x = c x' ↔ d y = d y')) : l.map c = l'.map c ↔ m.map d = m'.map d := by
  induction l generalizing m l' m' with
  | nil => cases m with
    | nil => cases l' with
      | nil => cases m' with
        | nil => exact Iff.rfl
        | cons y q => exact h'.elim
      | cons x r => cases m' with
        | nil => exact h'.elim
        | cons y q => simp
    | cons y q => exact h.elim
  | cons x r ih => cases m with
    | nil => exact h.elim
    | cons y q => cases l' with
      | nil => cases m' with
        | nil => simp
        | cons y q => exact h'.elim
      | cons x' r' => cases m' with
        | nil => exact h'.elim
        | cons y' q' =>
          rw [List.map_cons, List.map_cons, List.map_cons, List.map_cons, List.cons.injEq, List.cons.injEq, hc _ _ _ _ h.1 h'.1, ih h.2 h'.2]
end

/-- The states of two automata, step by step. -/
structure Sim (A B : Au) (R : Nat → Nat → Prop) : Prop where
  ltA : ∀ s t, R s t → s < A.n
  ltB : ∀ s t, R s t → t < B.n
  acc : ∀ s t, R s t → A.acc s = B.acc t
  nx : ∀ s t, R s t → P2 R (A.nx s) (B.nx t)
  fA : ∀ s, s < A.n → ∀ t ∈ A.nx s, t < A.n
  fB : ∀ s, s < B.n → ∀ t ∈ B.nx s, t < B.n

theorem Sim.cls {A B : Au} {R : Nat → Nat → Prop} (h : Sim A B R) (j : Nat) : ∀ s t s' t', R s t → R s' t' → (cls A j s = cls A j s' ↔ cls B j t = cls B j t') := by
  induction j with
  | zero => intro s t s' t' h1 h2; simp only [TidyAuto.cls]; rw [h.acc _ _ h1, h.acc _ _ h2]
  | succ j ih =>
    intro s t s' t' h1 h2
    rw [cls_iff A j (h.ltA _ _ h1), cls_iff B j (h.ltB _ _ h1)]
    unfold sig
    rw [Prod.mk.injEq, Prod.mk.injEq, ih _ _ _ _ h1 h2, P2.iff (h.nx _ _ h1) (h.nx _ _ h2) ih]

/-- Behind the step at which they stop the classes stay. -/
theorem cls_stay (A : Au) (hf : ∀ s, s < A.n → ∀ t ∈ A.nx s, t < A.n) (k : Nat) : ∀ s t, s < A.n → t < A.n → (cls A (stop A + k) s = cls A (stop A + k) t ↔ cls A (stop A + k + 1) s = cls A (stop A + k + 1) t) := by
  induction k with
  | zero => intro s t hs ht; exact ⟨stable A (stop_stops A) hs ht, cls_finer A _ hs⟩
  | succ k ih =>
    intro s t hs ht
    refine ⟨fun e => ?_, cls_finer A _ hs⟩
    have e1 : TidyAuto.cls A (stop A + k + 1) s = TidyAuto.cls A (stop A + k + 1) t := e
    rw [cls_iff A (stop A + (k + 1)) hs]
    have h1 := (cls_iff A (stop A + k) hs).1 e1
    refine Prod.ext e ?_
    have h2 : (A.nx s).map (TidyAuto.cls A (stop A + k)) = (A.nx t).map (TidyAuto.cls A (stop A + k)) := congrArg Prod.snd h1
    refine (map_iff fun x hx y hy => ?_).1 h2
    exact ih x y (hf s hs x hx) (hf t ht y hy)
theorem cls_end (A : Au) (hf : ∀ s, s < A.n → ∀ t ∈ A.nx s, t < A.n) (k : Nat) : ∀ s t, s < A.n → t < A.n → (cls A (stop A + 1) s = cls A (stop A + 1) t ↔ cls A (stop A + 1 + k) s = cls A (stop A + 1 + k) t) := by
  induction k with
  | zero => intro s t _ _; exact Iff.rfl
  | succ k ih =>
    intro s t hs ht
    rw [ih s t hs ht]
    have := cls_stay A hf (k + 1) s t hs ht
    have e1 : stop A + (k + 1) = stop A + 1 + k := by omega
    rw [e1] at this
    exact this
theorem Sim.key {A B : Au} {R : Nat → Nat → Prop} (h : Sim A B R) : ∀ s t s' t', R s t → R s' t' → (TidyAuto.cls A (stop A + 1) s = TidyAuto.cls A (stop A + 1) s' ↔ TidyAuto.cls B (stop B + 1) t = TidyAuto.cls B (stop B + 1) t') := by
  intro s t s' t' h1 h2
  rw [cls_end A h.fA (stop B) s s' (h.ltA _ _ h1) (h.ltA _ _ h2), cls_end B h.fB (stop A) t t' (h.ltB _ _ h1) (h.ltB _ _ h2)]
  have e : stop B + 1 + stop A = stop A + 1 + stop B := by omega
  rw [e]
  exact h.cls _ _ _ _ _ h1 h2

section
variable {α β κ κ' : Type} [DecidableEq κ] [DecidableEq κ'] {k1 : α → κ} {k2 : β → κ'} {R : α → β → Prop}
theorem P2.idx {l : List α} {m : List β} (h : P2 R l m) {x : α} {y : β} (hk : ∀ a b, R a b → (k1 a = k1 x ↔ k2 b = k2 y)) : idx k1 l x = idx k2 m y := by
  unfold TidyMath.idx
  induction l generalizing m with
  | nil => cases m with
    | nil => rfl
    | cons y q => exact h.elim
  | cons z r ih => cases m with
    | nil => exact h.elim
    | cons b q =>
      rw [List.findIdx_cons, List.findIdx_cons, ih h.2]
      have : decide (k1 z = k1 x) = decide (k2 b = k2 y) := decide_eq_decide.2 (hk _ _ h.1)
      rw [this]
theorem P2.meet {l : List α} {m : List β} (h : P2 R l m) {x : α} {y : β} (hxy : R x y) (hk : ∀ a b, R a b → (k1 a = k1 x ↔ k2 b = k2 y)) : P2 R (meet k1 l x) (meet k2 m y) := by
  unfold TidyMath.meet
  rw [h.idx hk, h.length]
  split
  · exact h
  · exact h.snoc hxy
theorem P2.row {xs : List α} {ys : List β} (hs : P2 R xs ys) (hk : ∀ a b x y, R a b → R x y → (k1 a = k1 x ↔ k2 b = k2 y)) : ∀ {l : List α} {m : List β}, P2 R l m → P2 R (row k1 l (xs.map some)) (row k2 m (ys.map some)) := by
  induction xs generalizing ys with
  | nil => cases ys with
    | nil => intro l m h; exact h
    | cons y q => exact hs.elim
  | cons x r ih => cases ys with
    | nil => exact hs.elim
    | cons y q =>
      intro l m h
      exact ih hs.2 (h.meet hs.1 fun a b hab => hk a b x y hab hs.1)
end

variable {A B : Au} {R : Nat → Nat → Prop}
theorem Sim.met (h : Sim A B R) {x0 y0 : Nat} (h0 : R x0 y0) (i : Nat) : P2 R (met A x0 i) (met B y0 i) := by
  induction i with
  | zero => exact ⟨h0, trivial⟩
  | succ i ih =>
    unfold TidyAuto.met at ih ⊢
    by_cases hi : i < (bfs (TidyAuto.cls A (stop A + 1)) (sucs A) x0 i).length
    · have hj : i < (bfs (TidyAuto.cls B (stop B + 1)) (sucs B) y0 i).length := by rw [← ih.length]; exact hi
      rw [bfs_succ _ _ _ hi, bfs_succ _ _ _ hj]
      exact P2.row (h.nx _ _ (ih.get i hi hj)) (fun a b x y h1 h2 => h.key _ _ _ _ h1 h2) ih
    · have hj : ¬ i < (bfs (TidyAuto.cls B (stop B + 1)) (sucs B) y0 i).length := by rw [← ih.length]; exact hi
      rw [bfs_stop _ _ _ (by omega), bfs_stop _ _ _ (by omega)]
      exact ih
theorem tid_at {x0 : Nat} (h : Fits A x0) {i : Nat} (hi : most A ≤ i) : met A x0 i = tid A x0 := by
  unfold tid
  exact bfs_end _ _ _ (met_few h (most A)) hi
theorem Sim.tid (h : Sim A B R) {x0 y0 : Nat} (h0 : R x0 y0) : P2 R (tid A x0) (tid B y0) := by
  rw [← tid_at ⟨h.ltA _ _ h0, h.fA⟩ (Nat.le_max_left (most A) (most B)), ← tid_at ⟨h.ltB _ _ h0, h.fB⟩ (Nat.le_max_right (most A) (most B))]
  exact h.met h0 _
theorem Sim.tidAcc (h : Sim A B R) {x0 y0 : Nat} (h0 : R x0 y0) : tidAcc A x0 = tidAcc B y0 := (h.tid h0).map_eq h.acc
theorem Sim.tidNext (h : Sim A B R) {x0 y0 : Nat} (h0 : R x0 y0) : tidNext A x0 = tidNext B y0 := by
  refine (h.tid h0).map_eq fun s t hst => ?_
  refine (h.nx _ _ hst).map_eq fun x y hxy => ?_
  rw [P2.idx (k1 := TidyAuto.cls A (stop A + 1)) (k2 := TidyAuto.cls B (stop B + 1)) (h.tid h0) fun a b hab => h.key _ _ _ _ hab hxy]

/-! Two relations that are read, by the places that are met. -/
structure Pla (l m : L) (T : Nat → Nat → Nat → Prop) : Prop where
  k : l.k = m.k
  acc : ∀ s t e, T s t e → l.acc.getD s false = m.acc.getD t false
  nx : ∀ s t e, T s t e → ∀ c, c < wide l.k → fol e (pd l.k c) = true → T ((l.nx.getD s []).getD c 0) ((m.nx.getD t []).getD c 0) (pd l.k c)

def Rel (l m : L) (T : Nat → Nat → Nat → Prop) (s t : Nat) : Prop :=
  (s = (F l).length ∧ t = (F m).length) ∨ ∃ (hs : s < (F l).length) (ht : t < (F m).length), (F l)[s].2 = (F m)[t].2 ∧ T (F l)[s].1 (F m)[t].1 (F l)[s].2
theorem num_has {l : L} (h : l.Ok) {s : Nat} (hs : s < (F l).length) {q : Nat × Nat} (hq : some q ∈ succR l (F l)[s]) : ∃ hn : num l q < (F l).length, (F l)[num l q] = q :=
  ⟨num_lt h hs hq, idx_key (key := id) (l := F l) (x := q) (num_lt h hs hq)⟩
theorem Pla.sim {l m : L} {T : Nat → Nat → Nat → Prop} (h : Pla l m T) (hl : l.Ok) (hm : m.Ok) : Sim (auM l) (auM m) (Rel l m T) where
  ltA s t hr := by
    show s < (F l).length + 1
    rcases hr with ⟨e, -⟩ | ⟨hs, -⟩ <;> omega
  ltB s t hr := by
    show t < (F m).length + 1
    rcases hr with ⟨-, e⟩ | ⟨-, ht, -⟩ <;> omega
  acc s t hr := by
    rcases hr with ⟨rfl, rfl⟩ | ⟨hs, ht, he, hT⟩
    · rw [auM_acc_dead, auM_acc_dead]
    · rw [auM_acc hs, auM_acc ht]; exact h.acc _ _ _ hT
  nx s t hr := by
    rcases hr with ⟨rfl, rfl⟩ | ⟨hs, ht, he, hT⟩
    · rw [auM_dead, auM_dead, h.k]
      refine P2.of_get (by simp) fun i hi hj => ?_
      rw [List.getElem_replicate, List.getElem_replicate]
      exact .inl ⟨rfl, rfl⟩
    · rw [auM_nx hs, auM_nx ht]
      refine P2.of_get (by unfold rowM; rw [List.length_map, List.length_map, succR_length, succR_length, h.k]) fun i hi hj => ?_
      unfold rowM at hi hj ⊢
      have hi1 : i < (succR l (F l)[s]).length := by simpa using hi
      have hj1 : i < (succR m (F m)[t]).length := by simpa using hj
      have hiw : i < wide l.k := by rw [succR_length] at hi1; exact hi1
      have hjw : i < wide m.k := by rw [succR_length] at hj1; exact hj1
      have g1 := succR_get l (F l)[s] hiw
      have g2 := succR_get m (F m)[t] hjw
      have m1 : (succR l (F l)[s])[i] ∈ succR l (F l)[s] := List.getElem_mem hi1
      have m2 : (succR m (F m)[t])[i] ∈ succR m (F m)[t] := List.getElem_mem hj1
      rw [List.getElem_map, List.getElem_map]
      rw [g1] at m1 ⊢
      rw [g2] at m2 ⊢
      rw [← he, ← h.k] at m2 ⊢
      by_cases hf : fol (F l)[s].2 (pd l.k i) = true
      · rw [if_pos hf] at m1 m2 ⊢
        rw [if_pos hf]
        obtain ⟨n1, e1⟩ := num_has hl hs m1
        obtain ⟨n2, e2⟩ := num_has hm ht m2
        refine .inr ⟨n1, n2, ?_, ?_⟩
        · show (F l)[num l _].2 = (F m)[num m _].2
          rw [e1, e2]
        · show T (F l)[num l _].1 (F m)[num m _].1 (F l)[num l _].2
          rw [e1, e2]
          exact h.nx _ _ _ hT i hiw hf
      · rw [if_neg hf, if_neg hf]
        exact .inl ⟨rfl, rfl⟩
  fA := (fits hl).2
  fB := (fits hm).2
theorem Pla.tidy {l m : L} {T : Nat → Nat → Nat → Prop} (h : Pla l m T) (hl : l.Ok) (hm : m.Ok) (h0 : T l.start m.start 0) : tidyAcc l = tidyAcc m ∧ tidyNext l = tidyNext m := by
  have hr : Rel l m T 0 0 := .inr ⟨F_pos l, F_pos m, by rw [F_get0, F_get0], by rw [F_get0, F_get0]; exact h0⟩
  exact ⟨(h.sim hl hm).tidAcc hr, (h.sim hl hm).tidNext hr⟩

/-- The same by a list of places, one by one. -/
def simB (l m : L) (T : List (Nat × Nat × Nat)) : Bool :=
  decide (l.k = m.k) && T.all fun p => (l.acc.getD p.1 false == m.acc.getD p.2.1 false) && (List.range (wide l.k)).all fun c => !fol p.2.2 (pd l.k c) || T.contains ((l.nx.getD p.1 []).getD c 0, (m.nx.getD p.2.1 []).getD c 0, pd l.k c)
theorem simB_pla {l m : L} {T : List (Nat × Nat × Nat)} (h : simB l m T = true) : Pla l m fun s t e => (s, t, e) ∈ T := by
  unfold simB at h
  rw [Bool.and_eq_true, decide_eq_true_eq, List.all_eq_true] at h
  refine ⟨h.1, fun s t e hm => ?_, fun s t e hm c hc hf => ?_⟩
  · have := h.2 _ hm
    rw [Bool.and_eq_true] at this
    exact eq_of_beq this.1
  · have := h.2 _ hm
    rw [Bool.and_eq_true, List.all_eq_true] at this
    have := this.2 c (List.mem_range.2 hc)
    have hf' : fol e (pd l.k c) = true := hf
    rw [Bool.or_eq_true] at this
    rcases this with this | this
    · have this : (!fol e (pd l.k c)) = true := this
      rw [hf'] at this; cases this
    · exact List.contains_iff_mem.1 this
theorem simB_tidy {l m : L} {T : List (Nat × Nat × Nat)} (h : simB l m T = true) (hl : l.Ok) (hm : m.Ok) (h0 : T.contains (l.start, m.start, 0) = true) : tidyAcc l = tidyAcc m ∧ tidyNext l = tidyNext m :=
  (simB_pla h).tidy hl hm (List.contains_iff_mem.1 h0)
end Go.Proofs.YtaimealknkhfbaaDoor.Sim
