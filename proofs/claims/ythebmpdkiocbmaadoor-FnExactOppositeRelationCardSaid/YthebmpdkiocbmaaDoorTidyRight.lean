
/- Plain facts on the automaton of right columns: places are states with the tapes that have ended.
   Conditions: stated at each theorem. -/
import Derived.Test.YthebmpdkiocbmaaDoorTidyAuto
namespace Go.Proofs.YthebmpdkiocbmaaDoor.TidyRight
set_option linter.unusedVariables false
set_option linter.unusedSimpArgs false
open TidyMath TidyClass TidyAuto

/-- The tapes on which a column has pads, as bits. -/
def pd (k : Nat) (c : Nat) : Nat := ((List.range k).map fun t => if c / 3 ^ t % 3 = 2 then 2 ^ t else 0).foldl (· + ·) 0
/-- All tapes that have ended before have pads. -/
def fol (e p : Nat) : Bool := decide (e &&& p = e)
/-- So many columns. -/
def wide (k : Nat) : Nat := 3 ^ k - 1

/-- What is read of a relation: its number of tapes, its lists. -/
structure L where
  k : Nat
  start : Nat
  acc : List Bool
  nx : List (List Nat)

structure L.Ok (r : L) : Prop where
  k0 : 1 ≤ r.k
  k3 : r.k ≤ 3
  st : r.start < r.acc.length
  len : r.nx.length = r.acc.length
  row : ∀ s, s < r.acc.length → (r.nx.getD s []).length = wide r.k
  lt : ∀ s, s < r.acc.length → ∀ c, c < wide r.k → (r.nx.getD s []).getD c 0 < r.acc.length

def succR (r : L) (p : Nat × Nat) : List (Option (Nat × Nat)) :=
  (List.range (wide r.k)).map fun c => if fol p.2 (pd r.k c) = true then some ((r.nx.getD p.1 []).getD c 0, pd r.k c) else none

theorem wide_cases {k : Nat} (h0 : 1 ≤ k) (h3 : k ≤ 3) : wide k = 2 ∨ wide k = 8 ∨ wide k = 26 := by
  have : k = 1 ∨ k = 2 ∨ k = 3 := by omega
  rcases this with rfl | rfl | rfl
  · exact .inl rfl
  · exact .inr (.inl rfl)
  · exact .inr (.inr rfl)
theorem pd_lt8 {k c : Nat} (h3 : k ≤ 3) (hc : c < 26) : pd k c < 8 := by
  have h : ∀ k, k < 4 → ∀ c, c < 26 → pd k c < 8 := by decide
  exact h k (by omega) c hc
theorem pd_lt {k c : Nat} (h3 : k ≤ 3) (hc : c < 26) : pd k c < 2 ^ k := by
  have h : ∀ k, k < 4 → ∀ c, c < 26 → pd k c < 2 ^ k := by decide
  exact h k (by omega) c hc

theorem succR_length (r : L) (p : Nat × Nat) : (succR r p).length = wide r.k := by simp [succR]
theorem succR_get (r : L) (p : Nat × Nat) {c : Nat} (hc : c < wide r.k) : (succR r p)[c]'(by rw [succR_length]; exact hc) = if fol p.2 (pd r.k c) = true then some ((r.nx.getD p.1 []).getD c 0, pd r.k c) else none := by
  simp [succR]

def places (r : L) (i : Nat) : List (Nat × Nat) := bfs id (succR r) (r.start, 0) i
def D (r : L) (p : Nat × Nat) : Prop := p.1 < r.acc.length ∧ p.2 < 2 ^ r.k

theorem D_succ {r : L} (h : r.Ok) (x : Nat × Nat) (hx : D r x) (y : Nat × Nat) (hy : some y ∈ succR r x) : D r y := by
  unfold succR at hy
  obtain ⟨c, hc, e⟩ := List.mem_map.1 hy
  rw [List.mem_range] at hc
  split at e
  · have e' := Option.some.inj e
    subst e'
    have hw := wide_cases h.k0 h.k3
    exact ⟨h.lt x.1 hx.1 c hc, pd_lt h.k3 (by omega)⟩
  · cases e
theorem places_D {r : L} (h : r.Ok) (i : Nat) : ∀ p ∈ places r i, D r p :=
  bfs_all _ _ _ (D r) ⟨h.st, Nat.two_pow_pos _⟩ (D_succ h) i
theorem pow_le8 {k : Nat} (h3 : k ≤ 3) : 2 ^ k ≤ 8 := by
  have : k = 0 ∨ k = 1 ∨ k = 2 ∨ k = 3 := by omega
  rcases this with rfl | rfl | rfl | rfl <;> decide
theorem places_len {r : L} (h : r.Ok) (i : Nat) : (places r i).length ≤ r.acc.length * 8 := by
  have h8 := pow_le8 h.k3
  refine dist_few id (bfs_dist _ _ _ i) (fun p => p.1 * 8 + p.2) _ (fun x hx y hy e => ?_) (fun x hx => ?_)
  · have hx' := places_D h i x hx
    have hy' := places_D h i y hy
    unfold D at hx' hy'
    have e : x.1 * 8 + x.2 = y.1 * 8 + y.2 := e
    show x = y
    exact Prod.ext (by omega) (by omega)
  · have hx' := places_D h i x hx
    unfold D at hx'
    show x.1 * 8 + x.2 < _
    omega
/-- All places that are met. -/
def F (r : L) : List (Nat × Nat) := places r (r.acc.length * 8)
def num (r : L) (p : Nat × Nat) : Nat := idx id (F r) p

/-- The automaton, the state to which other columns lead being the last one. -/
def rowM (r : L) (p : Nat × Nat) : List Nat := (succR r p).map fun | some q => num r q | none => (F r).length
def accM (r : L) : List Bool := (F r).map (fun p => r.acc.getD p.1 false) ++ [false]
def nxM (r : L) : List (List Nat) := (F r).map (rowM r) ++ [List.replicate (wide r.k) (F r).length]
def auM (r : L) : Au := ⟨(F r).length + 1, fun s => (accM r).getD s false, fun s => (nxM r).getD s []⟩
/-- The same, this state being the first one. -/
def rowP (r : L) (p : Nat × Nat) : List Nat := (succR r p).map fun | some q => num r q + 1 | none => 0
def accP (r : L) : List Bool := false :: (F r).map (fun p => r.acc.getD p.1 false)
def nxP (r : L) : List (List Nat) := List.replicate (wide r.k) 0 :: (F r).map (rowP r)
def auP (r : L) : Au := ⟨(F r).length + 1, fun s => (accP r).getD s false, fun s => (nxP r).getD s []⟩

theorem F_pos (r : L) : 0 < (F r).length := bfs_pos _ _ _ _
theorem F_get0 (r : L) : (F r)[0]'(F_pos r) = (r.start, 0) := by
  have hp : places r 0 <+: F r := bfs_mono _ _ _ (Nat.zero_le _)
  exact prefix_get hp (show 0 < (places r 0).length from Nat.one_pos)
theorem num_lt {r : L} (h : r.Ok) {s : Nat} (hs : s < (F r).length) {q : Nat × Nat} (hq : some q ∈ succR r (F r)[s]) : num r q < (F r).length := by
  have hB := places_len h
  have hb := end_before id (succR r) (r.start, 0) hB hs
  have hg : (bfs id (succR r) (r.start, 0) s)[s] = (F r)[s] := (prefix_get (end_prefix id (succR r) (r.start, 0) hB s) hb).symm
  refine bfs_found id (succR r) (r.start, 0) (i := r.acc.length * 8) (j := s) (Nat.lt_of_lt_of_le hs (hB _)) hb q ?_
  rw [hg]; exact hq

def σ (r : L) (s : Nat) : Nat := if s = (F r).length then 0 else s + 1
def τ (r : L) (p : Nat) : Nat := if p = 0 then (F r).length else p - 1

theorem auM_nx {r : L} {s : Nat} (hs : s < (F r).length) : (auM r).nx s = rowM r (F r)[s] := by
  show (nxM r).getD s [] = _
  unfold nxM
  rw [List.getD_eq_getElem?_getD, List.getElem?_append_left (by rw [List.length_map]; exact hs)]
  simp [hs]
theorem auM_dead (r : L) : (auM r).nx (F r).length = List.replicate (wide r.k) (F r).length := by
  show (nxM r).getD _ [] = _
  unfold nxM
  rw [List.getD_eq_getElem?_getD, List.getElem?_append_right (by rw [List.length_map]; exact Nat.le_refl _)]
  simp
theorem auP_nx {r : L} {s : Nat} (hs : s < (F r).length) : (auP r).nx (s + 1) = rowP r (F r)[s] := by
  show (nxP r).getD (s + 1) [] = _
  unfold nxP
  simp [hs]
theorem auM_acc {r : L} {s : Nat} (hs : s < (F r).length) : (auM r).acc s = r.acc.getD (F r)[s].1 false := by
  show (accM r).getD s false = _
  unfold accM
  rw [List.getD_eq_getElem?_getD, List.getElem?_append_left (by rw [List.length_map]; exact hs)]
  simp [hs]
theorem auM_acc_dead (r : L) : (auM r).acc (F r).length = false := by
  show (accM r).getD _ false = _
  unfold accM
  rw [List.getD_eq_getElem?_getD, List.getElem?_append_right (by rw [List.length_map]; exact Nat.le_refl _)]
  simp
theorem auP_acc {r : L} {s : Nat} (hs : s < (F r).length) : (auP r).acc (s + 1) = r.acc.getD (F r)[s].1 false := by
  show (accP r).getD (s + 1) false = _
  unfold accP
  simp [hs]

theorem rowM_lt {r : L} (h : r.Ok) {s : Nat} (hs : s < (F r).length) : ∀ t ∈ rowM r (F r)[s], t < (F r).length + 1 := by
  intro t ht
  obtain ⟨o, ho, rfl⟩ := List.mem_map.1 ht
  cases o with
  | none => exact Nat.lt_succ_self _
  | some q => have := num_lt h hs ho; show num r q < _; omega
theorem rowP_of {r : L} (h : r.Ok) {s : Nat} (hs : s < (F r).length) : rowP r (F r)[s] = (rowM r (F r)[s]).map (σ r) := by
  unfold rowP rowM
  rw [List.map_map]
  refine List.map_congr_left fun o ho => ?_
  cases o with
  | none => simp [σ]
  | some q =>
    have := num_lt h hs ho
    show num r q + 1 = σ r (num r q)
    unfold σ
    rw [if_neg (by omega)]

theorem fits {r : L} (h : r.Ok) : Fits (auM r) 0 := by
  refine ⟨Nat.succ_pos _, fun s hs t ht => ?_⟩
  have hs' : s < (F r).length + 1 := hs
  by_cases hl : s < (F r).length
  · rw [auM_nx hl] at ht
    exact rowM_lt h hl t ht
  · obtain rfl : s = (F r).length := by omega
    rw [auM_dead] at ht
    have := List.eq_of_mem_replicate ht
    subst this
    exact Nat.lt_succ_self _

theorem twin {r : L} (h : r.Ok) : Twin (auM r) (auP r) (τ r) (σ r) where
  size := rfl
  fl := fun p hp => by
    have hp' : p < (F r).length + 1 := hp
    show τ r p < (F r).length + 1
    unfold τ; split <;> omega
  gl := fun s hs => by
    have hs' : s < (F r).length + 1 := hs
    show σ r s < (F r).length + 1
    unfold σ; split <;> omega
  fg := fun s hs => by
    have hs' : s < (F r).length + 1 := hs
    unfold σ τ
    by_cases e : s = (F r).length
    · rw [if_pos e, if_pos rfl, e]
    · rw [if_neg e, if_neg (by omega)]; omega
  gf := fun p hp => by
    have hp' : p < (F r).length + 1 := hp
    unfold σ τ
    by_cases e : p = 0
    · rw [if_pos e, if_pos rfl, e]
    · rw [if_neg e, if_neg (by omega)]; omega
  acc := fun p hp => by
    have hp' : p < (F r).length + 1 := hp
    unfold τ
    cases p with
    | zero => rw [if_pos rfl, auM_acc_dead]; rfl
    | succ s => rw [if_neg (by omega), Nat.add_sub_cancel, auM_acc (by omega), auP_acc (by omega)]
  nx := fun p hp => by
    have hp' : p < (F r).length + 1 := hp
    unfold τ
    cases p with
    | zero =>
      rw [if_pos rfl, auM_dead, List.map_replicate]
      show List.replicate (wide r.k) 0 = _
      unfold σ
      rw [if_pos rfl]
    | succ s => rw [if_neg (by omega), Nat.add_sub_cancel, auM_nx (by omega), auP_nx (by omega), rowP_of h]
  nl := fun s hs t ht => (fits h).2 s hs t ht

/-- The tidy relation: what both make. -/
def tidyAcc (r : L) : List Bool := tidAcc (auM r) 0
def tidyNext (r : L) : List (List Int) := tidNext (auM r) 0
theorem start_eq (r : L) : σ r 0 = 1 := by
  have := F_pos r
  unfold σ
  rw [if_neg (by omega)]
theorem tidyP {r : L} (h : r.Ok) : tid (auP r) 1 = (tid (auM r) 0).map (σ r) ∧ tidAcc (auP r) 1 = tidyAcc r ∧ tidNext (auP r) 1 = tidyNext r := by
  have t := twin h
  have h0 : 0 < (auM r).n := Nat.succ_pos _
  have a := t.tid h0
  have b := t.tidAcc h0
  have c := t.tidNext h0
  rw [start_eq] at a b c
  exact ⟨a, b, c⟩

theorem many {r : L} (h : r.Ok) : most (auM r) ≤ (tid (auM r) 0).length + 1 := by
  refine tid_many (fits h) (F r).length fun s hs hd => ?_
  have hs' : s < (F r).length + 1 := hs
  have hsl : s < (F r).length := by omega
  by_cases h0 : s = 0
  · exact .inl h0
  · right
    obtain ⟨t, y, ht, hy, e⟩ := bfs_origin id (succR r) (r.start, 0) (r.acc.length * 8) s hsl (by omega)
    have htl : t < (F r).length := by omega
    refine ⟨t, ht, by omega, ?_⟩
    rw [auM_nx htl]
    unfold rowM
    rw [List.mem_map]
    refine ⟨some y, hy, ?_⟩
    show idx id (F r) y = s
    rw [← e]
    exact idx_self id (bfs_dist _ _ _ _) hsl
end Go.Proofs.YthebmpdkiocbmaaDoor.TidyRight
