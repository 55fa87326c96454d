
/- Plain facts on what is met from one thing on: what is found, where it comes from; and on classes of states, counted and refined.
   Conditions: stated at each theorem. -/
import Derived.Test.YthebmpdkiocbmaaDoorTidyMath
namespace Go.Proofs.YthebmpdkiocbmaaDoor.TidyClass
set_option linter.unusedVariables false
set_option linter.unusedSimpArgs false
open TidyMath

theorem prefix_get {α : Type} {l m : List α} (h : l <+: m) {i : Nat} (hi : i < l.length) : m[i]'(Nat.lt_of_lt_of_le hi h.length_le) = l[i] := by
  obtain ⟨t, rfl⟩ := h
  exact List.getElem_append_left hi

section Bfs
variable {α κ : Type} [DecidableEq κ] (key : α → κ) (succ : α → List (Option α)) (x0 : α)

theorem bfs_found {i j : Nat} (hj : j < i) (h : j < (bfs key succ x0 j).length) (y : α) (hy : some y ∈ succ (bfs key succ x0 j)[j]) :
    idx key (bfs key succ x0 i) y < (bfs key succ x0 i).length := by
  have h1 : idx key (bfs key succ x0 (j + 1)) y < (bfs key succ x0 (j + 1)).length := by
    rw [bfs_succ key succ x0 h]; exact row_has key _ _ y hy
  exact idx_lt_prefix key (bfs_mono key succ x0 hj) h1

theorem bfs_origin (i : Nat) : ∀ j (hj : j < (bfs key succ x0 i).length), 0 < j → ∃ k y, ∃ hk : k < j, some y ∈ succ ((bfs key succ x0 i)[k]'(Nat.lt_trans hk hj)) ∧ (bfs key succ x0 i)[j] = y := by
  induction i with
  | zero => intro j hj h0; simp [bfs] at hj; omega
  | succ i ih =>
    intro j hj h0
    have hp := bfs_step key succ x0 i
    by_cases hlt : j < (bfs key succ x0 i).length
    · obtain ⟨k, y, hk, hy, e⟩ := ih j hlt h0
      refine ⟨k, y, hk, ?_, ?_⟩
      · rw [prefix_get hp (Nat.lt_trans hk hlt)]; exact hy
      · rw [prefix_get hp hlt]; exact e
    · by_cases h : i < (bfs key succ x0 i).length
      · have hm : (bfs key succ x0 (i + 1))[j] ∈ (bfs key succ x0 (i + 1)).drop (bfs key succ x0 i).length := by
          rw [List.mem_iff_getElem]
          exact ⟨j - (bfs key succ x0 i).length, by rw [List.length_drop]; omega, by rw [List.getElem_drop]; congr 1; omega⟩
        have hd := bfs_dist key succ x0 (i + 1)
        have hr : (bfs key succ x0 (i + 1))[j] ∈ bfs key succ x0 i ∨ some (bfs key succ x0 (i + 1))[j] ∈ succ (bfs key succ x0 i)[i] := by
          apply row_mem key
          rw [← bfs_succ key succ x0 h]
          exact List.getElem_mem hj
        rcases hr with hr | hr
        · obtain ⟨k, hk, e⟩ := List.getElem_of_mem hr
          have := hd k j (Nat.lt_of_lt_of_le hk hp.length_le) hj (by rw [prefix_get hp hk, e])
          omega
        · exact ⟨i, _, by omega, by rw [prefix_get hp h]; exact hr, rfl⟩
      · exfalso
        apply hlt
        have := bfs_stop key succ x0 (i := i) (by omega)
        rw [this] at hj
        exact hj

/-- The end of all that is met, if there are at most M things. -/
theorem end_len {M : Nat} (hB : ∀ i, (bfs key succ x0 i).length ≤ M) {i : Nat} (h : (bfs key succ x0 i).length ≤ i) : bfs key succ x0 M = bfs key succ x0 i := by
  by_cases hi : i ≤ M
  · exact bfs_end key succ x0 h hi
  · exact (bfs_end key succ x0 (hB M) (by omega)).symm
theorem end_prefix {M : Nat} (hB : ∀ i, (bfs key succ x0 i).length ≤ M) (i : Nat) : bfs key succ x0 i <+: bfs key succ x0 M := by
  by_cases hi : i ≤ M
  · exact bfs_mono key succ x0 hi
  · rw [bfs_end key succ x0 (hB M) (show M ≤ i by omega)]; exact List.prefix_refl _
theorem end_before {M : Nat} (hB : ∀ i, (bfs key succ x0 i).length ≤ M) {i : Nat} (h : i < (bfs key succ x0 M).length) : i < (bfs key succ x0 i).length := by
  apply Decidable.byContradiction
  intro hn
  rw [end_len key succ x0 hB (show (bfs key succ x0 i).length ≤ i by omega)] at h
  exact hn h
/-- The list in the middle of a row. -/
def part (i c : Nat) : List α := match (bfs key succ x0 i)[i]? with
  | some x => row key (bfs key succ x0 i) ((succ x).take c)
  | none => bfs key succ x0 i
theorem part_zero (i : Nat) : part key succ x0 i 0 = bfs key succ x0 i := by
  unfold part; split <;> rfl
theorem part_eq {i c : Nat} (h : i < (bfs key succ x0 i).length) : part key succ x0 i c = row key (bfs key succ x0 i) ((succ (bfs key succ x0 i)[i]).take c) := by
  unfold part; rw [List.getElem?_eq_getElem h]
theorem part_all {i c : Nat} (h : i < (bfs key succ x0 i).length) (hc : (succ (bfs key succ x0 i)[i]).length ≤ c) : part key succ x0 i c = bfs key succ x0 (i + 1) := by
  rw [part_eq key succ x0 h, List.take_of_length_le hc, bfs_succ key succ x0 h]
theorem part_step {i c : Nat} (h : i < (bfs key succ x0 i).length) (hc : c < (succ (bfs key succ x0 i)[i]).length) : part key succ x0 i (c + 1) = meetO key (part key succ x0 i c) (succ (bfs key succ x0 i)[i])[c] := by
  rw [part_eq key succ x0 h, part_eq key succ x0 h, row_take key _ _ c hc]
theorem part_prefix {M : Nat} (hB : ∀ i, (bfs key succ x0 i).length ≤ M) {i c : Nat} (h : i < (bfs key succ x0 i).length) : part key succ x0 i c <+: bfs key succ x0 M := by
  have h1 : part key succ x0 i c <+: bfs key succ x0 (i + 1) := by
    rw [← part_all key succ x0 h (c := max c (succ (bfs key succ x0 i)[i]).length) (Nat.le_max_right _ _), part_eq key succ x0 h, part_eq key succ x0 h]
    exact row_take_prefix key _ _ (Nat.le_max_left _ _)
  exact h1.trans (end_prefix key succ x0 hB (i + 1))
theorem part_from (i c : Nat) : bfs key succ x0 i <+: part key succ x0 i c := by
  unfold part
  split
  · exact row_prefix key _ _
  · exact List.prefix_refl _
/-- The number that a thing gets when it is met is its number in the end. -/
theorem part_num {M : Nat} (hB : ∀ i, (bfs key succ x0 i).length ≤ M) {i c : Nat} (h : i < (bfs key succ x0 i).length) (hc : c < (succ (bfs key succ x0 i)[i]).length) {y : α} (hy : (succ (bfs key succ x0 i)[i])[c] = some y) :
    idx key (part key succ x0 i c) y = idx key (bfs key succ x0 M) y := by
  have h1 : part key succ x0 i (c + 1) = meet key (part key succ x0 i c) y := by rw [part_step key succ x0 h hc, hy]; rfl
  have h2 := part_prefix key succ x0 hB (i := i) (c := c + 1) h
  rw [idx_prefix key h2 (by rw [h1]; exact meet_lt key _ y), h1, idx_meet]
end Bfs

/-! CLASSES: states are numbers below n; a key tells which are alike. -/
section Reps
variable {κ : Type} [DecidableEq κ] (key : Nat → κ)
def reps (n : Nat) : List Nat := (List.range n).foldl (meet key) []
theorem reps_succ (n : Nat) : reps key (n + 1) = meet key (reps key n) n := by
  unfold reps; rw [List.range_succ, List.foldl_append]; rfl
theorem reps_dist (n : Nat) : Dist key (reps key n) := by
  induction n with
  | zero => exact dist_nil key
  | succ n ih => rw [reps_succ]; exact dist_meet key ih n
theorem reps_lt (n : Nat) : ∀ x ∈ reps key n, x < n := by
  induction n with
  | zero => intro x hx; cases hx
  | succ n ih =>
    intro x hx
    rw [reps_succ] at hx
    unfold meet at hx
    by_cases h : idx key (reps key n) n < (reps key n).length
    · rw [if_pos h] at hx; have := ih x hx; omega
    · rw [if_neg h] at hx
      rcases List.mem_append.1 hx with hx | hx
      · have := ih x hx; omega
      · rw [List.mem_singleton] at hx; omega
theorem reps_step (n : Nat) : reps key n <+: reps key (n + 1) := by rw [reps_succ]; exact meet_prefix key _ _
theorem reps_mono {m n : Nat} (h : m ≤ n) : reps key m <+: reps key n := by
  obtain ⟨k, rfl⟩ : ∃ k, n = m + k := ⟨n - m, by omega⟩
  clear h
  induction k with
  | zero => exact List.prefix_refl _
  | succ k ih => exact ih.trans (reps_step key (m + k))
theorem reps_has {n s : Nat} (h : s < n) : idx key (reps key n) s < (reps key n).length := by
  refine idx_lt_prefix key (reps_mono key (show s + 1 ≤ n from h)) ?_
  rw [reps_succ]; exact meet_lt key _ s
/-- The number that a state gets when it is looked at is its number in the end. -/
theorem reps_num {n s : Nat} (h : s < n) : idx key (reps key s) s = idx key (reps key n) s := by
  have h1 : idx key (reps key (s + 1)) s < (reps key (s + 1)).length := by rw [reps_succ]; exact meet_lt key _ s
  rw [idx_prefix key (reps_mono key (show s + 1 ≤ n from h)) h1, reps_succ, idx_meet]
theorem reps_le (n : Nat) : (reps key n).length ≤ n :=
  dist_few key (reps_dist key n) id n (fun x _ y _ e => by rw [show x = y from e]) (reps_lt key n)
theorem reps_pos {n : Nat} (h : 0 < n) : 0 < (reps key n).length := Nat.lt_of_le_of_lt (Nat.zero_le _) (reps_has key h)
theorem num_iff {n s t : Nat} (hs : s < n) : idx key (reps key n) s = idx key (reps key n) t ↔ key s = key t :=
  ⟨fun h => key_of_idx key (reps_has key hs) h, fun h => idx_congr key h⟩
end Reps

theorem reps_le_of {κ κ' : Type} [DecidableEq κ] [DecidableEq κ'] (k1 : Nat → κ) (k2 : Nat → κ') (n1 n2 : Nat) (f : Nat → Nat) (hf : ∀ p, p < n2 → f p < n1)
    (h : ∀ p q, p < n2 → q < n2 → k1 (f p) = k1 (f q) → k2 p = k2 q) : (reps k2 n2).length ≤ (reps k1 n1).length := by
  refine dist_few k2 (reps_dist k2 n2) (fun p => idx k1 (reps k1 n1) (f p)) _ (fun x hx y hy e => ?_) (fun x hx => reps_has k1 (hf x (reps_lt k2 n2 x hx)))
  have hx' := reps_lt k2 n2 x hx
  have hy' := reps_lt k2 n2 y hy
  exact h x y hx' hy' ((num_iff k1 (hf x hx')).1 e)

/-- As many finer classes as classes: they are the same. -/
theorem same_classes {κ κ' : Type} [DecidableEq κ] [DecidableEq κ'] (k1 : Nat → κ) (k2 : Nat → κ') (n : Nat) (hfine : ∀ p q, p < n → q < n → k2 p = k2 q → k1 p = k1 q)
    (hcount : (reps k2 n).length = (reps k1 n).length) {p q : Nat} (hp : p < n) (hq : q < n) (h : k1 p = k1 q) : k2 p = k2 q := by
  apply Decidable.byContradiction
  intro hne
  have hi := reps_has k1 hp
  obtain ⟨r, hr⟩ : ∃ r, r = (reps k1 n)[idx k1 (reps k1 n) p] := ⟨_, rfl⟩
  have hrm : r ∈ reps k1 n := hr ▸ List.getElem_mem hi
  have hrk : k1 r = k1 p := hr ▸ idx_key k1 hi
  have hrn := reps_lt k1 n r hrm
  obtain ⟨x, hxn, hx1, hx2⟩ : ∃ x, x < n ∧ k1 x = k1 r ∧ k2 x ≠ k2 r := by
    by_cases e : k2 p = k2 r
    · exact ⟨q, hq, by rw [hrk, h], fun e' => hne (e.trans e'.symm)⟩
    · exact ⟨p, hp, hrk.symm, e⟩
  have h1 : ((reps k1 n).map fun s => idx k2 (reps k2 n) s).Nodup :=
    nodup_map k1 (reps_dist k1 n) _ (fun a ha b hb e => hfine a b (reps_lt k1 n a ha) (reps_lt k1 n b hb) ((num_iff k2 (reps_lt k1 n a ha)).1 e))
  have h2 : idx k2 (reps k2 n) x ∉ (reps k1 n).map fun s => idx k2 (reps k2 n) s := by
    intro hm
    obtain ⟨s, hs, e⟩ := List.mem_map.1 hm
    have hsn := reps_lt k1 n s hs
    have e2 : k2 s = k2 x := (num_iff k2 hsn).1 e
    have e1 : k1 s = k1 r := (hfine s x hsn hxn e2).trans hx1
    obtain ⟨a, ha, rfl⟩ := List.getElem_of_mem hs
    obtain ⟨b, hb, rfl⟩ := List.getElem_of_mem hrm
    obtain rfl := reps_dist k1 n a b ha hb e1
    exact hx2 e2.symm
  have h3 := few (reps k2 n).length (idx k2 (reps k2 n) x :: (reps k1 n).map fun s => idx k2 (reps k2 n) s) (List.nodup_cons.2 ⟨h2, h1⟩) (by
    intro y hy
    rcases List.mem_cons.1 hy with rfl | hy
    · exact reps_has k2 hxn
    · obtain ⟨s, hs, rfl⟩ := List.mem_map.1 hy
      exact reps_has k2 (reps_lt k1 n s hs))
  rw [List.length_cons, List.length_map, hcount] at h3
  omega
end Go.Proofs.YthebmpdkiocbmaaDoor.TidyClass
