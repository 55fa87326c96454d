
/- Plain facts on lists of things that are met one behind the other, each with a key, and on the classes of keys.
   Conditions: stated at each theorem. -/

namespace Go.Proofs.Ytaebeglcoghehaa.TidyMath
set_option linter.unusedVariables false
set_option linter.unusedSimpArgs false

section Plain
variable {α κ : Type} (key : α → κ)
/-- No two things have the same key. -/
def Dist (l : List α) : Prop := ∀ i j (hi : i < l.length) (hj : j < l.length), key l[i] = key l[j] → i = j

theorem dist_nil : Dist key ([] : List α) := fun i j hi => absurd hi (Nat.not_lt_zero i)

theorem dist_one (x : α) : Dist key [x] := fun i j hi hj _ => by simp at hi hj; omega

theorem nodup_map {l : List α} (h : Dist key l) (f : α → Nat) (hf : ∀ x ∈ l, ∀ y ∈ l, f x = f y → key x = key y) : (l.map f).Nodup := by
  rw [List.nodup_iff_pairwise_ne, List.pairwise_iff_getElem]
  intro i j hi hj hij e
  rw [List.length_map] at hi hj
  simp only [List.getElem_map] at e
  have := h i j hi hj (hf _ (List.getElem_mem hi) _ (List.getElem_mem hj) e)
  omega

/-- Different numbers below n are at most n. -/
theorem few : ∀ (n : Nat) (l : List Nat), l.Nodup → (∀ x ∈ l, x < n) → l.length ≤ n
  | 0, l, _, h => by
    cases l with
    | nil => exact Nat.le_refl _
    | cons a t => exact absurd (h a (List.mem_cons_self)) (Nat.not_lt_zero a)
  | n + 1, l, hd, h => by
    have h1 : (l.erase n).Nodup := hd.erase n
    have h2 : ∀ x ∈ l.erase n, x < n := by
      intro x hx
      have hx' := (List.Nodup.mem_erase_iff hd).1 hx
      have := h x hx'.2
      have := hx'.1
      omega
    have h3 := few n _ h1 h2
    by_cases hm : n ∈ l
    · rw [List.length_erase_of_mem hm] at h3; omega
    · rw [List.erase_of_not_mem hm] at h3; omega

theorem dist_few {l : List α} (h : Dist key l) (f : α → Nat) (n : Nat) (hf : ∀ x ∈ l, ∀ y ∈ l, f x = f y → key x = key y) (hb : ∀ x ∈ l, f x < n) : l.length ≤ n := by
  have := few n (l.map f) (nodup_map key h f hf) (by intro x hx; obtain ⟨y, hy, rfl⟩ := List.mem_map.1 hx; exact hb y hy)
  rwa [List.length_map] at this
end Plain

section Meet
variable {α κ : Type} [DecidableEq κ] (key : α → κ)

/-- Where a thing with the key of x stands first; the length, if there is none. -/
def idx (l : List α) (x : α) : Nat := l.findIdx fun y => decide (key y = key x)
def meet (l : List α) (x : α) : List α := if idx key l x < l.length then l else l ++ [x]

theorem idx_le (l : List α) (x : α) : idx key l x ≤ l.length := List.findIdx_le_length

theorem idx_append {l m : List α} {x : α} (h : idx key l x < l.length) : idx key (l ++ m) x = idx key l x := by
  unfold idx at h ⊢
  rw [List.findIdx_append, if_pos h]

theorem idx_snoc (l : List α) (x : α) : idx key (l ++ [x]) x = idx key l x := by
  by_cases h : idx key l x < l.length
  · exact idx_append key h
  · have e : idx key l x = l.length := by have := idx_le key l x; omega
    unfold idx at h e ⊢
    rw [List.findIdx_append, if_neg h, e]
    simp [List.findIdx_cons]

theorem idx_meet (l : List α) (x : α) : idx key (meet key l x) x = idx key l x := by
  unfold meet
  by_cases h : idx key l x < l.length
  · rw [if_pos h]
  · rw [if_neg h]; exact idx_snoc key l x

theorem meet_lt (l : List α) (x : α) : idx key (meet key l x) x < (meet key l x).length := by
  rw [idx_meet]
  unfold meet
  by_cases h : idx key l x < l.length
  · rw [if_pos h]; exact h
  · rw [if_neg h]; have := idx_le key l x; rw [List.length_append]; simp; omega

theorem meet_prefix (l : List α) (x : α) : l <+: meet key l x := by
  unfold meet
  by_cases h : idx key l x < l.length
  · rw [if_pos h]; exact List.prefix_refl l
  · rw [if_neg h]; exact List.prefix_append l [x]

theorem idx_prefix {l m : List α} {x : α} (hp : l <+: m) (h : idx key l x < l.length) : idx key m x = idx key l x := by
  obtain ⟨t, rfl⟩ := hp
  exact idx_append key h

theorem idx_lt_prefix {l m : List α} {x : α} (hp : l <+: m) (h : idx key l x < l.length) : idx key m x < m.length := by
  rw [idx_prefix key hp h]; exact Nat.lt_of_lt_of_le h hp.length_le

theorem idx_key {l : List α} {x : α} (h : idx key l x < l.length) : key (l[idx key l x]) = key x := by
  have := List.findIdx_getElem (p := fun y => decide (key y = key x)) (xs := l) (w := h)
  exact of_decide_eq_true this

theorem idx_congr {l : List α} {x y : α} (h : key x = key y) : idx key l x = idx key l y := by
  unfold idx; rw [h]

/-- Things with the same place have the same key. -/
theorem key_of_idx {l : List α} {x y : α} (hx : idx key l x < l.length) (h : idx key l x = idx key l y) : key x = key y := by
  have h1 := idx_key key hx
  have h2 := idx_key key (l := l) (x := y) (h ▸ hx)
  rw [← h1, ← h2]
  congr 1
  exact getElem_congr_idx h

theorem idx_none {l : List α} {x : α} (h : ¬ idx key l x < l.length) {i : Nat} (hi : i < l.length) : key l[i] ≠ key x := by
  intro e
  have h1 : idx key l x = l.length := by have := idx_le key l x; omega
  have := List.findIdx_eq_length.1 h1 l[i] (List.getElem_mem hi)
  simp at this
  exact this e

theorem dist_meet {l : List α} (h : Dist key l) (x : α) : Dist key (meet key l x) := by
  unfold meet
  by_cases hx : idx key l x < l.length
  · rw [if_pos hx]; exact h
  · rw [if_neg hx]
    intro i j hi hj e
    rw [List.length_append] at hi hj
    simp at hi hj
    by_cases h1 : i < l.length
    · by_cases h2 : j < l.length
      · rw [List.getElem_append_left h1, List.getElem_append_left h2] at e
        exact h i j h1 h2 e
      · rw [List.getElem_append_left h1, List.getElem_append_right (by omega)] at e
        simp at e
        exact absurd e (idx_none key hx h1)
    · by_cases h2 : j < l.length
      · rw [List.getElem_append_right (by omega), List.getElem_append_left h2] at e
        simp at e
        exact absurd e.symm (idx_none key hx h2)
      · omega

theorem idx_self {l : List α} (h : Dist key l) {i : Nat} (hi : i < l.length) : idx key l l[i] = i := by
  have h1 : idx key l l[i] < l.length := by
    apply Decidable.byContradiction
    intro hn
    exact idx_none key hn hi rfl
  exact h _ _ h1 hi (idx_key key h1)

theorem idx_lt_of_mem {l : List α} {x y : α} (hy : y ∈ l) (e : key y = key x) : idx key l x < l.length := by
  apply Decidable.byContradiction
  intro hn
  obtain ⟨i, hi, rfl⟩ := List.getElem_of_mem hy
  exact idx_none key hn hi e

/-! A row of things that are met, some of which are none. -/
def meetO (l : List α) : Option α → List α
  | none => l
  | some x => meet key l x
def row (l : List α) (xs : List (Option α)) : List α := xs.foldl (meetO key) l

theorem meetO_prefix (l : List α) (x : Option α) : l <+: meetO key l x := by
  cases x with
  | none => exact List.prefix_refl l
  | some x => exact meet_prefix key l x
theorem dist_meetO {l : List α} (h : Dist key l) (x : Option α) : Dist key (meetO key l x) := by
  cases x with
  | none => exact h
  | some x => exact dist_meet key h x
theorem row_prefix (xs : List (Option α)) : ∀ l : List α, l <+: row key l xs := by
  induction xs with
  | nil => exact fun l => List.prefix_refl l
  | cons x r ih => exact fun l => (meetO_prefix key l x).trans (ih _)
theorem dist_row (xs : List (Option α)) : ∀ {l : List α}, Dist key l → Dist key (row key l xs) := by
  induction xs with
  | nil => exact fun h => h
  | cons x r ih => exact fun h => ih (dist_meetO key h x)
theorem row_take (l : List α) (xs : List (Option α)) (c : Nat) (hc : c < xs.length) : row key l (xs.take (c + 1)) = meetO key (row key l (xs.take c)) xs[c] := by
  unfold row
  rw [List.take_succ_eq_append_getElem hc, List.foldl_append]; rfl
theorem row_take_prefix (l : List α) (xs : List (Option α)) {c d : Nat} (h : c ≤ d) : row key l (xs.take c) <+: row key l (xs.take d) := by
  have : xs.take d = xs.take c ++ (xs.drop c).take (d - c) := by
    rw [← List.take_append_drop c (xs.take d), List.take_take, Nat.min_eq_left h, List.drop_take]
  rw [this]
  unfold row
  rw [List.foldl_append]
  exact row_prefix key _ _
theorem row_mem (xs : List (Option α)) : ∀ (l : List α) (y : α), y ∈ row key l xs → y ∈ l ∨ some y ∈ xs := by
  induction xs with
  | nil => exact fun l y h => .inl h
  | cons x r ih =>
    intro l y h
    rcases ih _ y h with h | h
    · cases x with
      | none => exact .inl h
      | some x =>
        have h : y ∈ meet key l x := h
        unfold meet at h
        by_cases hx : idx key l x < l.length
        · rw [if_pos hx] at h; exact .inl h
        · rw [if_neg hx] at h
          rcases List.mem_append.1 h with h | h
          · exact .inl h
          · rw [List.mem_singleton] at h; subst h; exact .inr (List.mem_cons_self)
    · exact .inr (List.mem_cons_of_mem _ h)
theorem row_has (xs : List (Option α)) : ∀ (l : List α) (x : α), some x ∈ xs → idx key (row key l xs) x < (row key l xs).length := by
  induction xs with
  | nil => exact fun l x h => by cases h
  | cons y r ih =>
    intro l x h
    rcases List.mem_cons.1 h with h | h
    · subst h
      exact idx_lt_prefix key (row_prefix key r _) (meet_lt key l x)
    · exact ih _ x h

/-! All that is met from one thing on. -/
variable (succ : α → List (Option α)) (x0 : α)
def bfs : Nat → List α
  | 0 => [x0]
  | i + 1 => match (bfs i)[i]? with
    | some x => row key (bfs i) (succ x)
    | none => bfs i

theorem bfs_succ {i : Nat} (h : i < (bfs key succ x0 i).length) : bfs key succ x0 (i + 1) = row key (bfs key succ x0 i) (succ (bfs key succ x0 i)[i]) := by
  rw [bfs, List.getElem?_eq_getElem h]
theorem bfs_stop {i : Nat} (h : (bfs key succ x0 i).length ≤ i) : bfs key succ x0 (i + 1) = bfs key succ x0 i := by
  rw [bfs, List.getElem?_eq_none h]
theorem bfs_step (i : Nat) : bfs key succ x0 i <+: bfs key succ x0 (i + 1) := by
  by_cases h : i < (bfs key succ x0 i).length
  · rw [bfs_succ key succ x0 h]; exact row_prefix key _ _
  · rw [bfs_stop key succ x0 (by omega)]; exact List.prefix_refl _
theorem bfs_prefix (i k : Nat) : bfs key succ x0 i <+: bfs key succ x0 (i + k) := by
  induction k with
  | zero => exact List.prefix_refl _
  | succ k ih => exact ih.trans (bfs_step key succ x0 (i + k))
theorem bfs_mono {i j : Nat} (h : i ≤ j) : bfs key succ x0 i <+: bfs key succ x0 j := by
  have := bfs_prefix key succ x0 i (j - i)
  rwa [Nat.add_sub_cancel' h] at this
theorem bfs_stay {i : Nat} (h : (bfs key succ x0 i).length ≤ i) : ∀ k, bfs key succ x0 (i + k) = bfs key succ x0 i := by
  intro k
  induction k with
  | zero => rfl
  | succ k ih => rw [← Nat.add_assoc, bfs_stop key succ x0 (by rw [ih]; omega), ih]
theorem bfs_end {i j : Nat} (h : (bfs key succ x0 i).length ≤ i) (hj : i ≤ j) : bfs key succ x0 j = bfs key succ x0 i := by
  have := bfs_stay key succ x0 h (j - i)
  rwa [Nat.add_sub_cancel' hj] at this
theorem bfs_dist (i : Nat) : Dist key (bfs key succ x0 i) := by
  induction i with
  | zero => exact dist_one key x0
  | succ i ih =>
    by_cases h : i < (bfs key succ x0 i).length
    · rw [bfs_succ key succ x0 h]; exact dist_row key _ ih
    · rw [bfs_stop key succ x0 (by omega)]; exact ih
theorem bfs_pos (i : Nat) : 0 < (bfs key succ x0 i).length := by
  have := (bfs_mono key succ x0 (Nat.zero_le i)).length_le
  exact Nat.lt_of_lt_of_le Nat.one_pos this
theorem bfs_all (D : α → Prop) (h0 : D x0) (hs : ∀ x, D x → ∀ y, some y ∈ succ x → D y) (i : Nat) : ∀ x ∈ bfs key succ x0 i, D x := by
  induction i with
  | zero => intro x hx; rw [bfs, List.mem_singleton] at hx; exact hx ▸ h0
  | succ i ih =>
    intro x hx
    by_cases h : i < (bfs key succ x0 i).length
    · rw [bfs_succ key succ x0 h] at hx
      rcases row_mem key _ _ _ hx with hx | hx
      · exact ih x hx
      · exact hs _ (ih _ (List.getElem_mem h)) x hx
    · rw [bfs_stop key succ x0 (by omega)] at hx; exact ih x hx
end Meet
end Go.Proofs.Ytaebeglcoghehaa.TidyMath
/- Plain facts on what is met from one thing on: what is found, where it comes from; and on classes of states, counted and refined.
   Conditions: stated at each theorem. -/
namespace Go.Proofs.Ytaebeglcoghehaa.TidyClass
set_option linter.unusedVariables false
set_option linter.unusedSimpArgs false
open TidyMath

theorem prefix_get {α : Type} {l m : List α} (h : l <+: m) {i : Nat} (hi : i < l.length) : m[i]'(Nat.lt_of_lt_of_le hi h.length_le) = l[i] := by
  obtain ⟨t, rfl⟩ := h
  exact List.getElem_append_left hi

section Bfs
variable {α κ : Type} [DecidableEq κ] (key : α → κ) (succ : α → List (Option α)) (x0 : α)

theorem bfs_found {i j : Nat} (hj : j < i) (h : j < (bfs key succ x0 j).length) (y : α) (hy : some y ∈ succ (bfs key succ x0 j)[j]) :
    idx key (bfs key succ x0 i) y < (bfs key succ x0 i).length := by
  have h1 : idx key (bfs key succ x0 (j + 1)) y < (bfs key succ x0 (j + 1)).length := by
    rw [bfs_succ key succ x0 h]; exact row_has key _ _ y hy
  exact idx_lt_prefix key (bfs_mono key succ x0 hj) h1

theorem bfs_origin (i : Nat) : ∀ j (hj : j < (bfs key succ x0 i).length), 0 < j → ∃ k y, ∃ hk : k < j, some y ∈ succ ((bfs key succ x0 i)[k]'(Nat.lt_trans hk hj)) ∧ (bfs key succ x0 i)[j] = y := by
  induction i with
  | zero => intro j hj h0; simp [bfs] at hj; omega
  | succ i ih =>
    intro j hj h0
    have hp := bfs_step key succ x0 i
    by_cases hlt : j < (bfs key succ x0 i).length
    · obtain ⟨k, y, hk, hy, e⟩ := ih j hlt h0
      refine ⟨k, y, hk, ?_, ?_⟩
      · rw [prefix_get hp (Nat.lt_trans hk hlt)]; exact hy
      · rw [prefix_get hp hlt]; exact e
    · by_cases h : i < (bfs key succ x0 i).length
      · have hm : (bfs key succ x0 (i + 1))[j] ∈ (bfs key succ x0 (i + 1)).drop (bfs key succ x0 i).length := by
          rw [List.mem_iff_getElem]
          exact ⟨j - (bfs key succ x0 i).length, by rw [List.length_drop]; omega, by rw [List.getElem_drop]; congr 1; omega⟩
        have hd := bfs_dist key succ x0 (i + 1)
        have hr : (bfs key succ x0 (i + 1))[j] ∈ bfs key succ x0 i ∨ some (bfs key succ x0 (i + 1))[j] ∈ succ (bfs key succ x0 i)[i] := by
          apply row_mem key
          rw [← bfs_succ key succ x0 h]
          exact List.getElem_mem hj
        rcases hr with hr | hr
        · obtain ⟨k, hk, e⟩ := List.getElem_of_mem hr
          have := hd k j (Nat.lt_of_lt_of_le hk hp.length_le) hj (by rw [prefix_get hp hk, e])
          omega
        · exact ⟨i, _, by omega, by rw [prefix_get hp h]; exact hr, rfl⟩
      · exfalso
        apply hlt
        have := bfs_stop key succ x0 (i := i) (by omega)
        rw [this] at hj
        exact hj

/-- The end of all that is met, if there are at most M things. -/
theorem end_len {M : Nat} (hB : ∀ i, (bfs key succ x0 i).length ≤ M) {i : Nat} (h : (bfs key succ x0 i).length ≤ i) : bfs key succ x0 M = bfs key succ x0 i := by
  by_cases hi : i ≤ M
  · exact bfs_end key succ x0 h hi
  · exact (bfs_end key succ x0 (hB M) (by omega)).symm
theorem end_prefix {M : Nat} (hB : ∀ i, (bfs key succ x0 i).length ≤ M) (i : Nat) : bfs key succ x0 i <+: bfs key succ x0 M := by
  by_cases hi : i ≤ M
  · exact bfs_mono key succ x0 hi
  · rw [bfs_end key succ x0 (hB M) (show M ≤ i by omega)]; exact List.prefix_refl _
theorem end_before {M : Nat} (hB : ∀ i, (bfs key succ x0 i).length ≤ M) {i : Nat} (h : i < (bfs key succ x0 M).length) : i < (bfs key succ x0 i).length := by
  apply Decidable.byContradiction
  intro hn
  rw [end_len key succ x0 hB (show (bfs key succ x0 i).length ≤ i by omega)] at h
  exact hn h
/-- The list in the middle of a row. -/
def part (i c : Nat) : List α := match (bfs key succ x0 i)[i]? with
  | some x => row key (bfs key succ x0 i) ((succ x).take c)
  | none => bfs key succ x0 i
theorem part_zero (i : Nat) : part key succ x0 i 0 = bfs key succ x0 i := by
  unfold part; split <;> rfl
theorem part_eq {i c : Nat} (h : i < (bfs key succ x0 i).length) : part key succ x0 i c = row key (bfs key succ x0 i) ((succ (bfs key succ x0 i)[i]).take c) := by
  unfold part; rw [List.getElem?_eq_getElem h]
theorem part_all {i c : Nat} (h : i < (bfs key succ x0 i).length) (hc : (succ (bfs key succ x0 i)[i]).length ≤ c) : part key succ x0 i c = bfs key succ x0 (i + 1) := by
  rw [part_eq key succ x0 h, List.take_of_length_le hc, bfs_succ key succ x0 h]
theorem part_step {i c : Nat} (h : i < (bfs key succ x0 i).length) (hc : c < (succ (bfs key succ x0 i)[i]).length) : part key succ x0 i (c + 1) = meetO key (part key succ x0 i c) (succ (bfs key succ x0 i)[i])[c] := by
  rw [part_eq key succ x0 h, part_eq key succ x0 h, row_take key _ _ c hc]
theorem part_prefix {M : Nat} (hB : ∀ i, (bfs key succ x0 i).length ≤ M) {i c : Nat} (h : i < (bfs key succ x0 i).length) : part key succ x0 i c <+: bfs key succ x0 M := by
  have h1 : part key succ x0 i c <+: bfs key succ x0 (i + 1) := by
    rw [← part_all key succ x0 h (c := max c (succ (bfs key succ x0 i)[i]).length) (Nat.le_max_right _ _), part_eq key succ x0 h, part_eq key succ x0 h]
    exact row_take_prefix key _ _ (Nat.le_max_left _ _)
  exact h1.trans (end_prefix key succ x0 hB (i + 1))
theorem part_from (i c : Nat) : bfs key succ x0 i <+: part key succ x0 i c := by
  unfold part
  split
  · exact row_prefix key _ _
  · exact List.prefix_refl _
/-- The number that a thing gets when it is met is its number in the end. -/
theorem part_num {M : Nat} (hB : ∀ i, (bfs key succ x0 i).length ≤ M) {i c : Nat} (h : i < (bfs key succ x0 i).length) (hc : c < (succ (bfs key succ x0 i)[i]).length) {y : α} (hy : (succ (bfs key succ x0 i)[i])[c] = some y) :
    idx key (part key succ x0 i c) y = idx key (bfs key succ x0 M) y := by
  have h1 : part key succ x0 i (c + 1) = meet key (part key succ x0 i c) y := by rw [part_step key succ x0 h hc, hy]; rfl
  have h2 := part_prefix key succ x0 hB (i := i) (c := c + 1) h
  rw [idx_prefix key h2 (by rw [h1]; exact meet_lt key _ y), h1, idx_meet]
end Bfs

/-! CLASSES: states are numbers below n; a key tells which are alike. -/
section Reps
variable {κ : Type} [DecidableEq κ] (key : Nat → κ)
def reps (n : Nat) : List Nat := (List.range n).foldl (meet key) []
theorem reps_succ (n : Nat) : reps key (n + 1) = meet key (reps key n) n := by
  unfold reps; rw [List.range_succ, List.foldl_append]; rfl
theorem reps_dist (n : Nat) : Dist key (reps key n) := by
  induction n with
  | zero => exact dist_nil key
  | succ n ih => rw [reps_succ]; exact dist_meet key ih n
theorem reps_lt (n : Nat) : ∀ x ∈ reps key n, x < n := by
  induction n with
  | zero => intro x hx; cases hx
  | succ n ih =>
    intro x hx
    rw [reps_succ] at hx
    unfold meet at hx
    by_cases h : idx key (reps key n) n < (reps key n).length
    · rw [if_pos h] at hx; have := ih x hx; omega
    · rw [if_neg h] at hx
      rcases List.mem_append.1 hx with hx | hx
      · have := ih x hx; omega
      · rw [List.mem_singleton] at hx; omega
theorem reps_step (n : Nat) : reps key n <+: reps key (n + 1) := by rw [reps_succ]; exact meet_prefix key _ _
theorem reps_mono {m n : Nat} (h : m ≤ n) : reps key m <+: reps key n := by
  obtain ⟨k, rfl⟩ : ∃ k, n = m + k := ⟨n - m, by omega⟩
  clear h
  induction k with
  | zero => exact List.prefix_refl _
  | succ k ih => exact ih.trans (reps_step key (m + k))
theorem reps_has {n s : Nat} (h : s < n) : idx key (reps key n) s < (reps key n).length := by
  refine idx_lt_prefix key (reps_mono key (show s + 1 ≤ n from h)) ?_
  rw [reps_succ]; exact meet_lt key _ s
/-- The number that a state gets when it is looked at is its number in the end. -/
theorem reps_num {n s : Nat} (h : s < n) : idx key (reps key s) s = idx key (reps key n) s := by
  have h1 : idx key (reps key (s + 1)) s < (reps key (s + 1)).length := by rw [reps_succ]; exact meet_lt key _ s
  rw [idx_prefix key (reps_mono key (show s + 1 ≤ n from h)) h1, reps_succ, idx_meet]
theorem reps_le (n : Nat) : (reps key n).length ≤ n :=
  dist_few key (reps_dist key n) id n (fun x _ y _ e => by rw [show x = y from e]) (reps_lt key n)
theorem reps_pos {n : Nat} (h : 0 < n) : 0 < (reps key n).length := Nat.lt_of_le_of_lt (Nat.zero_le _) (reps_has key h)
theorem num_iff {n s t : Nat} (hs : s < n) : idx key (reps key n) s = idx key (reps key n) t ↔ key s = key t :=
  ⟨fun h => key_of_idx key (reps_has key hs) h, fun h => idx_congr key h⟩
end Reps

theorem reps_le_of {κ κ' : Type} [DecidableEq κ] [DecidableEq κ'] (k1 : Nat → κ) (k2 : Nat → κ') (n1 n2 : Nat) (f : Nat → Nat) (hf : ∀ p, p < n2 → f p < n1)
    (h : ∀ p q, p < n2 → q < n2 → k1 (f p) = k1 (f q) → k2 p = k2 q) : (reps k2 n2).length ≤ (reps k1 n1).length := by
  refine dist_few k2 (reps_dist k2 n2) (fun p => idx k1 (reps k1 n1) (f p)) _ (fun x hx y hy e => ?_) (fun x hx => reps_has k1 (hf x (reps_lt k2 n2 x hx)))
  have hx' := reps_lt k2 n2 x hx
  have hy' := reps_lt k2 n2 y hy
  exact h x y hx' hy' ((num_iff k1 (hf x hx')).1 e)

/-- As many finer classes as classes: they are the same. -/
theorem same_classes {κ κ' : Type} [DecidableEq κ] [DecidableEq κ'] (k1 : Nat → κ) (k2 : Nat → κ') (n : Nat) (hfine : ∀ p q, p < n → q < n → k2 p = k2 q → k1 p = k1 q)
    (hcount : (reps k2 n).length = (reps k1 n).length) {p q : Nat} (hp : p < n) (hq : q < n) (h : k1 p = k1 q) : k2 p = k2 q := by
  apply Decidable.byContradiction
  intro hne
  have hi := reps_has k1 hp
  obtain ⟨r, hr⟩ : ∃ r, r = (reps k1 n)[idx k1 (reps k1 n) p] := ⟨_, rfl⟩
  have hrm : r ∈ reps k1 n := hr ▸ List.getElem_mem hi
  have hrk : k1 r = k1 p := hr ▸ idx_key k1 hi
  have hrn := reps_lt k1 n r hrm
  obtain ⟨x, hxn, hx1, hx2⟩ : ∃ x, x < n ∧ k1 x = k1 r ∧ k2 x ≠ k2 r := by
    by_cases e : k2 p = k2 r
    · exact ⟨q, hq, by rw [hrk, h], fun e' => hne (e.trans e'.symm)⟩
    · exact ⟨p, hp, hrk.symm, e⟩
  have h1 : ((reps k1 n).map fun s => idx k2 (reps k2 n) s).Nodup :=
    nodup_map k1 (reps_dist k1 n) _ (fun a ha b hb e => hfine a b (reps_lt k1 n a ha) (reps_lt k1 n b hb) ((num_iff k2 (reps_lt k1 n a ha)).1 e))
  have h2 : idx k2 (reps k2 n) x ∉ (reps k1 n).map fun s => idx k2 (reps k2 n) s := by
    intro hm
    obtain ⟨s, hs, e⟩ := List.mem_map.1 hm
    have hsn := reps_lt k1 n s hs
    have e2 : k2 s = k2 x := (num_iff k2 hsn).1 e
    have e1 : k1 s = k1 r := (hfine s x hsn hxn e2).trans hx1
    obtain ⟨a, ha, rfl⟩ := List.getElem_of_mem hs
    obtain ⟨b, hb, rfl⟩ := List.getElem_of_mem hrm
    obtain rfl := reps_dist k1 n a b ha hb e1
    exact hx2 e2.symm
  have h3 := few (reps k2 n).length (idx k2 (reps k2 n) x :: (reps k1 n).map fun s => idx k2 (reps k2 n) s) (List.nodup_cons.2 ⟨h2, h1⟩) (by
    intro y hy
    rcases List.mem_cons.1 hy with rfl | hy
    · exact reps_has k2 hxn
    · obtain ⟨s, hs, rfl⟩ := List.mem_map.1 hy
      exact reps_has k2 (reps_lt k1 n s hs))
  rw [List.length_cons, List.length_map, hcount] at h3
  omega
end Go.Proofs.Ytaebeglcoghehaa.TidyClass
/- Plain facts on the first list of letters that an automaton takes: where it is found among what is met.
   Conditions: stated at each theorem. -/
namespace Go.Proofs.Ytaebeglcoghehaa.First
set_option linter.unusedVariables false
set_option linter.unusedSimpArgs false
set_option linter.unusedSectionVars false
open TidyMath TidyClass

/-- The number of a list of letters below k: shorter ones first, then in the order of the letters. -/
def nm (k : Nat) (p : List Nat) : Nat := p.foldl (fun n c => n * k + c + 1) 0
theorem nm_nil (k : Nat) : nm k [] = 0 := rfl
theorem nm_snoc (k : Nat) (p : List Nat) (c : Nat) : nm k (p ++ [c]) = nm k p * k + c + 1 := by unfold nm; rw [List.foldl_append]; rfl
/-- All letters are below k. -/
def Low (k : Nat) (p : List Nat) : Prop := ∀ c ∈ p, c < k
theorem Low.nil (k : Nat) : Low k [] := fun c hc => by cases hc
theorem Low.snoc {k : Nat} {p : List Nat} {c : Nat} (h : Low k p) (hc : c < k) : Low k (p ++ [c]) := fun x hx => by
  rcases List.mem_append.1 hx with hx | hx
  · exact h x hx
  · rw [List.mem_singleton] at hx; omega
theorem Low.head {k : Nat} {p : List Nat} {c : Nat} (h : Low k (p ++ [c])) : Low k p := fun x hx => h x (List.mem_append_left _ hx)
theorem Low.last {k : Nat} {p : List Nat} {c : Nat} (h : Low k (p ++ [c])) : c < k := h c (List.mem_append_right _ (List.mem_singleton_self c))
theorem snoc_ind {P : List Nat → Prop} (h0 : P []) (h1 : ∀ p c, P p → P (p ++ [c])) (p : List Nat) : P p := by
  have : ∀ n, ∀ p : List Nat, p.length = n → P p := by
    intro n
    induction n with
    | zero => intro p hp; rw [List.length_eq_zero_iff] at hp; exact hp ▸ h0
    | succ n ih =>
      intro p hp
      have hne : p ≠ [] := fun e => by rw [e] at hp; simp at hp
      rw [← List.dropLast_concat_getLast hne]
      exact h1 _ _ (ih _ (by rw [List.length_dropLast]; omega))
  exact this _ p rfl
theorem nm_inj {k : Nat} : ∀ p q : List Nat, Low k p → Low k q → nm k p = nm k q → p = q := by
  intro p
  refine snoc_ind (P := fun p => ∀ q, Low k p → Low k q → nm k p = nm k q → p = q) ?_ ?_ p
  · intro q
    refine snoc_ind (P := fun q => Low k [] → Low k q → nm k [] = nm k q → [] = q) (fun _ _ _ => rfl) ?_ q
    intro q c _ _ _ e
    rw [nm_snoc, nm_nil] at e
    omega
  · intro p c ih q
    refine snoc_ind (P := fun q => Low k (p ++ [c]) → Low k q → nm k (p ++ [c]) = nm k q → p ++ [c] = q) ?_ ?_ q
    · intro _ _ e
      rw [nm_snoc, nm_nil] at e
      omega
    · intro q d _ hp hq e
      rw [nm_snoc, nm_snoc] at e
      have hc := hp.last
      have hd := hq.last
      have h1 : nm k p * k + c = nm k q * k + d := by omega
      have e1 : c = d := by
        have := congrArg (· % k) h1
        simp only [Nat.mul_comm _ k, Nat.mul_add_mod] at this
        rwa [Nat.mod_eq_of_lt hc, Nat.mod_eq_of_lt hd] at this
      have e2 : nm k p = nm k q := by
        have := congrArg (· / k) h1
        simp only [Nat.mul_comm _ k] at this
        rw [Nat.mul_add_div (by omega), Nat.mul_add_div (by omega), Nat.div_eq_of_lt hc, Nat.div_eq_of_lt hd] at this
        omega
      rw [ih q hp.head hq.head e2, e1]

/-- The first list for which something holds. -/
structure Lst (k : Nat) (P : List Nat → Prop) (u : List Nat) : Prop where
  low : Low k u
  ok : P u
  least : ∀ v, Low k v → nm k v < nm k u → ¬ P v
theorem Lst.unique {k : Nat} {P : List Nat → Prop} {u v : List Nat} (h : Lst k P u) (h' : Lst k P v) : u = v := by
  refine nm_inj u v h.low h'.low ?_
  rcases Nat.lt_trichotomy (nm k u) (nm k v) with e | e | e
  · exact absurd h.ok (h'.least u h.low e)
  · exact e
  · exact absurd h'.ok (h.least v h'.low e)
theorem Lst.congr {k : Nat} {P Q : List Nat → Prop} (hPQ : ∀ p, Low k p → (P p ↔ Q p)) {u : List Nat} (h : Lst k P u) : Lst k Q u :=
  ⟨h.low, (hPQ u h.low).1 h.ok, fun v hv hl hq => h.least v hv hl ((hPQ v hv).2 hq)⟩

section Auto
variable {σ : Type} [DecidableEq σ] (d : σ → Nat → σ) (k : Nat) (s0 : σ)
/-- Where a list of letters leads. -/
def run (s : σ) (p : List Nat) : σ := p.foldl d s
theorem run_snoc (s : σ) (p : List Nat) (c : Nat) : run d s (p ++ [c]) = d (run d s p) c := by unfold run; rw [List.foldl_append]; rfl
/-- The states that are met, each with the list that leads to it first. -/
def nxt (x : σ × List Nat) : List (Option (σ × List Nat)) := (List.range k).map fun c => some (d x.1 c, x.2 ++ [c])
def seen (i : Nat) : List (σ × List Nat) := bfs Prod.fst (nxt d k) (s0, []) i
def mid (i c : Nat) : List (σ × List Nat) := part Prod.fst (nxt d k) (s0, []) i c
theorem nxt_length (x : σ × List Nat) : (nxt d k x).length = k := by simp [nxt]
theorem nxt_get (x : σ × List Nat) {c : Nat} (hc : c < k) : (nxt d k x)[c]'(by rw [nxt_length]; exact hc) = some (d x.1 c, x.2 ++ [c]) := by simp [nxt]
theorem mid_zero (i : Nat) : mid d k s0 i 0 = seen d k s0 i := part_zero _ _ _ i
theorem mid_step {i c : Nat} (h : i < (seen d k s0 i).length) (hc : c < k) : mid d k s0 i (c + 1) = meet Prod.fst (mid d k s0 i c) (d (seen d k s0 i)[i].1 c, (seen d k s0 i)[i].2 ++ [c]) := by
  have := part_step Prod.fst (nxt d k) (s0, []) (i := i) (c := c) h (by rw [nxt_length]; exact hc)
  rw [nxt_get d k _ hc] at this
  exact this
theorem mid_all {i : Nat} (h : i < (seen d k s0 i).length) : mid d k s0 i k = seen d k s0 (i + 1) := part_all _ _ _ h (by rw [nxt_length]; exact Nat.le_refl _)

/-- What holds of the list that is met. -/
structure Inv (l : List (σ × List Nat)) (b : Nat) : Prop where
  good : ∀ j (hj : j < l.length), run d s0 l[j].2 = l[j].1 ∧ Low k l[j].2
  up : ∀ i j (hi : i < l.length) (hj : j < l.length), i < j → nm k l[i].2 < nm k l[j].2
  top : ∀ j (hj : j < l.length), nm k l[j].2 ≤ b
theorem Inv.meet {l : List (σ × List Nat)} {b : Nat} (h : Inv d k s0 l b) {p : List Nat} {c : Nat} (hp : Low k p) (hc : c < k) (hb : nm k p * k + c = b) :
    Inv d k s0 (meet Prod.fst l (d (run d s0 p) c, p ++ [c])) (b + 1) := by
  unfold TidyMath.meet
  split
  · exact ⟨h.good, h.up, fun j hj => Nat.le_succ_of_le (h.top j hj)⟩
  · have hn : nm k (p ++ [c]) = b + 1 := by rw [nm_snoc, hb]
    refine ⟨fun j hj => ?_, fun i j hi hj hij => ?_, fun j hj => ?_⟩
    · rw [List.length_append] at hj
      by_cases hl : j < l.length
      · rw [List.getElem_append_left hl]; exact h.good j hl
      · have e : (l ++ [(d (run d s0 p) c, p ++ [c])])[j] = (d (run d s0 p) c, p ++ [c]) := by
          rw [List.getElem_append_right (by omega)]; simp
        rw [e]
        exact ⟨run_snoc d s0 p c, hp.snoc hc⟩
    · rw [List.length_append] at hi hj
      simp at hi hj
      by_cases hl : j < l.length
      · rw [List.getElem_append_left hl, List.getElem_append_left (by omega)]; exact h.up i j (by omega) hl hij
      · have e : (l ++ [(d (run d s0 p) c, p ++ [c])])[j] = (d (run d s0 p) c, p ++ [c]) := by
          rw [List.getElem_append_right (by omega)]; simp
        have hil : i < l.length := by omega
        rw [e, List.getElem_append_left hil]
        show nm k l[i].2 < nm k (p ++ [c])
        have := h.top i hil
        omega
    · rw [List.length_append] at hj
      simp at hj
      by_cases hl : j < l.length
      · rw [List.getElem_append_left hl]; have := h.top j hl; omega
      · have e : (l ++ [(d (run d s0 p) c, p ++ [c])])[j] = (d (run d s0 p) c, p ++ [c]) := by
          rw [List.getElem_append_right (by omega)]; simp
        rw [e]
        show nm k (p ++ [c]) ≤ b + 1
        omega
theorem inv_mid {i : Nat} (h : i < (seen d k s0 i).length) (hi : Inv d k s0 (seen d k s0 i) (nm k (seen d k s0 i)[i].2 * k)) : ∀ c, c ≤ k → Inv d k s0 (mid d k s0 i c) (nm k (seen d k s0 i)[i].2 * k + c) := by
  intro c
  induction c with
  | zero => intro _; rw [mid_zero]; exact hi
  | succ c ih =>
    intro hc
    rw [mid_step d k s0 h (by omega)]
    obtain ⟨h1, h2⟩ := hi.good i h
    have := Inv.meet d k s0 (ih (by omega)) (p := (seen d k s0 i)[i].2) (c := c) h2 (by omega) rfl
    rw [h1] at this
    exact this
theorem inv_seen (i : Nat) : ∃ b, Inv d k s0 (seen d k s0 i) b ∧ ∀ (h : i < (seen d k s0 i).length), b ≤ nm k (seen d k s0 i)[i].2 * k := by
  induction i with
  | zero =>
    refine ⟨0, ⟨fun j hj => ?_, fun i j hi hj hij => ?_, fun j hj => ?_⟩, fun _ => Nat.zero_le _⟩
    · have hj' : j < 1 := hj
      obtain rfl : j = 0 := by omega
      exact ⟨rfl, Low.nil k⟩
    · have hj' : j < 1 := hj
      omega
    · have hj' : j < 1 := hj
      obtain rfl : j = 0 := by omega
      exact Nat.le_refl _
  | succ i ih =>
    obtain ⟨b, hb, hle⟩ := ih
    by_cases h : i < (seen d k s0 i).length
    · have h1 : Inv d k s0 (seen d k s0 i) (nm k (seen d k s0 i)[i].2 * k) := ⟨hb.good, hb.up, fun j hj => Nat.le_trans (hb.top j hj) (hle h)⟩
      have h2 := inv_mid d k s0 h h1 k (Nat.le_refl _)
      rw [mid_all d k s0 h] at h2
      refine ⟨_, h2, fun hn => ?_⟩
      have hp : seen d k s0 i <+: seen d k s0 (i + 1) := bfs_step _ _ _ i
      have h3 := h2.up i (i + 1) (by omega) hn (Nat.lt_succ_self i)
      have e : (seen d k s0 (i + 1))[i]'(by omega) = (seen d k s0 i)[i] := prefix_get hp h
      rw [e] at h3
      have : (nm k (seen d k s0 i)[i].2 + 1) * k ≤ nm k (seen d k s0 (i + 1))[i + 1].2 * k := Nat.mul_le_mul_right k h3
      rw [Nat.add_mul] at this
      omega
    · have e : seen d k s0 (i + 1) = seen d k s0 i := bfs_stop _ _ _ (by unfold seen at h; omega)
      rw [e]
      exact ⟨b, hb, fun hn => absurd (Nat.lt_of_succ_lt hn) h⟩
/-- Whatever is behind a state that has been looked at is met, by a list that comes no later. -/
theorem found (i : Nat) : ∀ j, j < i → ∀ (hj : j < (seen d k s0 i).length) c, c < k → ∃ m, ∃ hm : m < (seen d k s0 i).length, (seen d k s0 i)[m].1 = d (seen d k s0 i)[j].1 c ∧ nm k (seen d k s0 i)[m].2 ≤ nm k (seen d k s0 i)[j].2 * k + c + 1 := by
  induction i with
  | zero => intro j h; omega
  | succ i ih =>
    intro j hji hj c hc
    have hp : seen d k s0 i <+: seen d k s0 (i + 1) := bfs_step _ _ _ i
    by_cases h : i < (seen d k s0 i).length
    · by_cases hji' : j < i
      · have hj' : j < (seen d k s0 i).length := by omega
        obtain ⟨m, hm, h1, h2⟩ := ih j hji' hj' c hc
        refine ⟨m, Nat.lt_of_lt_of_le hm hp.length_le, ?_⟩
        rw [prefix_get hp hm, prefix_get hp hj']
        exact ⟨h1, h2⟩
      · obtain rfl : j = i := by omega
        obtain ⟨b, hb, hle⟩ := inv_seen d k s0 j
        have h1 : Inv d k s0 (seen d k s0 j) (nm k (seen d k s0 j)[j].2 * k) := ⟨hb.good, hb.up, fun j hj => Nat.le_trans (hb.top j hj) (hle h)⟩
        have h2 := inv_mid d k s0 h h1 (c + 1) (by omega)
        have h5 : ∃ m, ∃ hm : m < (meet Prod.fst (mid d k s0 j c) (d (seen d k s0 j)[j].1 c, (seen d k s0 j)[j].2 ++ [c])).length, (meet Prod.fst (mid d k s0 j c) (d (seen d k s0 j)[j].1 c, (seen d k s0 j)[j].2 ++ [c]))[m].1 = d (seen d k s0 j)[j].1 c :=
          ⟨_, meet_lt Prod.fst _ _, idx_key Prod.fst (meet_lt Prod.fst _ _)⟩
        rw [← mid_step d k s0 h hc] at h5
        obtain ⟨m, h3, h4⟩ := h5
        have hq : mid d k s0 j (c + 1) <+: seen d k s0 (j + 1) := by
          rw [← mid_all d k s0 h]
          unfold mid
          rw [part_eq _ _ _ h, part_eq _ _ _ h]
          exact row_take_prefix _ _ _ hc
        refine ⟨_, Nat.lt_of_lt_of_le h3 hq.length_le, ?_⟩
        rw [prefix_get hq h3, prefix_get hp h]
        exact ⟨h4, h2.top _ h3⟩
    · have e : seen d k s0 (i + 1) = seen d k s0 i := bfs_stop _ _ _ (by unfold seen at h; omega)
      have hji' : j < i := by rw [e] at hj; omega
      have hj' : j < (seen d k s0 i).length := by rw [e] at hj; exact hj
      obtain ⟨m, hm, h1, h2⟩ := ih j hji' hj' c hc
      refine ⟨m, Nat.lt_of_lt_of_le hm hp.length_le, ?_⟩
      rw [prefix_get hp hm, prefix_get hp hj']
      exact ⟨h1, h2⟩
/-- Lists that come before the next one lead to states that have been looked at. -/
theorem early (i : Nat) (u : List Nat) : Low k u → (∀ (h : i < (seen d k s0 i).length), nm k u < nm k (seen d k s0 i)[i].2) → ∃ j, j < i ∧ ∃ hj : j < (seen d k s0 i).length, run d s0 u = (seen d k s0 i)[j].1 ∧ nm k (seen d k s0 i)[j].2 ≤ nm k u := by
  have hpos : 0 < (seen d k s0 i).length := bfs_pos _ _ _ i
  have h0 : (seen d k s0 i)[0] = (s0, []) := by
    have hp : seen d k s0 0 <+: seen d k s0 i := bfs_mono _ _ _ (Nat.zero_le _)
    exact prefix_get hp (show 0 < (seen d k s0 0).length from Nat.one_pos)
  obtain ⟨b, hb, -⟩ := inv_seen d k s0 i
  have hlt : ∀ m (hm : m < (seen d k s0 i).length) v, (∀ (h : i < (seen d k s0 i).length), nm k v < nm k (seen d k s0 i)[i].2) → nm k (seen d k s0 i)[m].2 ≤ nm k v → m < i := by
    intro m hm v hv hle
    apply Decidable.byContradiction
    intro hn
    have hil : i < (seen d k s0 i).length := by omega
    have h1 := hv hil
    by_cases e : m = i
    · subst e; omega
    · have := hb.up i m hil hm (by omega)
      omega
  refine snoc_ind (P := fun u => Low k u → (∀ (h : i < (seen d k s0 i).length), nm k u < nm k (seen d k s0 i)[i].2) → ∃ j, j < i ∧ ∃ hj : j < (seen d k s0 i).length, run d s0 u = (seen d k s0 i)[j].1 ∧ nm k (seen d k s0 i)[j].2 ≤ nm k u) ?_ ?_ u
  · intro _ hu
    have hle : nm k (seen d k s0 i)[0].2 ≤ nm k [] := by rw [h0]; exact Nat.le_refl _
    exact ⟨0, hlt 0 hpos [] hu hle, hpos, by rw [h0]; rfl, hle⟩
  · intro u c ih hl hu
    have hc := hl.last
    have hnu : nm k u < nm k (u ++ [c]) := by
      rw [nm_snoc]
      have : nm k u * 1 ≤ nm k u * k := Nat.mul_le_mul_left _ (by omega)
      omega
    obtain ⟨j, hji, hj, e, hle⟩ := ih hl.head (fun h => Nat.lt_trans hnu (hu h))
    obtain ⟨m, hm, e1, h1⟩ := found d k s0 i j hji hj c hc
    have h2 : nm k (seen d k s0 i)[m].2 ≤ nm k (u ++ [c]) := by
      rw [nm_snoc]
      have : nm k (seen d k s0 i)[j].2 * k ≤ nm k u * k := Nat.mul_le_mul_right k hle
      omega
    refine ⟨m, hlt m hm _ hu h2, hm, ?_, h2⟩
    rw [run_snoc, e, e1]

variable (f : σ → Bool)
/-- The first state of those that are met, in their order, that is accepting tells the first list. -/
theorem first_some {i : Nat} (h : i < (seen d k s0 i).length) (hn : ∀ j (hj : j < i), f (seen d k s0 i)[j].1 = false) (hy : f (seen d k s0 i)[i].1 = true) : Lst k (fun p => f (run d s0 p) = true) (seen d k s0 i)[i].2 := by
  obtain ⟨b, hb, -⟩ := inv_seen d k s0 i
  obtain ⟨h1, h2⟩ := hb.good i h
  refine ⟨h2, by show f (run d s0 _) = true; rw [h1]; exact hy, fun v hv hl hf => ?_⟩
  obtain ⟨j, hji, hj, e, -⟩ := early d k s0 i v hv (fun _ => hl)
  have hf : f (run d s0 v) = true := hf
  rw [e, hn j hji] at hf
  cases hf
theorem first_none {i : Nat} (h : (seen d k s0 i).length ≤ i) (hn : ∀ j (hj : j < (seen d k s0 i).length), f (seen d k s0 i)[j].1 = false) : ∀ p, Low k p → ¬ f (run d s0 p) = true := by
  intro p hp hf
  obtain ⟨j, hji, hj, e, -⟩ := early d k s0 i p hp (fun h' => absurd h' (by omega))
  rw [e, hn j hj] at hf
  cases hf
end Auto
end Go.Proofs.Ytaebeglcoghehaa.First
