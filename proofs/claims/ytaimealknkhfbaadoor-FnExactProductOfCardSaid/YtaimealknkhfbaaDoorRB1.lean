
/- Plain facts on lists of things that are met one behind the other, each with a key, and on the classes of keys.
   Conditions: stated at each theorem. -/

namespace Go.Proofs.YtaimealknkhfbaaDoor.TidyMath
set_option linter.unusedVariables false
set_option linter.unusedSimpArgs false

section Plain
variable {α κ : Type} (key : α → κ)
/-- No two things have the same key. -/
def Dist (l : List α) : Prop := ∀ i j (hi : i < l.length) (hj : j < l.length), key l[i] = key l[j] → i = j

theorem dist_nil : Dist key ([] : List α) := fun i j hi => absurd hi (Nat.not_lt_zero i)

theorem dist_one (x : α) : Dist key [x] := fun i j hi hj _ => by simp at hi hj; omega

theorem nodup_map {l : List α} (h : Dist key l) (f : α → Nat) (hf : ∀ x ∈ l, ∀ y ∈ l, f x = f y → key x = key y) : (l.map f).Nodup := by
  rw [List.nodup_iff_pairwise_ne, List.pairwise_iff_getElem]
  intro i j hi hj hij e
  rw [List.length_map] at hi hj
  simp only [List.getElem_map] at e
  have := h i j hi hj (hf _ (List.getElem_mem hi) _ (List.getElem_mem hj) e)
  omega

/-- Different numbers below n are at most n. -/
theorem few : ∀ (n : Nat) (l : List Nat), l.Nodup → (∀ x ∈ l, x < n) → l.length ≤ n
  | 0, l, _, h => by
    cases l with
    | nil => exact Nat.le_refl _
    | cons a t => exact absurd (h a (List.mem_cons_self)) (Nat.not_lt_zero a)
  | n + 1, l, hd, h => by
    have h1 : (l.erase n).Nodup := hd.erase n
    have h2 : ∀ x ∈ l.erase n, x < n := by
      intro x hx
      have hx' := (List.Nodup.mem_erase_iff hd).1 hx
      have := h x hx'.2
      have := hx'.1
      omega
    have h3 := few n _ h1 h2
    by_cases hm : n ∈ l
    · rw [List.length_erase_of_mem hm] at h3; omega
    · rw [List.erase_of_not_mem hm] at h3; omega

theorem dist_few {l : List α} (h : Dist key l) (f : α → Nat) (n : Nat) (hf : ∀ x ∈ l, ∀ y ∈ l, f x = f y → key x = key y) (hb : ∀ x ∈ l, f x < n) : l.length ≤ n := by
  have := few n (l.map f) (nodup_map key h f hf) (by intro x hx; obtain ⟨y, hy, rfl⟩ := List.mem_map.1 hx; exact hb y hy)
  rwa [List.length_map] at this
end Plain

section Meet
variable {α κ : Type} [DecidableEq κ] (key : α → κ)

/-- Where a thing with the key of x stands first; the length, if there is none. -/
def idx (l : List α) (x : α) : Nat := l.findIdx fun y => decide (key y = key x)
def meet (l : List α) (x : α) : List α := if idx key l x < l.length then l else l ++ [x]

theorem idx_le (l : List α) (x : α) : idx key l x ≤ l.length := List.findIdx_le_length

theorem idx_append {l m : List α} {x : α} (h : idx key l x < l.length) : idx key (l ++ m) x = idx key l x := by
  unfold idx at h ⊢
  rw [List.findIdx_append, if_pos h]

theorem idx_snoc (l : List α) (x : α) : idx key (l ++ [x]) x = idx key l x := by
  by_cases h : idx key l x < l.length
  · exact idx_append key h
  · have e : idx key l x = l.length := by have := idx_le key l x; omega
    unfold idx at h e ⊢
    rw [List.findIdx_append, if_neg h, e]
    simp [List.findIdx_cons]

theorem idx_meet (l : List α) (x : α) : idx key (meet key l x) x = idx key l x := by
  unfold meet
  by_cases h : idx key l x < l.length
  · rw [if_pos h]
  · rw [if_neg h]; exact idx_snoc key l x

theorem meet_lt (l : List α) (x : α) : idx key (meet key l x) x < (meet key l x).length := by
  rw [idx_meet]
  unfold meet
  by_cases h : idx key l x < l.length
  · rw [if_pos h]; exact h
  · rw [if_neg h]; have := idx_le key l x; rw [List.length_append]; simp; omega

theorem meet_prefix (l : List α) (x : α) : l <+: meet key l x := by
  unfold meet
  by_cases h : idx key l x < l.length
  · rw [if_pos h]; exact List.prefix_refl l
  · rw [if_neg h]; exact List.prefix_append l [x]

theorem idx_prefix {l m : List α} {x : α} (hp : l <+: m) (h : idx key l x < l.length) : idx key m x = idx key l x := by
  obtain ⟨t, rfl⟩ := hp
  exact idx_append key h

theorem idx_lt_prefix {l m : List α} {x : α} (hp : l <+: m) (h : idx key l x < l.length) : idx key m x < m.length := by
  rw [idx_prefix key hp h]; exact Nat.lt_of_lt_of_le h hp.length_le

theorem idx_key {l : List α} {x : α} (h : idx key l x < l.length) : key (l[idx key l x]) = key x := by
  have := List.findIdx_getElem (p := fun y => decide (key y = key x)) (xs := l) (w := h)
  exact of_decide_eq_true this

theorem idx_congr {l : List α} {x y : α} (h : key x = key y) : idx key l x = idx key l y := by
  unfold idx; rw [h]

/-- Things with the same place have the same key. -/
theorem key_of_idx {l : List α} {x y : α} (hx : idx key l x < l.length) (h : idx key l x = idx key l y) : key x = key y := by
  have h1 := idx_key key hx
  have h2 := idx_key key (l := l) (x := y) (h ▸ hx)
  rw [← h1, ← h2]
  congr 1
  exact getElem_congr_idx h

theorem idx_none {l : List α} {x : α} (h : ¬ idx key l x < l.length) {i : Nat} (hi : i < l.length) : key l[i] ≠ key x := by
  intro e
  have h1 : idx key l x = l.length := by have := idx_le key l x; omega
  have := List.findIdx_eq_length.1 h1 l[i] (List.getElem_mem hi)
  simp at this
  exact this e

theorem dist_meet {l : List α} (h : Dist key l) (x : α) : Dist key (meet key l x) := by
  unfold meet
  by_cases hx : idx key l x < l.length
  · rw [if_pos hx]; exact h
  · rw [if_neg hx]
    intro i j hi hj e
    rw [List.length_append] at hi hj
    simp at hi hj
    by_cases h1 : i < l.length
    · by_cases h2 : j < l.length
      · rw [List.getElem_append_left h1, List.getElem_append_left h2] at e
        exact h i j h1 h2 e
      · rw [List.getElem_append_left h1, List.getElem_append_right (by omega)] at e
        simp at e
        exact absurd e (idx_none key hx h1)
    · by_cases h2 : j < l.length
      · rw [List.getElem_append_right (by omega), List.getElem_append_left h2] at e
        simp at e
        exact absurd e.symm (idx_none key hx h2)
      · omega

theorem idx_self {l : List α} (h : Dist key l) {i : Nat} (hi : i < l.length) : idx key l l[i] = i := by
  have h1 : idx key l l[i] < l.length := by
    apply Decidable.byContradiction
    intro hn
    exact idx_none key hn hi rfl
  exact h _ _ h1 hi (idx_key key h1)

theorem idx_lt_of_mem {l : List α} {x y : α} (hy : y ∈ l) (e : key y = key x) : idx key l x < l.length := by
  apply Decidable.byContradiction
  intro hn
  obtain ⟨i, hi, rfl⟩ := List.getElem_of_mem hy
  exact idx_none key hn hi e

/-! A row of things that are met, some of which are none. -/
def meetO (l : List α) : Option α → List α
  | none => l
  | some x => meet key l x
def row (l : List α) (xs : List (Option α)) : List α := xs.foldl (meetO key) l

theorem meetO_prefix (l : List α) (x : Option α) : l <+: meetO key l x := by
  cases x with
  | none => exact List.prefix_refl l
  | some x => exact meet_prefix key l x
theorem dist_meetO {l : List α} (h : Dist key l) (x : Option α) : Dist key (meetO key l x) := by
  cases x with
  | none => exact h
  | some x => exact dist_meet key h x
theorem row_prefix (xs : List (Option α)) : ∀ l : List α, l <+: row key l xs := by
  induction xs with
  | nil => exact fun l => List.prefix_refl l
  | cons x r ih => exact fun l => (meetO_prefix key l x).trans (ih _)
theorem dist_row (xs : List (Option α)) : ∀ {l : List α}, Dist key l → Dist key (row key l xs) := by
  induction xs with
  | nil => exact fun h => h
  | cons x r ih => exact fun h => ih (dist_meetO key h x)
theorem row_take (l : List α) (xs : List (Option α)) (c : Nat) (hc : c < xs.length) : row key l (xs.take (c + 1)) = meetO key (row key l (xs.take c)) xs[c] := by
  unfold row
  rw [List.take_succ_eq_append_getElem hc, List.foldl_append]; rfl
theorem row_take_prefix (l : List α) (xs : List (Option α)) {c d : Nat} (h : c ≤ d) : row key l (xs.take c) <+: row key l (xs.take d) := by
  have : xs.take d = xs.take c ++ (xs.drop c).take (d - c) := by
    rw [← List.take_append_drop c (xs.take d), List.take_take, Nat.min_eq_left h, List.drop_take]
  rw [this]
  unfold row
  rw [List.foldl_append]
  exact row_prefix key _ _
theorem row_mem (xs : List (Option α)) : ∀ (l : List α) (y : α), y ∈ row key l xs → y ∈ l ∨ some y ∈ xs := by
  induction xs with
  | nil => exact fun l y h => .inl h
  | cons x r ih =>
    intro l y h
    rcases ih _ y h with h | h
    · cases x with
      | none => exact .inl h
      | some x =>
        have h : y ∈ meet key l x := h
        unfold meet at h
        by_cases hx : idx key l x < l.length
        · rw [if_pos hx] at h; exact .inl h
        · rw [if_neg hx] at h
          rcases List.mem_append.1 h with h | h
          · exact .inl h
          · rw [List.mem_singleton] at h; subst h; exact .inr (List.mem_cons_self)
    · exact .inr (List.mem_cons_of_mem _ h)
theorem row_has (xs : List (Option α)) : ∀ (l : List α) (x : α), some x ∈ xs → idx key (row key l xs) x < (row key l xs).length := by
  induction xs with
  | nil => exact fun l x h => by cases h
  | cons y r ih =>
    intro l x h
    rcases List.mem_cons.1 h with h | h
    · subst h
      exact idx_lt_prefix key (row_prefix key r _) (meet_lt key l x)
    · exact ih _ x h

/-! All that is met from one thing on. -/
variable (succ : α → List (Option α)) (x0 : α)
def bfs : Nat → List α
  | 0 => [x0]
  | i + 1 => match (bfs i)[i]? with
    | some x => row key (bfs i) (succ x)
    | none => bfs i

theorem bfs_succ {i : Nat} (h : i < (bfs key succ x0 i).length) : bfs key succ x0 (i + 1) = row key (bfs key succ x0 i) (succ (bfs key succ x0 i)[i]) := by
  rw [bfs, List.getElem?_eq_getElem h]
theorem bfs_stop {i : Nat} (h : (bfs key succ x0 i).length ≤ i) : bfs key succ x0 (i + 1) = bfs key succ x0 i := by
  rw [bfs, List.getElem?_eq_none h]
theorem bfs_step (i : Nat) : bfs key succ x0 i <+: bfs key succ x0 (i + 1) := by
  by_cases h : i < (bfs key succ x0 i).length
  · rw [bfs_succ key succ x0 h]; exact row_prefix key _ _
  · rw [bfs_stop key succ x0 (by omega)]; exact List.prefix_refl _
theorem bfs_prefix (i k : Nat) : bfs key succ x0 i <+: bfs key succ x0 (i + k) := by
  induction k with
  | zero => exact List.prefix_refl _
  | succ k ih => exact ih.trans (bfs_step key succ x0 (i + k))
theorem bfs_mono {i j : Nat} (h : i ≤ j) : bfs key succ x0 i <+: bfs key succ x0 j := by
  have := bfs_prefix key succ x0 i (j - i)
  rwa [Nat.add_sub_cancel' h] at this
theorem bfs_stay {i : Nat} (h : (bfs key succ x0 i).length ≤ i) : ∀ k, bfs key succ x0 (i + k) = bfs key succ x0 i := by
  intro k
  induction k with
  | zero => rfl
  | succ k ih => rw [← Nat.add_assoc, bfs_stop key succ x0 (by rw [ih]; omega), ih]
theorem bfs_end {i j : Nat} (h : (bfs key succ x0 i).length ≤ i) (hj : i ≤ j) : bfs key succ x0 j = bfs key succ x0 i := by
  have := bfs_stay key succ x0 h (j - i)
  rwa [Nat.add_sub_cancel' hj] at this
theorem bfs_dist (i : Nat) : Dist key (bfs key succ x0 i) := by
  induction i with
  | zero => exact dist_one key x0
  | succ i ih =>
    by_cases h : i < (bfs key succ x0 i).length
    · rw [bfs_succ key succ x0 h]; exact dist_row key _ ih
    · rw [bfs_stop key succ x0 (by omega)]; exact ih
theorem bfs_pos (i : Nat) : 0 < (bfs key succ x0 i).length := by
  have := (bfs_mono key succ x0 (Nat.zero_le i)).length_le
  exact Nat.lt_of_lt_of_le Nat.one_pos this
theorem bfs_all (D : α → Prop) (h0 : D x0) (hs : ∀ x, D x → ∀ y, some y ∈ succ x → D y) (i : Nat) : ∀ x ∈ bfs key succ x0 i, D x := by
  induction i with
  | zero => intro x hx; rw [bfs, List.mem_singleton] at hx; exact hx ▸ h0
  | succ i ih =>
    intro x hx
    by_cases h : i < (bfs key succ x0 i).length
    · rw [bfs_succ key succ x0 h] at hx
      rcases row_mem key _ _ _ hx with hx | hx
      · exact ih x hx
      · exact hs _ (ih _ (List.getElem_mem h)) x hx
    · rw [bfs_stop key succ x0 (by omega)] at hx; exact ih x hx
end Meet
end Go.Proofs.YtaimealknkhfbaaDoor.TidyMath
/- Plain facts on what is met from one thing on: what is found, where it comes from; and on classes of states, counted and refined.
   Conditions: stated at each theorem. -/
namespace Go.Proofs.YtaimealknkhfbaaDoor.TidyClass
set_option linter.unusedVariables false
set_option linter.unusedSimpArgs false
open TidyMath

theorem prefix_get {α : Type} {l m : List α} (h : l <+: m) {i : Nat} (hi : i < l.length) : m[i]'(Nat.lt_of_lt_of_le hi h.length_le) = l[i] := by
  obtain ⟨t, rfl⟩ := h
  exact List.getElem_append_left hi

section Bfs
variable {α κ : Type} [DecidableEq κ] (key : α → κ) (succ : α → List (Option α)) (x0 : α)

theorem bfs_found {i j : Nat} (hj : j < i) (h : j < (bfs key succ x0 j).length) (y : α) (hy : some y ∈ succ (bfs key succ x0 j)[j]) :
    idx key (bfs key succ x0 i) y < (bfs key succ x0 i).length := by
  have h1 : idx key (bfs key succ x0 (j + 1)) y < (bfs key succ x0 (j + 1)).length := by
    rw [bfs_succ key succ x0 h]; exact row_has key _ _ y hy
  exact idx_lt_prefix key (bfs_mono key succ x0 hj) h1

theorem bfs_origin (i : Nat) : ∀ j (hj : j < (bfs key succ x0 i).length), 0 < j → ∃ k y, ∃ hk : k < j, some y ∈ succ ((bfs key succ x0 i)[k]'(Nat.lt_trans hk hj)) ∧ (bfs key succ x0 i)[j] = y := by
  induction i with
  | zero => intro j hj h0; simp [bfs] at hj; omega
  | succ i ih =>
    intro j hj h0
    have hp := bfs_step key succ x0 i
    by_cases hlt : j < (bfs key succ x0 i).length
    · obtain ⟨k, y, hk, hy, e⟩ := ih j hlt h0
      refine ⟨k, y, hk, ?_, ?_⟩
      · rw [prefix_get hp (Nat.lt_trans hk hlt)]; exact hy
      · rw [prefix_get hp hlt]; exact e
    · by_cases h : i < (bfs key succ x0 i).length
      · have hm : (bfs key succ x0 (i + 1))[j] ∈ (bfs key succ x0 (i + 1)).drop (bfs key succ x0 i).length := by
          rw [List.mem_iff_getElem]
          exact ⟨j - (bfs key succ x0 i).length, by rw [List.length_drop]; omega, by rw [List.getElem_drop]; congr 1; omega⟩
        have hd := bfs_dist key succ x0 (i + 1)
        have hr : (bfs key succ x0 (i + 1))[j] ∈ bfs key succ x0 i ∨ some (bfs key succ x0 (i + 1))[j] ∈ succ (bfs key succ x0 i)[i] := by
          apply row_mem key
          rw [← bfs_succ key succ x0 h]
          exact List.getElem_mem hj
        rcases hr with hr | hr
        · obtain ⟨k, hk, e⟩ := List.getElem_of_mem hr
          have := hd k j (Nat.lt_of_lt_of_le hk hp.length_le) hj (by rw [prefix_get hp hk, e])
          omega
        · exact ⟨i, _, by omega, by rw [prefix_get hp h]; exact hr, rfl⟩
      · exfalso
        apply hlt
        have := bfs_stop key succ x0 (i := i) (by omega)
        rw [this] at hj
        exact hj

/-- The end of all that is met, if there are at most M things. -/
theorem end_len {M : Nat} (hB : ∀ i, (bfs key succ x0 i).length ≤ M) {i : Nat} (h : (bfs key succ x0 i).length ≤ i) : bfs key succ x0 M = bfs key succ x0 i := by
  by_cases hi : i ≤ M
  · exact bfs_end key succ x0 h hi
  · exact (bfs_end key succ x0 (hB M) (by omega)).symm
theorem end_prefix {M : Nat} (hB : ∀ i, (bfs key succ x0 i).length ≤ M) (i : Nat) : bfs key succ x0 i <+: bfs key succ x0 M := by
  by_cases hi : i ≤ M
  · exact bfs_mono key succ x0 hi
  · rw [bfs_end key succ x0 (hB M) (show M ≤ i by omega)]; exact List.prefix_refl _
theorem end_before {M : Nat} (hB : ∀ i, (bfs key succ x0 i).length ≤ M) {i : Nat} (h : i < (bfs key succ x0 M).length) : i < (bfs key succ x0 i).length := by
  apply Decidable.byContradiction
  intro hn
  rw [end_len key succ x0 hB (show (bfs key succ x0 i).length ≤ i by omega)] at h
  exact hn h
/-- The list in the middle of a row. -/
def part (i c : Nat) : List α := match (bfs key succ x0 i)[i]? with
  | some x => row key (bfs key succ x0 i) ((succ x).take c)
  | none => bfs key succ x0 i
theorem part_zero (i : Nat) : part key succ x0 i 0 = bfs key succ x0 i := by
  unfold part; split <;> rfl
theorem part_eq {i c : Nat} (h : i < (bfs key succ x0 i).length) : part key succ x0 i c = row key (bfs key succ x0 i) ((succ (bfs key succ x0 i)[i]).take c) := by
  unfold part; rw [List.getElem?_eq_getElem h]
theorem part_all {i c : Nat} (h : i < (bfs key succ x0 i).length) (hc : (succ (bfs key succ x0 i)[i]).length ≤ c) : part key succ x0 i c = bfs key succ x0 (i + 1) := by
  rw [part_eq key succ x0 h, List.take_of_length_le hc, bfs_succ key succ x0 h]
theorem part_step {i c : Nat} (h : i < (bfs key succ x0 i).length) (hc : c < (succ (bfs key succ x0 i)[i]).length) : part key succ x0 i (c + 1) = meetO key (part key succ x0 i c) (succ (bfs key succ x0 i)[i])[c] := by
  rw [part_eq key succ x0 h, part_eq key succ x0 h, row_take key _ _ c hc]
theorem part_prefix {M : Nat} (hB : ∀ i, (bfs key succ x0 i).length ≤ M) {i c : Nat} (h : i < (bfs key succ x0 i).length) : part key succ x0 i c <+: bfs key succ x0 M := by
  have h1 : part key succ x0 i c <+: bfs key succ x0 (i + 1) := by
    rw [← part_all key succ x0 h (c := max c (succ (bfs key succ x0 i)[i]).length) (Nat.le_max_right _ _), part_eq key succ x0 h, part_eq key succ x0 h]
    exact row_take_prefix key _ _ (Nat.le_max_left _ _)
  exact h1.trans (end_prefix key succ x0 hB (i + 1))
theorem part_from (i c : Nat) : bfs key succ x0 i <+: part key succ x0 i c := by
  unfold part
  split
  · exact row_prefix key _ _
  · exact List.prefix_refl _
/-- The number that a thing gets when it is met is its number in the end. -/
theorem part_num {M : Nat} (hB : ∀ i, (bfs key succ x0 i).length ≤ M) {i c : Nat} (h : i < (bfs key succ x0 i).length) (hc : c < (succ (bfs key succ x0 i)[i]).length) {y : α} (hy : (succ (bfs key succ x0 i)[i])[c] = some y) :
    idx key (part key succ x0 i c) y = idx key (bfs key succ x0 M) y := by
  have h1 : part key succ x0 i (c + 1) = meet key (part key succ x0 i c) y := by rw [part_step key succ x0 h hc, hy]; rfl
  have h2 := part_prefix key succ x0 hB (i := i) (c := c + 1) h
  rw [idx_prefix key h2 (by rw [h1]; exact meet_lt key _ y), h1, idx_meet]
end Bfs

/-! CLASSES: states are numbers below n; a key tells which are alike. -/
section Reps
variable {κ : Type} [DecidableEq κ] (key : Nat → κ)
def reps (n : Nat) : List Nat := (List.range n).foldl (meet key) []
theorem reps_succ (n : Nat) : reps key (n + 1) = meet key (reps key n) n := by
  unfold reps; rw [List.range_succ, List.foldl_append]; rfl
theorem reps_dist (n : Nat) : Dist key (reps key n) := by
  induction n with
  | zero => exact dist_nil key
  | succ n ih => rw [reps_succ]; exact dist_meet key ih n
theorem reps_lt (n : Nat) : ∀ x ∈ reps key n, x < n := by
  induction n with
  | zero => intro x hx; cases hx
  | succ n ih =>
    intro x hx
    rw [reps_succ] at hx
    unfold meet at hx
    by_cases h : idx key (reps key n) n < (reps key n).length
    · rw [if_pos h] at hx; have := ih x hx; omega
    · rw [if_neg h] at hx
      rcases List.mem_append.1 hx with hx | hx
      · have := ih x hx; omega
      · rw [List.mem_singleton] at hx; omega
theorem reps_step (n : Nat) : reps key n <+: reps key (n + 1) := by rw [reps_succ]; exact meet_prefix key _ _
theorem reps_mono {m n : Nat} (h : m ≤ n) : reps key m <+: reps key n := by
  obtain ⟨k, rfl⟩ : ∃ k, n = m + k := ⟨n - m, by omega⟩
  clear h
  induction k with
  | zero => exact List.prefix_refl _
  | succ k ih => exact ih.trans (reps_step key (m + k))
theorem reps_has {n s : Nat} (h : s < n) : idx key (reps key n) s < (reps key n).length := by
  refine idx_lt_prefix key (reps_mono key (show s + 1 ≤ n from h)) ?_
  rw [reps_succ]; exact meet_lt key _ s
/-- The number that a state gets when it is looked at is its number in the end. -/
theorem reps_num {n s : Nat} (h : s < n) : idx key (reps key s) s = idx key (reps key n) s := by
  have h1 : idx key (reps key (s + 1)) s < (reps key (s + 1)).length := by rw [reps_succ]; exact meet_lt key _ s
  rw [idx_prefix key (reps_mono key (show s + 1 ≤ n from h)) h1, reps_succ, idx_meet]
theorem reps_le (n : Nat) : (reps key n).length ≤ n :=
  dist_few key (reps_dist key n) id n (fun x _ y _ e => by rw [show x = y from e]) (reps_lt key n)
theorem reps_pos {n : Nat} (h : 0 < n) : 0 < (reps key n).length := Nat.lt_of_le_of_lt (Nat.zero_le _) (reps_has key h)
theorem num_iff {n s t : Nat} (hs : s < n) : idx key (reps key n) s = idx key (reps key n) t ↔ key s = key t :=
  ⟨fun h => key_of_idx key (reps_has key hs) h, fun h => idx_congr key h⟩
end Reps

theorem reps_le_of {κ κ' : Type} [DecidableEq κ] [DecidableEq κ'] (k1 : Nat → κ) (k2 : Nat → κ') (n1 n2 : Nat) (f : Nat → Nat) (hf : ∀ p, p < n2 → f p < n1)
    (h : ∀ p q, p < n2 → q < n2 → k1 (f p) = k1 (f q) → k2 p = k2 q) : (reps k2 n2).length ≤ (reps k1 n1).length := by
  refine dist_few k2 (reps_dist k2 n2) (fun p => idx k1 (reps k1 n1) (f p)) _ (fun x hx y hy e => ?_) (fun x hx => reps_has k1 (hf x (reps_lt k2 n2 x hx)))
  have hx' := reps_lt k2 n2 x hx
  have hy' := reps_lt k2 n2 y hy
  exact h x y hx' hy' ((num_iff k1 (hf x hx')).1 e)

/-- As many finer classes as classes: they are the same. -/
theorem same_classes {κ κ' : Type} [DecidableEq κ] [DecidableEq κ'] (k1 : Nat → κ) (k2 : Nat → κ') (n : Nat) (hfine : ∀ p q, p < n → q < n → k2 p = k2 q → k1 p = k1 q)
    (hcount : (reps k2 n).length = (reps k1 n).length) {p q : Nat} (hp : p < n) (hq : q < n) (h : k1 p = k1 q) : k2 p = k2 q := by
  apply Decidable.byContradiction
  intro hne
  have hi := reps_has k1 hp
  obtain ⟨r, hr⟩ : ∃ r, r = (reps k1 n)[idx k1 (reps k1 n) p] := ⟨_, rfl⟩
  have hrm : r ∈ reps k1 n := hr ▸ List.getElem_mem hi
  have hrk : k1 r = k1 p := hr ▸ idx_key k1 hi
  have hrn := reps_lt k1 n r hrm
  obtain ⟨x, hxn, hx1, hx2⟩ : ∃ x, x < n ∧ k1 x = k1 r ∧ k2 x ≠ k2 r := by
    by_cases e : k2 p = k2 r
    · exact ⟨q, hq, by rw [hrk, h], fun e' => hne (e.trans e'.symm)⟩
    · exact ⟨p, hp, hrk.symm, e⟩
  have h1 : ((reps k1 n).map fun s => idx k2 (reps k2 n) s).Nodup :=
    nodup_map k1 (reps_dist k1 n) _ (fun a ha b hb e => hfine a b (reps_lt k1 n a ha) (reps_lt k1 n b hb) ((num_iff k2 (reps_lt k1 n a ha)).1 e))
  have h2 : idx k2 (reps k2 n) x ∉ (reps k1 n).map fun s => idx k2 (reps k2 n) s := by
    intro hm
    obtain ⟨s, hs, e⟩ := List.mem_map.1 hm
    have hsn := reps_lt k1 n s hs
    have e2 : k2 s = k2 x := (num_iff k2 hsn).1 e
    have e1 : k1 s = k1 r := (hfine s x hsn hxn e2).trans hx1
    obtain ⟨a, ha, rfl⟩ := List.getElem_of_mem hs
    obtain ⟨b, hb, rfl⟩ := List.getElem_of_mem hrm
    obtain rfl := reps_dist k1 n a b ha hb e1
    exact hx2 e2.symm
  have h3 := few (reps k2 n).length (idx k2 (reps k2 n) x :: (reps k1 n).map fun s => idx k2 (reps k2 n) s) (List.nodup_cons.2 ⟨h2, h1⟩) (by
    intro y hy
    rcases List.mem_cons.1 hy with rfl | hy
    · exact reps_has k2 hxn
    · obtain ⟨s, hs, rfl⟩ := List.mem_map.1 hy
      exact reps_has k2 (reps_lt k1 n s hs))
  rw [List.length_cons, List.length_map, hcount] at h3
  omega
end Go.Proofs.YtaimealknkhfbaaDoor.TidyClass
/- Plain facts on automata whose states are numbered in two ways: their classes, step by step, and what is made of them.
   Conditions: stated at each theorem. -/
namespace Go.Proofs.YtaimealknkhfbaaDoor.TidyAuto
set_option linter.unusedVariables false
set_option linter.unusedSimpArgs false
open TidyMath TidyClass

structure Au where
  n : Nat
  acc : Nat → Bool
  nx : Nat → List Nat

def sig (A : Au) (c : Nat → Nat) (s : Nat) : Nat × List Nat := (c s, (A.nx s).map c)
def cls (A : Au) : Nat → Nat → Nat
  | 0, s => if A.acc s then 1 else 0
  | j + 1, s => idx (sig A (cls A j)) (reps (sig A (cls A j)) A.n) s
def cn (A : Au) : Nat → Nat
  | 0 => 0
  | j + 1 => (reps (sig A (cls A j)) A.n).length

theorem cls_lt (A : Au) (j : Nat) {s : Nat} (h : s < A.n) : cls A (j + 1) s < cn A (j + 1) := reps_has _ h
theorem cls_iff (A : Au) (j : Nat) {s t : Nat} (h : s < A.n) : cls A (j + 1) s = cls A (j + 1) t ↔ sig A (cls A j) s = sig A (cls A j) t := num_iff _ h
theorem cls_finer (A : Au) (j : Nat) {s t : Nat} (h : s < A.n) (e : cls A (j + 1) s = cls A (j + 1) t) : cls A j s = cls A j t := by
  have := (cls_iff A j h).1 e
  exact congrArg Prod.fst this
theorem cn_le (A : Au) (j : Nat) : cn A j ≤ A.n := by
  cases j with
  | zero => exact Nat.zero_le _
  | succ j => exact reps_le _ _
theorem cn_mono (A : Au) (j : Nat) : cn A j ≤ cn A (j + 1) := by
  cases j with
  | zero => exact Nat.zero_le _
  | succ j => exact reps_le_of (sig A (cls A (j + 1))) (sig A (cls A j)) A.n A.n id (fun p h => h) (fun p q hp _ e => (cls_iff A j hp).1 (congrArg Prod.fst e))
theorem cn_mono' (A : Au) {i j : Nat} (h : i ≤ j) : cn A i ≤ cn A j := by
  obtain ⟨k, rfl⟩ : ∃ k, j = i + k := ⟨j - i, by omega⟩
  clear h
  induction k with
  | zero => exact Nat.le_refl _
  | succ k ih => exact Nat.le_trans ih (cn_mono A (i + k))

/-- The classes stop being refined at step j. -/
def Stops (A : Au) (j : Nat) : Prop := cn A (j + 1) = cn A j ∧ ∀ i, i < j → cn A (i + 1) ≠ cn A i
theorem Stops.unique {A : Au} {i j : Nat} (h : Stops A i) (k : Stops A j) : i = j := by
  rcases Nat.lt_trichotomy i j with h1 | h1 | h1
  · exact absurd h.1 (k.2 i h1)
  · exact h1
  · exact absurd k.1 (h.2 j h1)
theorem cn_grows (A : Au) (j : Nat) (h : ∀ i, i < j → cn A (i + 1) ≠ cn A i) : j ≤ cn A j := by
  induction j with
  | zero => exact Nat.zero_le _
  | succ j ih =>
    have h1 := ih fun i hi => h i (by omega)
    have h2 := h j (by omega)
    have h3 := cn_mono A j
    omega
theorem stops_exists (A : Au) : ∃ j, Stops A j := by
  apply Classical.byContradiction
  intro hn
  have : ∀ j, ∀ i, i < j → cn A (i + 1) ≠ cn A i := by
    intro j
    induction j with
    | zero => exact fun i h => absurd h (Nat.not_lt_zero i)
    | succ j ih =>
      intro i hi e
      by_cases hij : i < j
      · exact ih i hij e
      · obtain rfl : i = j := by omega
        exact hn ⟨i, e, ih⟩
  have h1 := cn_grows A (A.n + 1) (this _)
  have h2 := cn_le A (A.n + 1)
  omega
/-- The step at which they stop. -/
def stop (A : Au) : Nat := ((List.range (A.n + 1)).find? fun j => decide (cn A (j + 1) = cn A j)).getD 0
theorem stop_stops (A : Au) : Stops A (stop A) := by
  obtain ⟨j, hj⟩ := stops_exists A
  have hjn : j < A.n + 1 := by have := cn_grows A j hj.2; have := cn_le A j; omega
  have : (List.range (A.n + 1)).find? (fun j => decide (cn A (j + 1) = cn A j)) = some j := by
    rw [List.find?_range_eq_some]
    refine ⟨by simpa using hj.1, List.mem_range.2 hjn, fun i hi => by simpa using hj.2 i hi⟩
  unfold stop
  rw [this]
  exact hj
theorem stable (A : Au) {j : Nat} (hj : Stops A j) {s t : Nat} (hs : s < A.n) (ht : t < A.n) (e : cls A j s = cls A j t) : cls A (j + 1) s = cls A (j + 1) t := by
  cases j with
  | zero =>
    have h1 : cn A 1 = 0 := hj.1
    have h2 : 0 < cn A 1 := reps_pos _ (Nat.lt_of_le_of_lt (Nat.zero_le s) hs)
    omega
  | succ j =>
    rw [cls_iff A (j + 1) hs]
    refine same_classes (sig A (cls A j)) (sig A (cls A (j + 1))) A.n (fun p q hp _ e => (cls_iff A j hp).1 (congrArg Prod.fst e)) hj.1 hs ht ?_
    exact (cls_iff A j hs).1 e

/-! The classes that are met from state x0 on. -/
def sucs (A : Au) (s : Nat) : List (Option Nat) := (A.nx s).map some
def met (A : Au) (x0 : Nat) (i : Nat) : List Nat := bfs (cls A (stop A + 1)) (sucs A) x0 i
def most (A : Au) : Nat := cn A (stop A + 1)
def Fits (A : Au) (x0 : Nat) : Prop := x0 < A.n ∧ ∀ s, s < A.n → ∀ t ∈ A.nx s, t < A.n
theorem met_lt {A : Au} {x0 : Nat} (h : Fits A x0) (i : Nat) : ∀ x ∈ met A x0 i, x < A.n :=
  bfs_all _ _ _ (fun x => x < A.n) h.1 (fun x hx y hy => by
    obtain ⟨z, hz, e⟩ := List.mem_map.1 hy
    have e' := Option.some.inj e
    rw [← e']
    exact h.2 x hx z hz) i
theorem met_few {A : Au} {x0 : Nat} (h : Fits A x0) (i : Nat) : (met A x0 i).length ≤ most A :=
  dist_few _ (bfs_dist _ _ _ i) (cls A (stop A + 1)) _ (fun _ _ _ _ e => e) (fun x hx => cls_lt A _ (met_lt h i x hx))
def tid (A : Au) (x0 : Nat) : List Nat := met A x0 (most A)
def tidAcc (A : Au) (x0 : Nat) : List Bool := (tid A x0).map A.acc
def tidRow (A : Au) (x0 : Nat) (s : Nat) : List Int := (A.nx s).map fun t => ((idx (cls A (stop A + 1)) (tid A x0) t : Nat) : Int)
def tidNext (A : Au) (x0 : Nat) : List (List Int) := (tid A x0).map (tidRow A x0)

/-- If all states but one are reached, so are their classes. -/
theorem tid_many {A : Au} {x0 : Nat} (h : Fits A x0) (dead : Nat) (hr : ∀ s, s < A.n → s ≠ dead → s = x0 ∨ ∃ t, t < s ∧ t ≠ dead ∧ s ∈ A.nx t) : most A ≤ (tid A x0).length + 1 := by
  have hB := met_few h
  have hall : ∀ k s, s ≤ k → s < A.n → s ≠ dead → idx (cls A (stop A + 1)) (tid A x0) s < (tid A x0).length := by
    intro k
    induction k with
    | zero =>
      intro s hk hs hd
      rcases hr s hs hd with rfl | ⟨t, ht, -⟩
      · have hp : bfs (cls A (stop A + 1)) (sucs A) s 0 <+: tid A s := bfs_mono _ _ _ (Nat.zero_le _)
        exact idx_lt_of_mem _ (hp.subset (List.mem_singleton_self s)) rfl
      · omega
    | succ k ih =>
      intro s hk hs hd
      rcases hr s hs hd with rfl | ⟨t, ht, htd, hm⟩
      · have hp : bfs (cls A (stop A + 1)) (sucs A) s 0 <+: tid A s := bfs_mono _ _ _ (Nat.zero_le _)
        exact idx_lt_of_mem _ (hp.subset (List.mem_singleton_self s)) rfl
      · have hi := ih t (by omega) (by omega) htd
        obtain ⟨u, hu⟩ : ∃ u, u = (tid A x0)[idx (cls A (stop A + 1)) (tid A x0) t] := ⟨_, rfl⟩
        have huk : cls A (stop A + 1) u = cls A (stop A + 1) t := hu ▸ idx_key _ hi
        have hun := met_lt h (most A) u (hu ▸ List.getElem_mem hi)
        have hsig := (cls_iff A (stop A) hun).1 huk
        have hrow : (A.nx u).map (cls A (stop A)) = (A.nx t).map (cls A (stop A)) := congrArg Prod.snd hsig
        have hin : cls A (stop A) s ∈ (A.nx u).map (cls A (stop A)) := by rw [hrow]; exact List.mem_map_of_mem hm
        obtain ⟨v, hv, hve⟩ := List.mem_map.1 hin
        have hvn := h.2 u hun v hv
        have hvs := stable A (stop_stops A) hvn hs hve
        have hjb := end_before _ _ _ hB (i := idx (cls A (stop A + 1)) (tid A x0) t) hi
        have hget : (bfs (cls A (stop A + 1)) (sucs A) x0 (idx (cls A (stop A + 1)) (tid A x0) t))[idx (cls A (stop A + 1)) (tid A x0) t] = u := by
          rw [hu]
          exact (prefix_get (end_prefix _ _ _ hB _) hjb).symm
        have hjm : idx (cls A (stop A + 1)) (tid A x0) t < most A := Nat.lt_of_lt_of_le hi (hB _)
        have hf := bfs_found (cls A (stop A + 1)) (sucs A) x0 hjm hjb v (by rw [hget]; exact List.mem_map_of_mem hv)
        have : idx (cls A (stop A + 1)) (tid A x0) v = idx (cls A (stop A + 1)) (tid A x0) s := idx_congr _ hvs
        rw [← this]
        exact hf
  have hd := reps_dist (sig A (cls A (stop A))) A.n
  have hl := reps_lt (sig A (cls A (stop A))) A.n
  have h1 : ((reps (sig A (cls A (stop A))) A.n).filter fun s => decide (s ≠ dead)).length ≤ (tid A x0).length := by
    have hnd : (((reps (sig A (cls A (stop A))) A.n).filter fun s => decide (s ≠ dead)).map fun s => idx (cls A (stop A + 1)) (tid A x0) s).Nodup := by
      have hn0 : (reps (sig A (cls A (stop A))) A.n).Pairwise fun a b => sig A (cls A (stop A)) a ≠ sig A (cls A (stop A)) b := by
        rw [List.pairwise_iff_getElem]
        intro i j hi hj hij e
        have := hd i j hi hj e
        omega
      have hn1 : ((reps (sig A (cls A (stop A))) A.n).filter fun s => decide (s ≠ dead)).Pairwise fun a b => sig A (cls A (stop A)) a ≠ sig A (cls A (stop A)) b := hn0.filter _
      rw [List.nodup_iff_pairwise_ne, List.pairwise_map]
      refine List.Pairwise.imp_of_mem ?_ hn1
      intro a b ha hb hne e
      rw [List.mem_filter] at ha hb
      have ha' := hall a a (Nat.le_refl _) (hl a ha.1) (by simpa using ha.2)
      have e2 := key_of_idx _ ha' e
      exact hne ((cls_iff A (stop A) (hl a ha.1)).1 e2)
    have := few (tid A x0).length _ hnd (by
      intro y hy
      obtain ⟨s, hs, rfl⟩ := List.mem_map.1 hy
      rw [List.mem_filter] at hs
      exact hall s s (Nat.le_refl _) (hl s hs.1) (by simpa using hs.2))
    rwa [List.length_map] at this
  have h2 : (reps (sig A (cls A (stop A))) A.n).length ≤ ((reps (sig A (cls A (stop A))) A.n).filter fun s => decide (s ≠ dead)).length + 1 := by
    have hnn : (reps (sig A (cls A (stop A))) A.n).Nodup := by
      have := nodup_map _ hd (id : Nat → Nat) (fun x _ y _ e => by rw [show x = y from e])
      simpa using this
    have hc := List.length_eq_countP_add_countP (fun s => decide (s ≠ dead)) (l := reps (sig A (cls A (stop A))) A.n)
    rw [List.countP_eq_length_filter, List.countP_eq_length_filter] at hc
    have hcf : (reps (sig A (cls A (stop A))) A.n).filter (fun a => decide ¬decide (a ≠ dead) = true) = (reps (sig A (cls A (stop A))) A.n).filter fun s => !decide (s ≠ dead) := by
      congr 1; funext a; by_cases h : a = dead <;> simp [h]
    rw [hcf] at hc
    have hone : ((reps (sig A (cls A (stop A))) A.n).filter fun s => !decide (s ≠ dead)).length ≤ 1 := by
      have hnf := hnn.filter (fun s => !decide (s ≠ dead))
      have := few 1 (((reps (sig A (cls A (stop A))) A.n).filter fun s => !decide (s ≠ dead)).map fun s => s - dead) (by
        rw [List.nodup_iff_pairwise_ne, List.pairwise_map]
        refine List.Pairwise.imp_of_mem ?_ (List.nodup_iff_pairwise_ne.1 hnf)
        intro a b ha hb hne e
        rw [List.mem_filter] at ha hb
        simp at ha hb
        omega) (by
        intro y hy
        obtain ⟨s, hs, rfl⟩ := List.mem_map.1 hy
        rw [List.mem_filter] at hs
        simp at hs
        omega)
      rwa [List.length_map] at this
    omega
  have h3 : most A = (reps (sig A (cls A (stop A))) A.n).length := rfl
  omega

/-! TWO NUMBERINGS of one automaton's states. -/
structure Twin (A B : Au) (f g : Nat → Nat) : Prop where
  size : B.n = A.n
  fl : ∀ p, p < A.n → f p < A.n
  gl : ∀ s, s < A.n → g s < A.n
  fg : ∀ s, s < A.n → f (g s) = s
  gf : ∀ p, p < A.n → g (f p) = p
  acc : ∀ p, p < A.n → B.acc p = A.acc (f p)
  nx : ∀ p, p < A.n → B.nx p = (A.nx (f p)).map g
  nl : ∀ s, s < A.n → ∀ t ∈ A.nx s, t < A.n

theorem map_iff {c d : Nat → Nat} {l m : List Nat} (h : ∀ x ∈ l, ∀ y ∈ m, (c x = c y ↔ d x = d y)) : l.map c = m.map c ↔ l.map d = m.map d := by
  induction l generalizing m with
  | nil => cases m <;> simp
  | cons x r ih =>
    cases m with
    | nil => simp
    | cons y q =>
      rw [List.map_cons, List.map_cons, List.map_cons, List.map_cons, List.cons.injEq, List.cons.injEq, h x List.mem_cons_self y List.mem_cons_self,
        ih (m := q) (fun a ha b hb => h a (List.mem_cons_of_mem _ ha) b (List.mem_cons_of_mem _ hb))]

theorem Twin.cls {A B : Au} {f g : Nat → Nat} (h : Twin A B f g) (j : Nat) : ∀ p q, p < A.n → q < A.n → (cls B j p = cls B j q ↔ cls A j (f p) = cls A j (f q)) := by
  induction j with
  | zero => intro p q hp hq; simp only [TidyAuto.cls]; rw [h.acc p hp, h.acc q hq]
  | succ j ih =>
    intro p q hp hq
    rw [cls_iff B j (by rw [h.size]; exact hp), cls_iff A j (h.fl p hp)]
    unfold sig
    rw [Prod.mk.injEq, Prod.mk.injEq, ih p q hp hq, h.nx p hp, h.nx q hq, List.map_map, List.map_map]
    have : (A.nx (f p)).map (TidyAuto.cls B j ∘ g) = (A.nx (f q)).map (TidyAuto.cls B j ∘ g) ↔ (A.nx (f p)).map (TidyAuto.cls A j) = (A.nx (f q)).map (TidyAuto.cls A j) := by
      refine map_iff fun x hx y hy => ?_
      have hx' := h.nl _ (h.fl p hp) x hx
      have hy' := h.nl _ (h.fl q hq) y hy
      show TidyAuto.cls B j (g x) = TidyAuto.cls B j (g y) ↔ _
      rw [ih (g x) (g y) (h.gl x hx') (h.gl y hy'), h.fg x hx', h.fg y hy']
    rw [this]
theorem Twin.sig {A B : Au} {f g : Nat → Nat} (h : Twin A B f g) (j : Nat) {p q : Nat} (hp : p < A.n) (hq : q < A.n) : sig B (TidyAuto.cls B j) p = sig B (TidyAuto.cls B j) q ↔ sig A (TidyAuto.cls A j) (f p) = sig A (TidyAuto.cls A j) (f q) := by
  rw [← cls_iff B j (by rw [h.size]; exact hp), ← cls_iff A j (h.fl p hp)]
  exact h.cls (j + 1) p q hp hq
theorem Twin.cn {A B : Au} {f g : Nat → Nat} (h : Twin A B f g) (j : Nat) : cn B j = cn A j := by
  cases j with
  | zero => rfl
  | succ j =>
    have h1 : TidyAuto.cn B (j + 1) ≤ TidyAuto.cn A (j + 1) :=
      reps_le_of (TidyAuto.sig A (TidyAuto.cls A j)) (TidyAuto.sig B (TidyAuto.cls B j)) A.n B.n f (fun p hp => h.fl p (h.size ▸ hp)) (fun p q hp hq e => (h.sig j (h.size ▸ hp) (h.size ▸ hq)).2 e)
    have h2 : TidyAuto.cn A (j + 1) ≤ TidyAuto.cn B (j + 1) :=
      reps_le_of (TidyAuto.sig B (TidyAuto.cls B j)) (TidyAuto.sig A (TidyAuto.cls A j)) B.n A.n g (fun s hs => by rw [h.size]; exact h.gl s hs) (fun s t hs ht e => by
        have := (h.sig j (h.gl s hs) (h.gl t ht)).1 e
        rwa [h.fg s hs, h.fg t ht] at this)
    omega
theorem Twin.stop {A B : Au} {f g : Nat → Nat} (h : Twin A B f g) : stop B = stop A := by
  refine (stop_stops B).unique ?_
  have := stop_stops A
  exact ⟨by rw [h.cn, h.cn]; exact this.1, fun i hi => by rw [h.cn, h.cn]; exact this.2 i hi⟩

theorem findIdx_congr {α : Type} {p q : α → Bool} {l : List α} (h : ∀ x ∈ l, p x = q x) : l.findIdx p = l.findIdx q := by
  induction l with
  | nil => rfl
  | cons x r ih =>
    rw [List.findIdx_cons, List.findIdx_cons, h x List.mem_cons_self, ih fun y hy => h y (List.mem_cons_of_mem _ hy)]
theorem idx_map {A B : Au} {f g : Nat → Nat} (h : Twin A B f g) (j : Nat) {l : List Nat} (hl : ∀ x ∈ l, x < A.n) {x : Nat} (hx : x < A.n) :
    idx (cls B j) (l.map g) (g x) = idx (cls A j) l x := by
  unfold idx
  rw [List.findIdx_map]
  refine findIdx_congr fun y hy => ?_
  show decide (cls B j (g y) = cls B j (g x)) = decide (cls A j y = cls A j x)
  have := h.cls j (g y) (g x) (h.gl y (hl y hy)) (h.gl x hx)
  rw [h.fg y (hl y hy), h.fg x hx] at this
  exact decide_eq_decide.2 this
theorem meet_map {A B : Au} {f g : Nat → Nat} (h : Twin A B f g) (j : Nat) {l : List Nat} (hl : ∀ x ∈ l, x < A.n) {x : Nat} (hx : x < A.n) :
    meet (cls B j) (l.map g) (g x) = (meet (cls A j) l x).map g := by
  unfold meet
  rw [idx_map h j hl hx, List.length_map]
  split
  · rfl
  · rw [List.map_append]; rfl
theorem row_map {A B : Au} {f g : Nat → Nat} (h : Twin A B f g) (j : Nat) (xs : List Nat) (hxs : ∀ x ∈ xs, x < A.n) : ∀ {l : List Nat}, (∀ x ∈ l, x < A.n) →
    row (cls B j) (l.map g) ((xs.map g).map some) = (row (cls A j) l (xs.map some)).map g := by
  induction xs with
  | nil => intro l _; rfl
  | cons x r ih =>
    intro l hl
    show row (cls B j) (meet (cls B j) (l.map g) (g x)) ((r.map g).map some) = _
    rw [meet_map h j hl (hxs x List.mem_cons_self), ih (fun y hy => hxs y (List.mem_cons_of_mem _ hy))]
    · rfl
    · intro y hy
      unfold meet at hy
      split at hy
      · exact hl y hy
      · rcases List.mem_append.1 hy with hy | hy
        · exact hl y hy
        · rw [List.mem_singleton] at hy; subst hy; exact hxs y List.mem_cons_self
theorem Twin.met {A B : Au} {f g : Nat → Nat} (h : Twin A B f g) {x0 : Nat} (hx : x0 < A.n) (i : Nat) : met B (g x0) i = (met A x0 i).map g := by
  have hf : Fits A x0 := ⟨hx, h.nl⟩
  induction i with
  | zero => rfl
  | succ i ih =>
    unfold TidyAuto.met at ih ⊢
    have hl := met_lt hf i
    unfold TidyAuto.met at hl
    by_cases hi : i < (bfs (TidyAuto.cls A (TidyAuto.stop A + 1)) (sucs A) x0 i).length
    · have hi' : i < (bfs (TidyAuto.cls B (TidyAuto.stop B + 1)) (sucs B) (g x0) i).length := by rw [ih, List.length_map]; exact hi
      rw [bfs_succ _ _ _ hi, bfs_succ _ _ _ hi']
      have hgi : (bfs (TidyAuto.cls B (TidyAuto.stop B + 1)) (sucs B) (g x0) i)[i] = g (bfs (TidyAuto.cls A (TidyAuto.stop A + 1)) (sucs A) x0 i)[i] := by
        rw [List.getElem_of_eq ih hi', List.getElem_map]
      have hlt := hl _ (List.getElem_mem hi)
      obtain ⟨u, hu⟩ : ∃ u, u = (bfs (TidyAuto.cls A (TidyAuto.stop A + 1)) (sucs A) x0 i)[i] := ⟨_, rfl⟩
      rw [← hu] at hgi hlt ⊢
      rw [hgi, ih]
      have hB : sucs B (g u) = ((A.nx u).map g).map some := by
        show (B.nx (g u)).map some = _
        rw [h.nx _ (h.gl _ hlt), h.fg _ hlt]
      rw [hB, h.stop]
      exact row_map h _ _ (fun x hx => h.nl _ hlt x hx) hl
    · rw [bfs_stop (TidyAuto.cls A (TidyAuto.stop A + 1)) _ _ (by omega), bfs_stop (TidyAuto.cls B (TidyAuto.stop B + 1)) _ _ (by rw [ih, List.length_map]; omega), ih]
theorem Twin.most {A B : Au} {f g : Nat → Nat} (h : Twin A B f g) : most B = most A := by
  unfold TidyAuto.most; rw [h.stop, h.cn]
theorem Twin.tid {A B : Au} {f g : Nat → Nat} (h : Twin A B f g) {x0 : Nat} (hx : x0 < A.n) : tid B (g x0) = (tid A x0).map g := by
  unfold TidyAuto.tid; rw [h.most, h.met hx]
theorem Twin.tidAcc {A B : Au} {f g : Nat → Nat} (h : Twin A B f g) {x0 : Nat} (hx : x0 < A.n) : tidAcc B (g x0) = tidAcc A x0 := by
  unfold TidyAuto.tidAcc
  rw [h.tid hx, List.map_map]
  refine List.map_congr_left fun x hm => ?_
  have hlt := met_lt ⟨hx, h.nl⟩ _ x hm
  show B.acc (g x) = A.acc x
  rw [h.acc _ (h.gl x hlt), h.fg x hlt]
theorem Twin.tidNext {A B : Au} {f g : Nat → Nat} (h : Twin A B f g) {x0 : Nat} (hx : x0 < A.n) : tidNext B (g x0) = tidNext A x0 := by
  unfold TidyAuto.tidNext
  rw [h.tid hx, List.map_map]
  refine List.map_congr_left fun x hm => ?_
  have hlt := met_lt ⟨hx, h.nl⟩ _ x hm
  show tidRow B (g x0) (g x) = tidRow A x0 x
  unfold tidRow
  rw [h.nx _ (h.gl x hlt), h.fg x hlt, List.map_map]
  refine List.map_congr_left fun y hy => ?_
  have hyl := h.nl x hlt y hy
  show ((idx _ (TidyAuto.tid B (g x0)) (g y) : Nat) : Int) = _
  have hm := met_lt ⟨hx, h.nl⟩ (TidyAuto.most A)
  rw [h.tid hx, h.stop, idx_map h _ (l := TidyAuto.tid A x0) hm hyl]
end Go.Proofs.YtaimealknkhfbaaDoor.TidyAuto
