
/- Plain facts on lists of things that are met one behind the other, each with a key, and on the classes of keys.
   Conditions: stated at each theorem. -/
namespace Go.Proofs.YthebmpdkiocbmaaDoor.TidyMath
set_option linter.unusedVariables false
set_option linter.unusedSimpArgs false

section Plain
variable {α κ : Type} (key : α → κ)
/-- No two things have the same key. -/
def Dist (l : List α) : Prop := ∀ i j (hi : i < l.length) (hj : j < l.length), key l[i] = key l[j] → i = j

theorem dist_nil : Dist key ([] : List α) := fun i j hi => absurd hi (Nat.not_lt_zero i)

theorem dist_one (x : α) : Dist key [x] := fun i j hi hj _ => by simp at hi hj; omega

theorem nodup_map {l : List α} (h : Dist key l) (f : α → Nat) (hf : ∀ x ∈ l, ∀ y ∈ l, f x = f y → key x = key y) : (l.map f).Nodup := by
  rw [List.nodup_iff_pairwise_ne, List.pairwise_iff_getElem]
  intro i j hi hj hij e
  rw [List.length_map] at hi hj
  simp only [List.getElem_map] at e
  have := h i j hi hj (hf _ (List.getElem_mem hi) _ (List.getElem_mem hj) e)
  omega

/-- Different numbers below n are at most n. -/
theorem few : ∀ (n : Nat) (l : List Nat), l.Nodup → (∀ x ∈ l, x < n) → l.length ≤ n
  | 0, l, _, h => by
    cases l with
    | nil => exact Nat.le_refl _
    | cons a t => exact absurd (h a (List.mem_cons_self)) (Nat.not_lt_zero a)
  | n + 1, l, hd, h => by
    have h1 : (l.erase n).Nodup := hd.erase n
    have h2 : ∀ x ∈ l.erase n, x < n := by
      intro x hx
      have hx' := (List.Nodup.mem_erase_iff hd).1 hx
      have := h x hx'.2
      have := hx'.1
      omega
    have h3 := few n _ h1 h2
    by_cases hm : n ∈ l
    · rw [List.length_erase_of_mem hm] at h3; omega
    · rw [List.erase_of_not_mem hm] at h3; omega

theorem dist_few {l : List α} (h : Dist key l) (f : α → Nat) (n : Nat) (hf : ∀ x ∈ l, ∀ y ∈ l, f x = f y → key x = key y) (hb : ∀ x ∈ l, f x < n) : l.length ≤ n := by
  have := few n (l.map f) (nodup_map key h f hf) (by intro x hx; obtain ⟨y, hy, rfl⟩ := List.mem_map.1 hx; exact hb y hy)
  rwa [List.length_map] at this
end Plain

section Meet
variable {α κ : Type} [DecidableEq κ] (key : α → κ)

/-- Where a thing with the key of x stands first; the length, if there is none. -/
def idx (l : List α) (x : α) : Nat := l.findIdx fun y => decide (key y = key x)
def meet (l : List α) (x : α) : List α := if idx key l x < l.length then l else l ++ [x]

theorem idx_le (l : List α) (x : α) : idx key l x ≤ l.length := List.findIdx_le_length

theorem idx_append {l m : List α} {x : α} (h : idx key l x < l.length) : idx key (l ++ m) x = idx key l x := by
  unfold idx at h ⊢
  rw [List.findIdx_append, if_pos h]

theorem idx_snoc (l : List α) (x : α) : idx key (l ++ [x]) x = idx key l x := by
  by_cases h : idx key l x < l.length
  · exact idx_append key h
  · have e : idx key l x = l.length := by have := idx_le key l x; omega
    unfold idx at h e ⊢
    rw [List.findIdx_append, if_neg h, e]
    simp [List.findIdx_cons]

theorem idx_meet (l : List α) (x : α) : idx key (meet key l x) x = idx key l x := by
  unfold meet
  by_cases h : idx key l x < l.length
  · rw [if_pos h]
  · rw [if_neg h]; exact idx_snoc key l x

theorem meet_lt (l : List α) (x : α) : idx key (meet key l x) x < (meet key l x).length := by
  rw [idx_meet]
  unfold meet
  by_cases h : idx key l x < l.length
  · rw [if_pos h]; exact h
  · rw [if_neg h]; have := idx_le key l x; rw [List.length_append]; simp; omega

theorem meet_prefix (l : List α) (x : α) : l <+: meet key l x := by
  unfold meet
  by_cases h : idx key l x < l.length
  · rw [if_pos h]; exact List.prefix_refl l
  · rw [if_neg h]; exact List.prefix_append l [x]

theorem idx_prefix {l m : List α} {x : α} (hp : l <+: m) (h : idx key l x < l.length) : idx key m x = idx key l x := by
  obtain ⟨t, rfl⟩ := hp
  exact idx_append key h

theorem idx_lt_prefix {l m : List α} {x : α} (hp : l <+: m) (h : idx key l x < l.length) : idx key m x < m.length := by
  rw [idx_prefix key hp h]; exact Nat.lt_of_lt_of_le h hp.length_le

theorem idx_key {l : List α} {x : α} (h : idx key l x < l.length) : key (l[idx key l x]) = key x := by
  have := List.findIdx_getElem (p := fun y => decide (key y = key x)) (xs := l) (w := h)
  exact of_decide_eq_true this

theorem idx_congr {l : List α} {x y : α} (h : key x = key y) : idx key l x = idx key l y := by
  unfold idx; rw [h]

/-- Things with the same place have the same key. -/
theorem key_of_idx {l : List α} {x y : α} (hx : idx key l x < l.length) (h : idx key l x = idx key l y) : key x = key y := by
  have h1 := idx_key key hx
  have h2 := idx_key key (l := l) (x := y) (h ▸ hx)
  rw [← h1, ← h2]
  congr 1
  exact getElem_congr_idx h

theorem idx_none {l : List α} {x : α} (h : ¬ idx key l x < l.length) {i : Nat} (hi : i < l.length) : key l[i] ≠ key x := by
  intro e
  have h1 : idx key l x = l.length := by have := idx_le key l x; omega
  have := List.findIdx_eq_length.1 h1 l[i] (List.getElem_mem hi)
  simp at this
  exact this e

theorem dist_meet {l : List α} (h : Dist key l) (x : α) : Dist key (meet key l x) := by
  unfold meet
  by_cases hx : idx key l x < l.length
  · rw [if_pos hx]; exact h
  · rw [if_neg hx]
    intro i j hi hj e
    rw [List.length_append] at hi hj
    simp at hi hj
    by_cases h1 : i < l.length
    · by_cases h2 : j < l.length
      · rw [List.getElem_append_left h1, List.getElem_append_left h2] at e
        exact h i j h1 h2 e
      · rw [List.getElem_append_left h1, List.getElem_append_right (by omega)] at e
        simp at e
        exact absurd e (idx_none key hx h1)
    · by_cases h2 : j < l.length
      · rw [List.getElem_append_right (by omega), List.getElem_append_left h2] at e
        simp at e
        exact absurd e.symm (idx_none key hx h2)
      · omega

theorem idx_self {l : List α} (h : Dist key l) {i : Nat} (hi : i < l.length) : idx key l l[i] = i := by
  have h1 : idx key l l[i] < l.length := by
    apply Decidable.byContradiction
    intro hn
    exact idx_none key hn hi rfl
  exact h _ _ h1 hi (idx_key key h1)

theorem idx_lt_of_mem {l : List α} {x y : α} (hy : y ∈ l) (e : key y = key x) : idx key l x < l.length := by
  apply Decidable.byContradiction
  intro hn
  obtain ⟨i, hi, rfl⟩ := List.getElem_of_mem hy
  exact idx_none key hn hi e

/-! A row of things that are met, some of which are none. -/
def meetO (l : List α) : Option α → List α
  | none => l
  | some x => meet key l x
def row (l : List α) (xs : List (Option α)) : List α := xs.foldl (meetO key) l

theorem meetO_prefix (l : List α) (x : Option α) : l <+: meetO key l x := by
  cases x with
  | none => exact List.prefix_refl l
  | some x => exact meet_prefix key l x
theorem dist_meetO {l : List α} (h : Dist key l) (x : Option α) : Dist key (meetO key l x) := by
  cases x with
  | none => exact h
  | some x => exact dist_meet key h x
theorem row_prefix (xs : List (Option α)) : ∀ l : List α, l <+: row key l xs := by
  induction xs with
  | nil => exact fun l => List.prefix_refl l
  | cons x r ih => exact fun l => (meetO_prefix key l x).trans (ih _)
theorem dist_row (xs : List (Option α)) : ∀ {l : List α}, Dist key l → Dist key (row key l xs) := by
  induction xs with
  | nil => exact fun h => h
  | cons x r ih => exact fun h => ih (dist_meetO key h x)
theorem row_take (l : List α) (xs : List (Option α)) (c : Nat) (hc : c < xs.length) : row key l (xs.take (c + 1)) = meetO key (row key l (xs.take c)) xs[c] := by
  unfold row
  rw [List.take_succ_eq_append_getElem hc, List.foldl_append]; rfl
theorem row_take_prefix (l : List α) (xs : List (Option α)) {c d : Nat} (h : c ≤ d) : row key l (xs.take c) <+: row key l (xs.take d) := by
  have : xs.take d = xs.take c ++ (xs.drop c).take (d - c) := by
    rw [← List.take_append_drop c (xs.take d), List.take_take, Nat.min_eq_left h, List.drop_take]
  rw [this]
  unfold row
  rw [List.foldl_append]
  exact row_prefix key _ _
theorem row_mem (xs : List (Option α)) : ∀ (l : List α) (y : α), y ∈ row key l xs → y ∈ l ∨ some y ∈ xs := by
  induction xs with
  | nil => exact fun l y h => .inl h
  | cons x r ih =>
    intro l y h
    rcases ih _ y h with h | h
    · cases x with
      | none => exact .inl h
      | some x =>
        have h : y ∈ meet key l x := h
        unfold meet at h
        by_cases hx : idx key l x < l.length
        · rw [if_pos hx] at h; exact .inl h
        · rw [if_neg hx] at h
          rcases List.mem_append.1 h with h | h
          · exact .inl h
          · rw [List.mem_singleton] at h; subst h; exact .inr (List.mem_cons_self)
    · exact .inr (List.mem_cons_of_mem _ h)
theorem row_has (xs : List (Option α)) : ∀ (l : List α) (x : α), some x ∈ xs → idx key (row key l xs) x < (row key l xs).length := by
  induction xs with
  | nil => exact fun l x h => by cases h
  | cons y r ih =>
    intro l x h
    rcases List.mem_cons.1 h with h | h
    · subst h
      exact idx_lt_prefix key (row_prefix key r _) (meet_lt key l x)
    · exact ih _ x h

/-! All that is met from one thing on. -/
variable (succ : α → List (Option α)) (x0 : α)
def bfs : Nat → List α
  | 0 => [x0]
  | i + 1 => match (bfs i)[i]? with
    | some x => row key (bfs i) (succ x)
    | none => bfs i

theorem bfs_succ {i : Nat} (h : i < (bfs key succ x0 i).length) : bfs key succ x0 (i + 1) = row key (bfs key succ x0 i) (succ (bfs key succ x0 i)[i]) := by
  rw [bfs, List.getElem?_eq_getElem h]
theorem bfs_stop {i : Nat} (h : (bfs key succ x0 i).length ≤ i) : bfs key succ x0 (i + 1) = bfs key succ x0 i := by
  rw [bfs, List.getElem?_eq_none h]
theorem bfs_step (i : Nat) : bfs key succ x0 i <+: bfs key succ x0 (i + 1) := by
  by_cases h : i < (bfs key succ x0 i).length
  · rw [bfs_succ key succ x0 h]; exact row_prefix key _ _
  · rw [bfs_stop key succ x0 (by omega)]; exact List.prefix_refl _
theorem bfs_prefix (i k : Nat) : bfs key succ x0 i <+: bfs key succ x0 (i + k) := by
  induction k with
  | zero => exact List.prefix_refl _
  | succ k ih => exact ih.trans (bfs_step key succ x0 (i + k))
theorem bfs_mono {i j : Nat} (h : i ≤ j) : bfs key succ x0 i <+: bfs key succ x0 j := by
  have := bfs_prefix key succ x0 i (j - i)
  rwa [Nat.add_sub_cancel' h] at this
theorem bfs_stay {i : Nat} (h : (bfs key succ x0 i).length ≤ i) : ∀ k, bfs key succ x0 (i + k) = bfs key succ x0 i := by
  intro k
  induction k with
  | zero => rfl
  | succ k ih => rw [← Nat.add_assoc, bfs_stop key succ x0 (by rw [ih]; omega), ih]
theorem bfs_end {i j : Nat} (h : (bfs key succ x0 i).length ≤ i) (hj : i ≤ j) : bfs key succ x0 j = bfs key succ x0 i := by
  have := bfs_stay key succ x0 h (j - i)
  rwa [Nat.add_sub_cancel' hj] at this
theorem bfs_dist (i : Nat) : Dist key (bfs key succ x0 i) := by
  induction i with
  | zero => exact dist_one key x0
  | succ i ih =>
    by_cases h : i < (bfs key succ x0 i).length
    · rw [bfs_succ key succ x0 h]; exact dist_row key _ ih
    · rw [bfs_stop key succ x0 (by omega)]; exact ih
theorem bfs_pos (i : Nat) : 0 < (bfs key succ x0 i).length := by
  have := (bfs_mono key succ x0 (Nat.zero_le i)).length_le
  exact Nat.lt_of_lt_of_le Nat.one_pos this
theorem bfs_all (D : α → Prop) (h0 : D x0) (hs : ∀ x, D x → ∀ y, some y ∈ succ x → D y) (i : Nat) : ∀ x ∈ bfs key succ x0 i, D x := by
  induction i with
  | zero => intro x hx; rw [bfs, List.mem_singleton] at hx; exact hx ▸ h0
  | succ i ih =>
    intro x hx
    by_cases h : i < (bfs key succ x0 i).length
    · rw [bfs_succ key succ x0 h] at hx
      rcases row_mem key _ _ _ hx with hx | hx
      · exact ih x hx
      · exact hs _ (ih _ (List.getElem_mem h)) x hx
    · rw [bfs_stop key succ x0 (by omega)] at hx; exact ih x hx
end Meet
end Go.Proofs.YthebmpdkiocbmaaDoor.TidyMath
