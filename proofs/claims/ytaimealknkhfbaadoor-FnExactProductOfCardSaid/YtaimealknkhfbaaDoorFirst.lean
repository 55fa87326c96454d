
/- Plain facts on the first list of letters that an automaton takes: where it is found among what is met.
   Conditions: stated at each theorem. -/
import Derived.Test.YtaimealknkhfbaaDoorRB1
namespace Go.Proofs.YtaimealknkhfbaaDoor.First
set_option linter.unusedVariables false
set_option linter.unusedSimpArgs false
set_option linter.unusedSectionVars false
open TidyMath TidyClass

/-- The number of a list of letters below k: shorter ones first, then in the order of the letters. -/
def nm (k : Nat) (p : List Nat) : Nat := p.foldl (fun n c => n * k + c + 1) 0
theorem nm_nil (k : Nat) : nm k [] = 0 := rfl
theorem nm_snoc (k : Nat) (p : List Nat) (c : Nat) : nm k (p ++ [c]) = nm k p * k + c + 1 := by unfold nm; rw [List.foldl_append]; rfl
/-- All letters are below k. -/
def Low (k : Nat) (p : List Nat) : Prop := ∀ c ∈ p, c < k
theorem Low.nil (k : Nat) : Low k [] := fun c hc => by cases hc
theorem Low.snoc {k : Nat} {p : List Nat} {c : Nat} (h : Low k p) (hc : c < k) : Low k (p ++ [c]) := fun x hx => by
  rcases List.mem_append.1 hx with hx | hx
  · exact h x hx
  · rw [List.mem_singleton] at hx; omega
theorem Low.head {k : Nat} {p : List Nat} {c : Nat} (h : Low k (p ++ [c])) : Low k p := fun x hx => h x (List.mem_append_left _ hx)
theorem Low.last {k : Nat} {p : List Nat} {c : Nat} (h : Low k (p ++ [c])) : c < k := h c (List.mem_append_right _ (List.mem_singleton_self c))
theorem snoc_ind {P : List Nat → Prop} (h0 : P []) (h1 : ∀ p c, P p → P (p ++ [c])) (p : List Nat) : P p := by
  have : ∀ n, ∀ p : List Nat, p.length = n → P p := by
    intro n
    induction n with
    | zero => intro p hp; rw [List.length_eq_zero_iff] at hp; exact hp ▸ h0
    | succ n ih =>
      intro p hp
      have hne : p ≠ [] := fun e => by rw [e] at hp; simp at hp
      rw [← List.dropLast_concat_getLast hne]
      exact h1 _ _ (ih _ (by rw [List.length_dropLast]; omega))
  exact this _ p rfl
theorem nm_inj {k : Nat} : ∀ p q : List Nat, Low k p → Low k q → nm k p = nm k q → p = q := by
  intro p
  refine snoc_ind (P := fun p => ∀ q, Low k p → Low k q → nm k p = nm k q → p = q) ?_ ?_ p
  · intro q
    refine snoc_ind (P := fun q => Low k [] → Low k q → nm k [] = nm k q → [] = q) (fun _ _ _ => rfl) ?_ q
    intro q c _ _ _ e
    rw [nm_snoc, nm_nil] at e
    omega
  · intro p c ih q
    refine snoc_ind (P := fun q => Low k (p ++ [c]) → Low k q → nm k (p ++ [c]) = nm k q → p ++ [c] = q) ?_ ?_ q
    · intro _ _ e
      rw [nm_snoc, nm_nil] at e
      omega
    · intro q d _ hp hq e
      rw [nm_snoc, nm_snoc] at e
      have hc := hp.last
      have hd := hq.last
      have h1 : nm k p * k + c = nm k q * k + d := by omega
      have e1 : c = d := by
        have := congrArg (· % k) h1
        simp only [Nat.mul_comm _ k, Nat.mul_add_mod] at this
        rwa [Nat.mod_eq_of_lt hc, Nat.mod_eq_of_lt hd] at this
      have e2 : nm k p = nm k q := by
        have := congrArg (· / k) h1
        simp only [Nat.mul_comm _ k] at this
        rw [Nat.mul_add_div (by omega), Nat.mul_add_div (by omega), Nat.div_eq_of_lt hc, Nat.div_eq_of_lt hd] at this
        omega
      rw [ih q hp.head hq.head e2, e1]

/-- The first list for which something holds. -/
structure Lst (k : Nat) (P : List Nat → Prop) (u : List Nat) : Prop where
  low : Low k u
  ok : P u
  least : ∀ v, Low k v → nm k v < nm k u → ¬ P v
theorem Lst.unique {k : Nat} {P : List Nat → Prop} {u v : List Nat} (h : Lst k P u) (h' : Lst k P v) : u = v := by
  refine nm_inj u v h.low h'.low ?_
  rcases Nat.lt_trichotomy (nm k u) (nm k v) with e | e | e
  · exact absurd h.ok (h'.least u h.low e)
  · exact e
  · exact absurd h'.ok (h.least v h'.low e)
theorem Lst.congr {k : Nat} {P Q : List Nat → Prop} (hPQ : ∀ p, Low k p → (P p ↔ Q p)) {u : List Nat} (h : Lst k P u) : Lst k Q u :=
  ⟨h.low, (hPQ u h.low).1 h.ok, fun v hv hl hq => h.least v hv hl ((hPQ v hv).2 hq)⟩

section Auto
variable {σ : Type} [DecidableEq σ] (d : σ → Nat → σ) (k : Nat) (s0 : σ)
/-- Where a list of letters leads. -/
def run (s : σ) (p : List Nat) : σ := p.foldl d s
theorem run_snoc (s : σ) (p : List Nat) (c : Nat) : run d s (p ++ [c]) = d (run d s p) c := by unfold run; rw [List.foldl_append]; rfl
/-- The states that are met, each with the list that leads to it first. -/
def nxt (x : σ × List Nat) : List (Option (σ × List Nat)) := (List.range k).map fun c => some (d x.1 c, x.2 ++ [c])
def seen (i : Nat) : List (σ × List Nat) := bfs Prod.fst (nxt d k) (s0, []) i
def mid (i c : Nat) : List (σ × List Nat) := part Prod.fst (nxt d k) (s0, []) i c
theorem nxt_length (x : σ × List Nat) : (nxt d k x).length = k := by simp [nxt]
theorem nxt_get (x : σ × List Nat) {c : Nat} (hc : c < k) : (nxt d k x)[c]'(by rw [nxt_length]; exact hc) = some (d x.1 c, x.2 ++ [c]) := by simp [nxt]
theorem mid_zero (i : Nat) : mid d k s0 i 0 = seen d k s0 i := part_zero _ _ _ i
theorem mid_step {i c : Nat} (h : i < (seen d k s0 i).length) (hc : c < k) : mid d k s0 i (c + 1) = meet Prod.fst (mid d k s0 i c) (d (seen d k s0 i)[i].1 c, (seen d k s0 i)[i].2 ++ [c]) := by
  have := part_step Prod.fst (nxt d k) (s0, []) (i := i) (c := c) h (by rw [nxt_length]; exact hc)
  rw [nxt_get d k _ hc] at this
  exact this
theorem mid_all {i : Nat} (h : i < (seen d k s0 i).length) : mid d k s0 i k = seen d k s0 (i + 1) := part_all _ _ _ h (by rw [nxt_length]; exact Nat.le_refl _)

/-- What holds of the list that is met. -/
structure Inv (l : List (σ × List Nat)) (b : Nat) : Prop where
  good : ∀ j (hj : j < l.length), run d s0 l[j].2 = l[j].1 ∧ Low k l[j].2
  up : ∀ i j (hi : i < l.length) (hj : j < l.length), i < j → nm k l[i].2 < nm k l[j].2
  top : ∀ j (hj : j < l.length), nm k l[j].2 ≤ b
theorem Inv.meet {l : List (σ × List Nat)} {b : Nat} (h : Inv d k s0 l b) {p : List Nat} {c : Nat} (hp : Low k p) (hc : c < k) (hb : nm k p * k + c = b) :
    Inv d k s0 (meet Prod.fst l (d (run d s0 p) c, p ++ [c])) (b + 1) := by
  unfold TidyMath.meet
  split
  · exact ⟨h.good, h.up, fun j hj => Nat.le_succ_of_le (h.top j hj)⟩
  · have hn : nm k (p ++ [c]) = b + 1 := by rw [nm_snoc, hb]
    refine ⟨fun j hj => ?_, fun i j hi hj hij => ?_, fun j hj => ?_⟩
    · rw [List.length_append] at hj
      by_cases hl : j < l.length
      · rw [List.getElem_append_left hl]; exact h.good j hl
      · have e : (l ++ [(d (run d s0 p) c, p ++ [c])])[j] = (d (run d s0 p) c, p ++ [c]) := by
          rw [List.getElem_append_right (by omega)]; simp
        rw [e]
        exact ⟨run_snoc d s0 p c, hp.snoc hc⟩
    · rw [List.length_append] at hi hj
      simp at hi hj
      by_cases hl : j < l.length
      · rw [List.getElem_append_left hl, List.getElem_append_left (by omega)]; exact h.up i j (by omega) hl hij
      · have e : (l ++ [(d (run d s0 p) c, p ++ [c])])[j] = (d (run d s0 p) c, p ++ [c]) := by
          rw [List.getElem_append_right (by omega)]; simp
        have hil : i < l.length := by omega
        rw [e, List.getElem_append_left hil]
        show nm k l[i].2 < nm k (p ++ [c])
        have := h.top i hil
        omega
    · rw [List.length_append] at hj
      simp at hj
      by_cases hl : j < l.length
      · rw [List.getElem_append_left hl]; have := h.top j hl; omega
      · have e : (l ++ [(d (run d s0 p) c, p ++ [c])])[j] = (d (run d s0 p) c, p ++ [c]) := by
          rw [List.getElem_append_right (by omega)]; simp
        rw [e]
        show nm k (p ++ [c]) ≤ b + 1
        omega
theorem inv_mid {i : Nat} (h : i < (seen d k s0 i).length) (hi : Inv d k s0 (seen d k s0 i) (nm k (seen d k s0 i)[i].2 * k)) : ∀ c, c ≤ k → Inv d k s0 (mid d k s0 i c) (nm k (seen d k s0 i)[i].2 * k + c) := by
  intro c
  induction c with
  | zero => intro _; rw [mid_zero]; exact hi
  | succ c ih =>
    intro hc
    rw [mid_step d k s0 h (by omega)]
    obtain ⟨h1, h2⟩ := hi.good i h
    have := Inv.meet d k s0 (ih (by omega)) (p := (seen d k s0 i)[i].2) (c := c) h2 (by omega) rfl
    rw [h1] at this
    exact this
theorem inv_seen (i : Nat) : ∃ b, Inv d k s0 (seen d k s0 i) b ∧ ∀ (h : i < (seen d k s0 i).length), b ≤ nm k (seen d k s0 i)[i].2 * k := by
  induction i with
  | zero =>
    refine ⟨0, ⟨fun j hj => ?_, fun i j hi hj hij => ?_, fun j hj => ?_⟩, fun _ => Nat.zero_le _⟩
    · have hj' : j < 1 := hj
      obtain rfl : j = 0 := by omega
      exact ⟨rfl, Low.nil k⟩
    · have hj' : j < 1 := hj
      omega
    · have hj' : j < 1 := hj
      obtain rfl : j = 0 := by omega
      exact Nat.le_refl _
  | succ i ih =>
    obtain ⟨b, hb, hle⟩ := ih
    by_cases h : i < (seen d k s0 i).length
    · have h1 : Inv d k s0 (seen d k s0 i) (nm k (seen d k s0 i)[i].2 * k) := ⟨hb.good, hb.up, fun j hj => Nat.le_trans (hb.top j hj) (hle h)⟩
      have h2 := inv_mid d k s0 h h1 k (Nat.le_refl _)
      rw [mid_all d k s0 h] at h2
      refine ⟨_, h2, fun hn => ?_⟩
      have hp : seen d k s0 i <+: seen d k s0 (i + 1) := bfs_step _ _ _ i
      have h3 := h2.up i (i + 1) (by omega) hn (Nat.lt_succ_self i)
      have e : (seen d k s0 (i + 1))[i]'(by omega) = (seen d k s0 i)[i] := prefix_get hp h
      rw [e] at h3
      have : (nm k (seen d k s0 i)[i].2 + 1) * k ≤ nm k (seen d k s0 (i + 1))[i + 1].2 * k := Nat.mul_le_mul_right k h3
      rw [Nat.add_mul] at this
      omega
    · have e : seen d k s0 (i + 1) = seen d k s0 i := bfs_stop _ _ _ (by unfold seen at h; omega)
      rw [e]
      exact ⟨b, hb, fun hn => absurd (Nat.lt_of_succ_lt hn) h⟩
/-- Whatever is behind a state that has been looked at is met, by a list that comes no later. -/
theorem found (i : Nat) : ∀ j, j < i → ∀ (hj : j < (seen d k s0 i).length) c, c < k → ∃ m, ∃ hm : m < (seen d k s0 i).length, (seen d k s0 i)[m].1 = d (seen d k s0 i)[j].1 c ∧ nm k (seen d k s0 i)[m].2 ≤ nm k (seen d k s0 i)[j].2 * k + c + 1 := by
  induction i with
  | zero => intro j h; omega
  | succ i ih =>
    intro j hji hj c hc
    have hp : seen d k s0 i <+: seen d k s0 (i + 1) := bfs_step _ _ _ i
    by_cases h : i < (seen d k s0 i).length
    · by_cases hji' : j < i
      · have hj' : j < (seen d k s0 i).length := by omega
        obtain ⟨m, hm, h1, h2⟩ := ih j hji' hj' c hc
        refine ⟨m, Nat.lt_of_lt_of_le hm hp.length_le, ?_⟩
        rw [prefix_get hp hm, prefix_get hp hj']
        exact ⟨h1, h2⟩
      · obtain rfl : j = i := by omega
        obtain ⟨b, hb, hle⟩ := inv_seen d k s0 j
        have h1 : Inv d k s0 (seen d k s0 j) (nm k (seen d k s0 j)[j].2 * k) := ⟨hb.good, hb.up, fun j hj => Nat.le_trans (hb.top j hj) (hle h)⟩
        have h2 := inv_mid d k s0 h h1 (c + 1) (by omega)
        have h5 : ∃ m, ∃ hm : m < (meet Prod.fst (mid d k s0 j c) (d (seen d k s0 j)[j].1 c, (seen d k s0 j)[j].2 ++ [c])).length, (meet Prod.fst (mid d k s0 j c) (d (seen d k s0 j)[j].1 c, (seen d k s0 j)[j].2 ++ [c]))[m].1 = d (seen d k s0 j)[j].1 c :=
          ⟨_, meet_lt Prod.fst _ _, idx_key Prod.fst (meet_lt Prod.fst _ _)⟩
        rw [← mid_step d k s0 h hc] at h5
        obtain ⟨m, h3, h4⟩ := h5
        have hq : mid d k s0 j (c + 1) <+: seen d k s0 (j + 1) := by
          rw [← mid_all d k s0 h]
          unfold mid
          rw [part_eq _ _ _ h, part_eq _ _ _ h]
          exact row_take_prefix _ _ _ hc
        refine ⟨_, Nat.lt_of_lt_of_le h3 hq.length_le, ?_⟩
        rw [prefix_get hq h3, prefix_get hp h]
        exact ⟨h4, h2.top _ h3⟩
    · have e : seen d k s0 (i + 1) = seen d k s0 i := bfs_stop _ _ _ (by unfold seen at h; omega)
      have hji' : j < i := by rw [e] at hj; omega
      have hj' : j < (seen d k s0 i).length := by rw [e] at hj; exact hj
      obtain ⟨m, hm, h1, h2⟩ := ih j hji' hj' c hc
      refine ⟨m, Nat.lt_of_lt_of_le hm hp.length_le, ?_⟩
      rw [prefix_get hp hm, prefix_get hp hj']
      exact ⟨h1, h2⟩
/-- Lists that come before the next one lead to states that have been looked at. -/
theorem early (i : Nat) (u : List Nat) : Low k u → (∀ (h : i < (seen d k s0 i).length), nm k u < nm k (seen d k s0 i)[i].2) → ∃ j, j < i ∧ ∃ hj : j < (seen d k s0 i).length, run d s0 u = (seen d k s0 i)[j].1 ∧ nm k (seen d k s0 i)[j].2 ≤ nm k u := by
  have hpos : 0 < (seen d k s0 i).length := bfs_pos _ _ _ i
  have h0 : (seen d k s0 i)[0] = (s0, []) := by
    have hp : seen d k s0 0 <+: seen d k s0 i := bfs_mono _ _ _ (Nat.zero_le _)
    exact prefix_get hp (show 0 < (seen d k s0 0).length from Nat.one_pos)
  obtain ⟨b, hb, -⟩ := inv_seen d k s0 i
  have hlt : ∀ m (hm : m < (seen d k s0 i).length) v, (∀ (h : i < (seen d k s0 i).length), nm k v < nm k (seen d k s0 i)[i].2) → nm k (seen d k s0 i)[m].2 ≤ nm k v → m < i := by
    intro m hm v hv hle
    apply Decidable.byContradiction
    intro hn
    have hil : i < (seen d k s0 i).length := by omega
    have h1 := hv hil
    by_cases e : m = i
    · subst e; omega
    · have := hb.up i m hil hm (by omega)
      omega
  refine snoc_ind (P := fun u => Low k u → (∀ (h : i < (seen d k s0 i).length), nm k u < nm k (seen d k s0 i)[i].2) → ∃ j, j < i ∧ ∃ hj : j < (seen d k s0 i).length, run d s0 u = (seen d k s0 i)[j].1 ∧ nm k (seen d k s0 i)[j].2 ≤ nm k u) ?_ ?_ u
  · intro _ hu
    have hle : nm k (seen d k s0 i)[0].2 ≤ nm k [] := by rw [h0]; exact Nat.le_refl _
    exact ⟨0, hlt 0 hpos [] hu hle, hpos, by rw [h0]; rfl, hle⟩
  · intro u c ih hl hu
    have hc := hl.last
    have hnu : nm k u < nm k (u ++ [c]) := by
      rw [nm_snoc]
      have : nm k u * 1 ≤ nm k u * k := Nat.mul_le_mul_left _ (by omega)
      omega
    obtain ⟨j, hji, hj, e, hle⟩ := ih hl.head (fun h => Nat.lt_trans hnu (hu h))
    obtain ⟨m, hm, e1, h1⟩ := found d k s0 i j hji hj c hc
    have h2 : nm k (seen d k s0 i)[m].2 ≤ nm k (u ++ [c]) := by
      rw [nm_snoc]
      have : nm k (seen d k s0 i)[j].2 * k ≤ nm k u * k := Nat.mul_le_mul_right k hle
      omega
    refine ⟨m, hlt m hm _ hu h2, hm, ?_, h2⟩
    rw [run_snoc, e, e1]

variable (f : σ → Bool)
/-- The first state of those that are met, in their order, that is accepting tells the first list. -/
theorem first_some {i : Nat} (h : i < (seen d k s0 i).length) (hn : ∀ j (hj : j < i), f (seen d k s0 i)[j].1 = false) (hy : f (seen d k s0 i)[i].1 = true) : Lst k (fun p => f (run d s0 p) = true) (seen d k s0 i)[i].2 := by
  obtain ⟨b, hb, -⟩ := inv_seen d k s0 i
  obtain ⟨h1, h2⟩ := hb.good i h
  refine ⟨h2, by show f (run d s0 _) = true; rw [h1]; exact hy, fun v hv hl hf => ?_⟩
  obtain ⟨j, hji, hj, e, -⟩ := early d k s0 i v hv (fun _ => hl)
  have hf : f (run d s0 v) = true := hf
  rw [e, hn j hji] at hf
  cases hf
theorem first_none {i : Nat} (h : (seen d k s0 i).length ≤ i) (hn : ∀ j (hj : j < (seen d k s0 i).length), f (seen d k s0 i)[j].1 = false) : ∀ p, Low k p → ¬ f (run d s0 p) = true := by
  intro p hp hf
  obtain ⟨j, hji, hj, e, -⟩ := early d k s0 i p hp (fun h' => absurd h' (by omega))
  rw [e, hn j hj] at hf
  cases hf
end Auto
end Go.Proofs.YtaimealknkhfbaaDoor.First
