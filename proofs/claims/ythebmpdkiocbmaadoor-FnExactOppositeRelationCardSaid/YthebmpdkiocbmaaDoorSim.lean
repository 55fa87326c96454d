
/- Two automata whose states take the same lists of columns step by step have the same tidy automaton.
   Conditions: stated at each theorem. -/
import Derived.Test.YthebmpdkiocbmaaDoorTidyRight
namespace Go.Proofs.YthebmpdkiocbmaaDoor.Sim
set_option linter.unusedVariables false
set_option linter.unusedSimpArgs false
open TidyMath TidyClass TidyAuto TidyRight

/-- Two lists whose elements stand in a relation, one by one. -/
def P2 {α β : Type} (R : α → β → Prop) : List α → List β → Prop
  | [], [] => True
  | x :: l, y :: m => R x y ∧ P2 R l m
  | _, _ => False
section
variable {α β γ : Type} {R : α → β → Prop}
theorem P2.length {l : List α} {m : List β} (h : P2 R l m) : l.length = m.length := by
  induction l generalizing m with
  | nil => cases m with
    | nil => rfl
    | cons y q => exact h.elim
  | cons x r ih => cases m with
    | nil => exact h.elim
    | cons y q => rw [List.length_cons, List.length_cons, ih h.2]
theorem P2.get {l : List α} {m : List β} (h : P2 R l m) (i : Nat) (hi : i < l.length) (hj : i < m.length) : R l[i] m[i] := by
  induction l generalizing m i with
  | nil => exact absurd hi (Nat.not_lt_zero i)
  | cons x r ih => cases m with
    | nil => exact h.elim
    | cons y q =>
      cases i with
      | zero => exact h.1
      | succ i => exact ih h.2 i (by simpa using hi) (by simpa using hj)
theorem P2.snoc {l : List α} {m : List β} (h : P2 R l m) {x : α} {y : β} (hxy : R x y) : P2 R (l ++ [x]) (m ++ [y]) := by
  induction l generalizing m with
  | nil => cases m with
    | nil => exact ⟨hxy, trivial⟩
    | cons y q => exact h.elim
  | cons z r ih => cases m with
    | nil => exact h.elim
    | cons y q => exact ⟨h.1, ih h.2⟩
theorem P2.map_eq {l : List α} {m : List β} (h : P2 R l m) {f : α → γ} {g : β → γ} (hfg : ∀ x y, R x y → f x = g y) : l.map f = m.map g := by
  induction l generalizing m with
  | nil => cases m with
    | nil => rfl
    | cons y q => exact h.elim
  | cons z r ih => cases m with
    | nil => exact h.elim
    | cons y q => rw [List.map_cons, List.map_cons, hfg _ _ h.1, ih h.2]
theorem P2.mono {S : α → β → Prop} {l : List α} {m : List β} (h : P2 R l m) (hs : ∀ x y, R x y → S x y) : P2 S l m := by
  induction l generalizing m with
  | nil => cases m with
    | nil => trivial
    | cons y q => exact h.elim
  | cons z r ih => cases m with
    | nil => exact h.elim
    | cons y q => exact ⟨hs _ _ h.1, ih h.2⟩
theorem P2.of_get {l : List α} {m : List β} (hl : l.length = m.length) (h : ∀ i (hi : i < l.length) (hj : i < m.length), R l[i] m[i]) : P2 R l m := by
  induction l generalizing m with
  | nil => cases m with
    | nil => trivial
    | cons y q => simp at hl
  | cons z r ih => cases m with
    | nil => simp at hl
    | cons y q =>
      refine ⟨h 0 (by simp) (by simp), ih (by simpa using hl) fun i hi hj => ?_⟩
      exact h (i + 1) (by simpa using hi) (by simpa using hj)
theorem P2.iff {c : α → γ} {d : β → γ} {l l' : List α} {m m' : List β} (h : P2 R l m) (h' : P2 R l' m') (hc : ∀ x y x' y', R x y → R x' y' → (c x = c x' ↔ d y = d y')) : l.map c = l'.map c ↔ m.map d = m'.map d := by
  induction l generalizing m l' m' with
  | nil => cases m with
    | nil => cases l' with
      | nil => cases m' with
        | nil => exact Iff.rfl
        | cons y q => exact h'.elim
      | cons x r => cases m' with
        | nil => exact h'.elim
        | cons y q => simp
    | cons y q => exact h.elim
  | cons x r ih => cases m with
    | nil => exact h.elim
    | cons y q => cases l' with
      | nil => cases m' with
        | nil => simp
        | cons y q => exact h'.elim
      | cons x' r' => cases m' with
        | nil => exact h'.elim
        | cons y' q' =>
          rw [List.map_cons, List.map_cons, List.map_cons, List.map_cons, List.cons.injEq, List.cons.injEq, hc _ _ _ _ h.1 h'.1, ih h.2 h'.2]
end

/-- The states of two automata, step by step. -/
structure Sim (A B : Au) (R : Nat → Nat → Prop) : Prop where
  ltA : ∀ s t, R s t → s < A.n
  ltB : ∀ s t, R s t → t < B.n
  acc : ∀ s t, R s t → A.acc s = B.acc t
  nx : ∀ s t, R s t → P2 R (A.nx s) (B.nx t)
  fA : ∀ s, s < A.n → ∀ t ∈ A.nx s, t < A.n
  fB : ∀ s, s < B.n → ∀ t ∈ B.nx s, t < B.n

theorem Sim.cls {A B : Au} {R : Nat → Nat → Prop} (h : Sim A B R) (j : Nat) : ∀ s t s' t', R s t → R s' t' → (cls A j s = cls A j s' ↔ cls B j t = cls B j t') := by
  induction j with
  | zero => intro s t s' t' h1 h2; simp only [TidyAuto.cls]; rw [h.acc _ _ h1, h.acc _ _ h2]
  | succ j ih =>
    intro s t s' t' h1 h2
    rw [cls_iff A j (h.ltA _ _ h1), cls_iff B j (h.ltB _ _ h1)]
    unfold sig
    rw [Prod.mk.injEq, Prod.mk.injEq, ih _ _ _ _ h1 h2, P2.iff (h.nx _ _ h1) (h.nx _ _ h2) ih]

/-- Behind the step at which they stop the classes stay. -/
theorem cls_stay (A : Au) (hf : ∀ s, s < A.n → ∀ t ∈ A.nx s, t < A.n) (k : Nat) : ∀ s t, s < A.n → t < A.n → (cls A (stop A + k) s = cls A (stop A + k) t ↔ cls A (stop A + k + 1) s = cls A (stop A + k + 1) t) := by
  induction k with
  | zero => intro s t hs ht; exact ⟨stable A (stop_stops A) hs ht, cls_finer A _ hs⟩
  | succ k ih =>
    intro s t hs ht
    refine ⟨fun e => ?_, cls_finer A _ hs⟩
    have e1 : TidyAuto.cls A (stop A + k + 1) s = TidyAuto.cls A (stop A + k + 1) t := e
    rw [cls_iff A (stop A + (k + 1)) hs]
    have h1 := (cls_iff A (stop A + k) hs).1 e1
    refine Prod.ext e ?_
    have h2 : (A.nx s).map (TidyAuto.cls A (stop A + k)) = (A.nx t).map (TidyAuto.cls A (stop A + k)) := congrArg Prod.snd h1
    refine (map_iff fun x hx y hy => ?_).1 h2
    exact ih x y (hf s hs x hx) (hf t ht y hy)
theorem cls_end (A : Au) (hf : ∀ s, s < A.n → ∀ t ∈ A.nx s, t < A.n) (k : Nat) : ∀ s t, s < A.n → t < A.n → (cls A (stop A + 1) s = cls A (stop A + 1) t ↔ cls A (stop A + 1 + k) s = cls A (stop A + 1 + k) t) := by
  induction k with
  | zero => intro s t _ _; exact Iff.rfl
  | succ k ih =>
    intro s t hs ht
    rw [ih s t hs ht]
    have := cls_stay A hf (k + 1) s t hs ht
    have e1 : stop A + (k + 1) = stop A + 1 + k := by omega
    rw [e1] at this
    exact this
theorem Sim.key {A B : Au} {R : Nat → Nat → Prop} (h : Sim A B R) : ∀ s t s' t', R s t → R s' t' → (TidyAuto.cls A (stop A + 1) s = TidyAuto.cls A (stop A + 1) s' ↔ TidyAuto.cls B (stop B + 1) t = TidyAuto.cls B (stop B + 1) t') := by
  intro s t s' t' h1 h2
  rw [cls_end A h.fA (stop B) s s' (h.ltA _ _ h1) (h.ltA _ _ h2), cls_end B h.fB (stop A) t t' (h.ltB _ _ h1) (h.ltB _ _ h2)]
  have e : stop B + 1 + stop A = stop A + 1 + stop B := by omega
  rw [e]
  exact h.cls _ _ _ _ _ h1 h2

section
variable {α β κ κ' : Type} [DecidableEq κ] [DecidableEq κ'] {k1 : α → κ} {k2 : β → κ'} {R : α → β → Prop}
theorem P2.idx {l : List α} {m : List β} (h : P2 R l m) {x : α} {y : β} (hk : ∀ a b, R a b → (k1 a = k1 x ↔ k2 b = k2 y)) : idx k1 l x = idx k2 m y := by
  unfold TidyMath.idx
  induction l generalizing m with
  | nil => cases m with
    | nil => rfl
    | cons y q => exact h.elim
  | cons z r ih => cases m with
    | nil => exact h.elim
    | cons b q =>
      rw [List.findIdx_cons, List.findIdx_cons, ih h.2]
      have : decide (k1 z = k1 x) = decide (k2 b = k2 y) := decide_eq_decide.2 (hk _ _ h.1)
      rw [this]
theorem P2.meet {l : List α} {m : List β} (h : P2 R l m) {x : α} {y : β} (hxy : R x y) (hk : ∀ a b, R a b → (k1 a = k1 x ↔ k2 b = k2 y)) : P2 R (meet k1 l x) (meet k2 m y) := by
  unfold TidyMath.meet
  rw [h.idx hk, h.length]
  split
  · exact h
  · exact h.snoc hxy
theorem P2.row {xs : List α} {ys : List β} (hs : P2 R xs ys) (hk : ∀ a b x y, R a b → R x y → (k1 a = k1 x ↔ k2 b = k2 y)) : ∀ {l : List α} {m : List β}, P2 R l m → P2 R (row k1 l (xs.map some)) (row k2 m (ys.map some)) := by
  induction xs generalizing ys with
  | nil => cases ys with
    | nil => intro l m h; exact h
    | cons y q => exact hs.elim
  | cons x r ih => cases ys with
    | nil => exact hs.elim
    | cons y q =>
      intro l m h
      exact ih hs.2 (h.meet hs.1 fun a b hab => hk a b x y hab hs.1)
end

variable {A B : Au} {R : Nat → Nat → Prop}
theorem Sim.met (h : Sim A B R) {x0 y0 : Nat} (h0 : R x0 y0) (i : Nat) : P2 R (met A x0 i) (met B y0 i) := by
  induction i with
  | zero => exact ⟨h0, trivial⟩
  | succ i ih =>
    unfold TidyAuto.met at ih ⊢
    by_cases hi : i < (bfs (TidyAuto.cls A (stop A + 1)) (sucs A) x0 i).length
    · have hj : i < (bfs (TidyAuto.cls B (stop B + 1)) (sucs B) y0 i).length := by rw [← ih.length]; exact hi
      rw [bfs_succ _ _ _ hi, bfs_succ _ _ _ hj]
      exact P2.row (h.nx _ _ (ih.get i hi hj)) (fun a b x y h1 h2 => h.key _ _ _ _ h1 h2) ih
    · have hj : ¬ i < (bfs (TidyAuto.cls B (stop B + 1)) (sucs B) y0 i).length := by rw [← ih.length]; exact hi
      rw [bfs_stop _ _ _ (by omega), bfs_stop _ _ _ (by omega)]
      exact ih
theorem tid_at {x0 : Nat} (h : Fits A x0) {i : Nat} (hi : most A ≤ i) : met A x0 i = tid A x0 := by
  unfold tid
  exact bfs_end _ _ _ (met_few h (most A)) hi
theorem Sim.tid (h : Sim A B R) {x0 y0 : Nat} (h0 : R x0 y0) : P2 R (tid A x0) (tid B y0) := by
  rw [← tid_at ⟨h.ltA _ _ h0, h.fA⟩ (Nat.le_max_left (most A) (most B)), ← tid_at ⟨h.ltB _ _ h0, h.fB⟩ (Nat.le_max_right (most A) (most B))]
  exact h.met h0 _
theorem Sim.tidAcc (h : Sim A B R) {x0 y0 : Nat} (h0 : R x0 y0) : tidAcc A x0 = tidAcc B y0 := (h.tid h0).map_eq h.acc
theorem Sim.tidNext (h : Sim A B R) {x0 y0 : Nat} (h0 : R x0 y0) : tidNext A x0 = tidNext B y0 := by
  refine (h.tid h0).map_eq fun s t hst => ?_
  refine (h.nx _ _ hst).map_eq fun x y hxy => ?_
  rw [P2.idx (k1 := TidyAuto.cls A (stop A + 1)) (k2 := TidyAuto.cls B (stop B + 1)) (h.tid h0) fun a b hab => h.key _ _ _ _ hab hxy]

/-! Two relations that are read, by the places that are met. -/
structure Pla (l m : L) (T : Nat → Nat → Nat → Prop) : Prop where
  k : l.k = m.k
  acc : ∀ s t e, T s t e → l.acc.getD s false = m.acc.getD t false
  nx : ∀ s t e, T s t e → ∀ c, c < wide l.k → fol e (pd l.k c) = true → T ((l.nx.getD s []).getD c 0) ((m.nx.getD t []).getD c 0) (pd l.k c)

def Rel (l m : L) (T : Nat → Nat → Nat → Prop) (s t : Nat) : Prop :=
  (s = (F l).length ∧ t = (F m).length) ∨ ∃ (hs : s < (F l).length) (ht : t < (F m).length), (F l)[s].2 = (F m)[t].2 ∧ T (F l)[s].1 (F m)[t].1 (F l)[s].2
theorem num_has {l : L} (h : l.Ok) {s : Nat} (hs : s < (F l).length) {q : Nat × Nat} (hq : some q ∈ succR l (F l)[s]) : ∃ hn : num l q < (F l).length, (F l)[num l q] = q :=
  ⟨num_lt h hs hq, idx_key (key := id) (l := F l) (x := q) (num_lt h hs hq)⟩
theorem Pla.sim {l m : L} {T : Nat → Nat → Nat → Prop} (h : Pla l m T) (hl : l.Ok) (hm : m.Ok) : Sim (auM l) (auM m) (Rel l m T) where
  ltA s t hr := by
    show s < (F l).length + 1
    rcases hr with ⟨e, -⟩ | ⟨hs, -⟩ <;> omega
  ltB s t hr := by
    show t < (F m).length + 1
    rcases hr with ⟨-, e⟩ | ⟨-, ht, -⟩ <;> omega
  acc s t hr := by
    rcases hr with ⟨rfl, rfl⟩ | ⟨hs, ht, he, hT⟩
    · rw [auM_acc_dead, auM_acc_dead]
    · rw [auM_acc hs, auM_acc ht]; exact h.acc _ _ _ hT
  nx s t hr := by
    rcases hr with ⟨rfl, rfl⟩ | ⟨hs, ht, he, hT⟩
    · rw [auM_dead, auM_dead, h.k]
      refine P2.of_get (by simp) fun i hi hj => ?_
      rw [List.getElem_replicate, List.getElem_replicate]
      exact .inl ⟨rfl, rfl⟩
    · rw [auM_nx hs, auM_nx ht]
      refine P2.of_get (by unfold rowM; rw [List.length_map, List.length_map, succR_length, succR_length, h.k]) fun i hi hj => ?_
      unfold rowM at hi hj ⊢
      have hi1 : i < (succR l (F l)[s]).length := by simpa using hi
      have hj1 : i < (succR m (F m)[t]).length := by simpa using hj
      have hiw : i < wide l.k := by rw [succR_length] at hi1; exact hi1
      have hjw : i < wide m.k := by rw [succR_length] at hj1; exact hj1
      have g1 := succR_get l (F l)[s] hiw
      have g2 := succR_get m (F m)[t] hjw
      have m1 : (succR l (F l)[s])[i] ∈ succR l (F l)[s] := List.getElem_mem hi1
      have m2 : (succR m (F m)[t])[i] ∈ succR m (F m)[t] := List.getElem_mem hj1
      rw [List.getElem_map, List.getElem_map]
      rw [g1] at m1 ⊢
      rw [g2] at m2 ⊢
      rw [← he, ← h.k] at m2 ⊢
      by_cases hf : fol (F l)[s].2 (pd l.k i) = true
      · rw [if_pos hf] at m1 m2 ⊢
        rw [if_pos hf]
        obtain ⟨n1, e1⟩ := num_has hl hs m1
        obtain ⟨n2, e2⟩ := num_has hm ht m2
        refine .inr ⟨n1, n2, ?_, ?_⟩
        · show (F l)[num l _].2 = (F m)[num m _].2
          rw [e1, e2]
        · show T (F l)[num l _].1 (F m)[num m _].1 (F l)[num l _].2
          rw [e1, e2]
          exact h.nx _ _ _ hT i hiw hf
      · rw [if_neg hf, if_neg hf]
        exact .inl ⟨rfl, rfl⟩
  fA := (fits hl).2
  fB := (fits hm).2
theorem Pla.tidy {l m : L} {T : Nat → Nat → Nat → Prop} (h : Pla l m T) (hl : l.Ok) (hm : m.Ok) (h0 : T l.start m.start 0) : tidyAcc l = tidyAcc m ∧ tidyNext l = tidyNext m := by
  have hr : Rel l m T 0 0 := .inr ⟨F_pos l, F_pos m, by rw [F_get0, F_get0], by rw [F_get0, F_get0]; exact h0⟩
  exact ⟨(h.sim hl hm).tidAcc hr, (h.sim hl hm).tidNext hr⟩

/-- The same by a list of places, one by one. -/
def simB (l m : L) (T : List (Nat × Nat × Nat)) : Bool :=
  decide (l.k = m.k) && T.all fun p => (l.acc.getD p.1 false == m.acc.getD p.2.1 false) && (List.range (wide l.k)).all fun c => !fol p.2.2 (pd l.k c) || T.contains ((l.nx.getD p.1 []).getD c 0, (m.nx.getD p.2.1 []).getD c 0, pd l.k c)
theorem simB_pla {l m : L} {T : List (Nat × Nat × Nat)} (h : simB l m T = true) : Pla l m fun s t e => (s, t, e) ∈ T := by
  unfold simB at h
  rw [Bool.and_eq_true, decide_eq_true_eq, List.all_eq_true] at h
  refine ⟨h.1, fun s t e hm => ?_, fun s t e hm c hc hf => ?_⟩
  · have := h.2 _ hm
    rw [Bool.and_eq_true] at this
    exact eq_of_beq this.1
  · have := h.2 _ hm
    rw [Bool.and_eq_true, List.all_eq_true] at this
    have := this.2 c (List.mem_range.2 hc)
    have hf' : fol e (pd l.k c) = true := hf
    rw [Bool.or_eq_true] at this
    rcases this with this | this
    · have this : (!fol e (pd l.k c)) = true := this
      rw [hf'] at this; cases this
    · exact List.contains_iff_mem.1 this
theorem simB_tidy {l m : L} {T : List (Nat × Nat × Nat)} (h : simB l m T = true) (hl : l.Ok) (hm : m.Ok) (h0 : T.contains (l.start, m.start, 0) = true) : tidyAcc l = tidyAcc m ∧ tidyNext l = tidyNext m :=
  (simB_pla h).tidy hl hm (List.contains_iff_mem.1 h0)
end Go.Proofs.YthebmpdkiocbmaaDoor.Sim
