
/- What an automaton takes, by the run of its own states; tidying before columns are mapped changes nothing behind.
   Conditions: stated at each theorem. -/
import Derived.Test.YtaimealknkhfbaaDoorFirstTidy
import Derived.Test.YtaimealknkhfbaaDoorRB2
import Derived.Test.YtaimealknkhfbaaDoorRB10
namespace Go.Proofs.YtaimealknkhfbaaDoor.TakesRun
set_option linter.unusedVariables false
set_option linter.unusedSimpArgs false
open Go.RowKit TidyMath TidyAuto TidyRight PairMath First FirstTidy Sim TapeMath

/-- A step of a place, where the column may follow. -/
def stepV (l : L) (x : Option (Nat × Nat)) (c : Nat) : Option (Nat × Nat) := match x with
  | some q => if fol q.2 (pd l.k c) = true then some ((l.nx.getD q.1 []).getD c 0, pd l.k c) else none
  | none => none
def runV (l : L) (p : List Nat) : Option (Nat × Nat) := run (stepV l) (some (l.start, 0)) p
theorem run_place {l : L} (h : l.Ok) (p : List Nat) (hp : Low (wide l.k) p) :
    (∀ q, runV l p = some q → ∃ hs : run (stA (auM l)) 0 p < (F l).length, (F l)[run (stA (auM l)) 0 p] = q) ∧ (runV l p = none → run (stA (auM l)) 0 p = (F l).length) := by
  refine snoc_ind (P := fun p => Low (wide l.k) p → (∀ q, runV l p = some q → ∃ hs : run (stA (auM l)) 0 p < (F l).length, (F l)[run (stA (auM l)) 0 p] = q) ∧ (runV l p = none → run (stA (auM l)) 0 p = (F l).length)) (fun _ => ⟨fun q hq => ?_, fun hq => ?_⟩) (fun p c ih hp => ?_) p hp
  · have : q = (l.start, 0) := by have := hq; unfold runV run at this; simpa using this.symm
    subst this
    exact ⟨F_pos l, F_get0 l⟩
  · unfold runV run at hq; simp at hq
  · obtain ⟨i1, i2⟩ := ih hp.head
    have hc := hp.last
    have er : runV l (p ++ [c]) = stepV l (runV l p) c := by unfold runV; rw [run_snoc]
    have ea : run (stA (auM l)) 0 (p ++ [c]) = stA (auM l) (run (stA (auM l)) 0 p) c := by rw [run_snoc]
    rw [er, ea]
    cases hr : runV l p with
    | none =>
      have e0 := i2 hr
      rw [e0]
      refine ⟨fun q hq => (by unfold stepV at hq; cases hq), fun _ => ?_⟩
      show ((auM l).nx (F l).length).getD c 0 = _
      rw [auM_dead]
      simp [List.getD, hc]
    | some q0 =>
      obtain ⟨hs, e0⟩ := i1 q0 hr
      have hn : stA (auM l) (run (stA (auM l)) 0 p) c = (match (succR l q0)[c]'(by rw [succR_length]; exact hc) with | some q => num l q | none => (F l).length) := by
        show ((auM l).nx (run (stA (auM l)) 0 p)).getD c 0 = _
        rw [auM_nx hs, e0]
        unfold rowM
        have hcl : c < (succR l q0).length := by rw [succR_length]; exact hc
        simp only [List.getD_eq_getElem?_getD, List.getElem?_map, List.getElem?_eq_getElem hcl, Option.map_some, Option.getD_some]
        rfl
      rw [hn, succR_get l q0 hc]
      by_cases hf : fol q0.2 (pd l.k c) = true
      · have es : stepV l (some q0) c = some ((l.nx.getD q0.1 []).getD c 0, pd l.k c) := by unfold stepV; simp only; rw [if_pos hf]
        rw [if_pos hf, es]
        refine ⟨fun q hq => ?_, fun hq => by cases hq⟩
        have hq' : q = ((l.nx.getD q0.1 []).getD c 0, pd l.k c) := (Option.some.inj hq).symm
        rw [hq']
        have hm : some ((l.nx.getD q0.1 []).getD c 0, pd l.k c) ∈ succR l (F l)[run (stA (auM l)) 0 p] := by
          rw [e0]
          have hcl : c < (succR l q0).length := by rw [succR_length]; exact hc
          have h2 := List.getElem_mem hcl
          rw [succR_get l q0 hc, if_pos hf] at h2
          exact h2
        exact num_has h hs hm
      · have es : stepV l (some q0) c = none := by unfold stepV; simp only; rw [if_neg hf]
        rw [if_neg hf, es]
        exact ⟨fun q hq => (by cases hq), fun _ => rfl⟩
theorem takesV {l : L} (h : l.Ok) (p : List Nat) (hp : Low (wide l.k) p) : Tk l p = (match runV l p with | some q => l.acc.getD q.1 false | none => false) := by
  rw [← takesM h p hp]
  obtain ⟨i1, i2⟩ := run_place h p hp
  cases hr : runV l p with
  | none => rw [i2 hr]; exact auM_acc_dead l
  | some q =>
    obtain ⟨hs, e⟩ := i1 q hr
    rw [auM_acc hs, e]
theorem runV_snoc (l : L) (p : List Nat) (c : Nat) : runV l (p ++ [c]) = stepV l (runV l p) c := by unfold runV; rw [run_snoc]
theorem stepV_some {l : L} {q0 q : Nat × Nat} {c : Nat} (h : stepV l (some q0) c = some q) : fol q0.2 (pd l.k c) = true ∧ q = ((l.nx.getD q0.1 []).getD c 0, pd l.k c) := by
  unfold stepV at h
  simp only at h
  by_cases hf : fol q0.2 (pd l.k c) = true
  · rw [if_pos hf] at h; exact ⟨hf, (Option.some.inj h).symm⟩
  · rw [if_neg hf] at h; cases h
/-- The state is that of the plain run. -/
theorem runV_st {l : L} (p : List Nat) : ∀ q, runV l p = some q → q.1 = run (stL l) l.start p := by
  refine snoc_ind (P := fun p => ∀ q, runV l p = some q → q.1 = run (stL l) l.start p) (fun q hq => ?_) (fun p c ih q hq => ?_) p
  · unfold runV run at hq; simp at hq; rw [← hq]; rfl
  · rw [runV_snoc] at hq
    cases hr : runV l p with
    | none => rw [hr] at hq; unfold stepV at hq; cases hq
    | some q0 =>
      rw [hr] at hq
      obtain ⟨-, rfl⟩ := stepV_some hq
      rw [run_snoc, ← ih q0 hr]
      rfl
/-- The pads do not hang on the states. -/
theorem runV_mask (l m : L) (hk : l.k = m.k) (p : List Nat) : (runV l p).map Prod.snd = (runV m p).map Prod.snd := by
  refine snoc_ind (P := fun p => (runV l p).map Prod.snd = (runV m p).map Prod.snd) rfl (fun p c ih => ?_) p
  rw [runV_snoc, runV_snoc]
  cases h1 : runV l p with
  | none =>
    rw [h1] at ih
    cases h2 : runV m p with
    | none => rfl
    | some q => rw [h2] at ih; cases ih
  | some q =>
    rw [h1] at ih
    cases h2 : runV m p with
    | none => rw [h2] at ih; cases ih
    | some q' =>
      rw [h2] at ih
      have e : q.2 = q'.2 := Option.some.inj ih
      unfold stepV
      simp only
      rw [e, hk]
      by_cases hf : fol q'.2 (pd m.k c) = true
      · rw [if_pos hf, if_pos hf]; rfl
      · rw [if_neg hf, if_neg hf]
/-- The columns that are read behind the change. -/
def fm (φ : Nat → Nat) (w : Nat) (p : List Nat) : List Nat := (p.filter fun c => decide (φ c ≠ w)).map φ
theorem fm_snoc (φ : Nat → Nat) (w : Nat) (p : List Nat) (c : Nat) : fm φ w (p ++ [c]) = if φ c = w then fm φ w p else fm φ w p ++ [φ c] := by
  unfold fm
  rw [List.filter_append, List.map_append]
  by_cases h : φ c = w
  · rw [if_pos h]; simp [h]
  · rw [if_neg h]; simp [h]
theorem fm_low {φ : Nat → Nat} {w v : Nat} (hφ : ∀ c, c < v → φ c ≤ w) {p : List Nat} (hp : Low v p) : Low w (fm φ w p) := by
  intro x hx
  obtain ⟨c, hc, rfl⟩ := List.mem_map.1 hx
  obtain ⟨h1, h2⟩ := List.mem_filter.1 hc
  have := hφ c (hp c h1)
  have := of_decide_eq_true h2
  omega
theorem reL_get (l : L) (j : Nat) (φ : Nat → Nat) {s c : Nat} (hs : s < l.acc.length) (hc : c < wide j) : ((reL l j φ).nx.getD s []).getD c 0 = if φ c = wide l.k then s else (l.nx.getD s []).getD (φ c) 0 := by
  simp [reL, List.getD, hs, hc]
theorem run_reL {l : L} (h : l.Ok) {j : Nat} {φ : Nat → Nat} (hφ : ∀ c, c < wide j → φ c ≤ wide l.k) (M : Nat → Nat → Prop) (M0 : M 0 0)
    (MS : ∀ e e' c, c < wide j → fol e (pd j c) = true → M e e' → (φ c = wide l.k → M (pd j c) e') ∧ (φ c ≠ wide l.k → fol e' (pd l.k (φ c)) = true ∧ M (pd j c) (pd l.k (φ c)))) (p : List Nat) :
    Low (wide j) p → ∀ q, runV (reL l j φ) p = some q → q.1 < l.acc.length ∧ ∃ e', runV l (fm φ (wide l.k) p) = some (q.1, e') ∧ M q.2 e' := by
  refine snoc_ind (P := fun p => Low (wide j) p → ∀ q, runV (reL l j φ) p = some q → q.1 < l.acc.length ∧ ∃ e', runV l (fm φ (wide l.k) p) = some (q.1, e') ∧ M q.2 e') (fun _ q hq => ?_) (fun p c ih hp q hq => ?_) p
  · have : q = (l.start, 0) := by have := hq; unfold runV run at this; simpa [reL] using this.symm
    subst this
    exact ⟨h.st, 0, rfl, M0⟩
  · rw [runV_snoc] at hq
    have hc := hp.last
    cases hr : runV (reL l j φ) p with
    | none => rw [hr] at hq; unfold stepV at hq; cases hq
    | some q0 =>
      rw [hr] at hq
      obtain ⟨hf, rfl⟩ := stepV_some hq
      obtain ⟨hlt, e', hm, hM⟩ := ih hp.head q0 hr
      have hf' : fol q0.2 (pd j c) = true := hf
      obtain ⟨m1, m2⟩ := MS q0.2 e' c hc hf' hM
      show ((reL l j φ).nx.getD q0.1 []).getD c 0 < _ ∧ ∃ e', runV l (fm φ (wide l.k) (p ++ [c])) = some (((reL l j φ).nx.getD q0.1 []).getD c 0, e') ∧ M (pd j c) e'
      rw [reL_get l j φ hlt hc, fm_snoc]
      by_cases he : φ c = wide l.k
      · rw [if_pos he, if_pos he]
        exact ⟨hlt, e', hm, m1 he⟩
      · rw [if_neg he, if_neg he]
        have hcl : φ c < wide l.k := by have := hφ c hc; omega
        obtain ⟨f1, f2⟩ := m2 he
        refine ⟨h.lt q0.1 hlt (φ c) hcl, pd l.k (φ c), ?_, f2⟩
        rw [runV_snoc, hm]
        unfold stepV
        simp only
        rw [if_pos f1]
/-- Tidying before the columns are changed makes no difference behind. -/
theorem tidy_reL {l : L} (h : l.Ok) {j : Nat} {φ : Nat → Nat} (j0 : 1 ≤ j) (j3 : j ≤ 3) (hφ : ∀ c, c < wide j → φ c ≤ wide l.k) (M : Nat → Nat → Prop) (M0 : M 0 0)
    (MS : ∀ e e' c, c < wide j → fol e (pd j c) = true → M e e' → (φ c = wide l.k → M (pd j c) e') ∧ (φ c ≠ wide l.k → fol e' (pd l.k (φ c)) = true ∧ M (pd j c) (pd l.k (φ c)))) :
    tidyAcc (reL (tidL l) j φ) = tidyAcc (reL l j φ) ∧ tidyNext (reL (tidL l) j φ) = tidyNext (reL l j φ) := by
  have ht := tidL_ok h
  have h1 : (reL (tidL l) j φ).Ok := reL_ok ht j0 j3 hφ
  have h2 : (reL l j φ).Ok := reL_ok h j0 j3 hφ
  refine (tidy_iff h1 h2 rfl).2 fun p hp => ?_
  have hp' : Low (wide j) p := hp
  rw [takesV h1 p hp, takesV h2 p hp]
  have hm := runV_mask (reL (tidL l) j φ) (reL l j φ) rfl p
  cases r2 : runV (reL l j φ) p with
  | none =>
    rw [r2] at hm
    cases r1 : runV (reL (tidL l) j φ) p with
    | none => rfl
    | some q => rw [r1] at hm; cases hm
  | some q =>
    rw [r2] at hm
    cases r1 : runV (reL (tidL l) j φ) p with
    | none => rw [r1] at hm; cases hm
    | some q' =>
      obtain ⟨-, e1, g1, -⟩ := run_reL h hφ M M0 MS p hp' q r2
      obtain ⟨-, e2, g2, -⟩ := run_reL (l := tidL l) ht hφ M M0 MS p hp' q' r1
      have hw : wide (tidL l).k = wide l.k := rfl
      rw [hw] at g2
      have t1 := takesV h (fm φ (wide l.k) p) (fm_low hφ hp')
      rw [g1] at t1
      have s2 := runV_st _ _ g2
      show (tidL l).acc.getD q'.1 false = l.acc.getD q.1 false
      rw [show l.acc.getD q.1 false = Tk l (fm φ (wide l.k) p) from t1.symm, show q'.1 = run (stL (tidL l)) 0 (fm φ (wide l.k) p) from s2]
      rfl
/-- What is tidy stays as it is. -/
theorem tidy_idem {l : L} (h : l.Ok) : tidyAcc (tidL l) = tidyAcc l ∧ tidyNext (tidL l) = tidyNext l := by
  have ht := tidL_ok h
  refine (tidy_iff ht h rfl).2 fun p hp => ?_
  have hp' : Low (wide l.k) p := hp
  have hm := runV_mask (tidL l) l rfl p
  rw [takesV ht p hp]
  cases r1 : runV (tidL l) p with
  | none =>
    rw [r1] at hm
    cases r2 : runV l p with
    | none => rw [takesV h p hp', r2]
    | some q => rw [r2] at hm; cases hm
  | some q =>
    have s1 := runV_st _ _ r1
    show (tidL l).acc.getD q.1 false = (tidL l).acc.getD (run (stL (tidL l)) 0 p) false
    rw [s1]
    rfl
theorem tidL_idem {l : L} (h : l.Ok) : tidL (tidL l) = tidL l := tidL_eq rfl (tidy_idem h).1 (tidy_idem h).2
end Go.Proofs.YtaimealknkhfbaaDoor.TakesRun
