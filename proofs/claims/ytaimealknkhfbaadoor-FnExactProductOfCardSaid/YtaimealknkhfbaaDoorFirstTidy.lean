
/- Plain facts: what an automaton of right lists takes, its tidy automaton takes, and no other tidy one; pairs of automata.
   Conditions: stated at each theorem. -/
import Derived.Test.YtaimealknkhfbaaDoorFirst
import Derived.Test.YtaimealknkhfbaaDoorRB28
import Derived.Test.YtaimealknkhfbaaDoorRB2
namespace Go.Proofs.YtaimealknkhfbaaDoor.FirstTidy
set_option linter.unusedVariables false
set_option linter.unusedSimpArgs false
set_option linter.unusedSectionVars false
open TidyMath TidyClass TidyAuto TidyRight SpecFiner SpecRight PairMath First Sim

/-- Where a column leads. -/
def stA (A : Au) (s c : Nat) : Nat := (A.nx s).getD c 0
def stL (l : L) (s c : Nat) : Nat := (l.nx.getD s []).getD c 0
/-- Whether the tidy automaton takes a list of columns. -/
def Tk (l : L) (p : List Nat) : Bool := (tidL l).acc.getD (run (stL (tidL l)) 0 p) false

theorem stA_get {A : Au} {s c : Nat} (h : c < (A.nx s).length) : stA A s c = (A.nx s)[c] := by
  unfold stA; rw [List.getD_eq_getElem?_getD, List.getElem?_eq_getElem h, Option.getD_some]
theorem tidL_get {l : L} {s c : Nat} (hs : s < (tid (auM l) 0).length) (hc : c < ((auM l).nx (tid (auM l) 0)[s]).length) : stL (tidL l) s c = idx (cls (auM l) (stop (auM l) + 1)) (tid (auM l) 0) (((auM l).nx (tid (auM l) 0)[s])[c]) := by
  unfold stL tidL
  simp [List.getD, hs, hc]
theorem cls_acc (A : Au) (j : Nat) {s t : Nat} (hs : s < A.n) (h : cls A (j + 1) s = cls A (j + 1) t) : A.acc s = A.acc t := by
  induction j with
  | zero =>
    have := cls_finer A 0 hs h
    simp only [TidyAuto.cls] at this
    cases h1 : A.acc s <;> cases h2 : A.acc t <;> simp [h1, h2] at this ⊢
  | succ j ih => exact ih (cls_finer A (j + 1) hs h)
theorem tid_zero {A : Au} {x0 : Nat} : ∃ h : 0 < (tid A x0).length, (tid A x0)[0] = x0 := by
  have hp : met A x0 0 <+: tid A x0 := bfs_mono _ _ _ (Nat.zero_le _)
  have h1 : 0 < (met A x0 0).length := Nat.one_pos
  exact ⟨Nat.lt_of_lt_of_le h1 hp.length_le, prefix_get hp h1⟩

section
variable {l : L}
theorem stA_lt (h : l.Ok) {s c : Nat} (hs : s < (auM l).n) (hc : c < wide l.k) : stA (auM l) s c < (auM l).n := by
  unfold stA
  rw [List.getD_eq_getElem?_getD, List.getElem?_eq_getElem (by rw [auM_row h hs]; exact hc), Option.getD_some]
  exact (fits h).2 s hs _ (List.getElem_mem _)
theorem run_lt (h : l.Ok) (p : List Nat) (hp : Low (wide l.k) p) : run (stA (auM l)) 0 p < (auM l).n := by
  refine snoc_ind (P := fun p => Low (wide l.k) p → run (stA (auM l)) 0 p < (auM l).n) (fun _ => (fits h).1) (fun p c ih hp => ?_) p hp
  rw [run_snoc]
  exact stA_lt h (ih hp.head) hp.last
theorem run_class (h : l.Ok) (p : List Nat) (hp : Low (wide l.k) p) : ∃ ht : run (stL (tidL l)) 0 p < (tid (auM l) 0).length, cls (auM l) (stop (auM l) + 1) ((tid (auM l) 0)[run (stL (tidL l)) 0 p]) = cls (auM l) (stop (auM l) + 1) (run (stA (auM l)) 0 p) := by
  have hF := fits h
  refine snoc_ind (P := fun p => Low (wide l.k) p → ∃ ht : run (stL (tidL l)) 0 p < (tid (auM l) 0).length, cls (auM l) (stop (auM l) + 1) ((tid (auM l) 0)[run (stL (tidL l)) 0 p]) = cls (auM l) (stop (auM l) + 1) (run (stA (auM l)) 0 p)) (fun _ => ?_) (fun p c ih hp => ?_) p hp
  · obtain ⟨h0, e⟩ := tid_zero (A := auM l) (x0 := 0)
    exact ⟨h0, by show cls _ _ ((tid (auM l) 0)[0]) = cls _ _ 0; rw [e]⟩
  · obtain ⟨ht, e⟩ := ih hp.head
    have hc := hp.last
    have hs := run_lt h p hp.head
    have hu := met_lt hF (most (auM l)) _ (List.getElem_mem ht)
    have hu : (tid (auM l) 0)[run (stL (tidL l)) 0 p] < (auM l).n := hu
    have hsig := (cls_iff (auM l) (stop (auM l)) hu).1 e
    have hrow : ((auM l).nx (tid (auM l) 0)[run (stL (tidL l)) 0 p]).map (cls (auM l) (stop (auM l))) = ((auM l).nx (run (stA (auM l)) 0 p)).map (cls (auM l) (stop (auM l))) := congrArg Prod.snd hsig
    have hcu : c < ((auM l).nx (tid (auM l) 0)[run (stL (tidL l)) 0 p]).length := by rw [auM_row h hu]; exact hc
    have hcs : c < ((auM l).nx (run (stA (auM l)) 0 p)).length := by rw [auM_row h hs]; exact hc
    have e1 : cls (auM l) (stop (auM l)) (((auM l).nx (tid (auM l) 0)[run (stL (tidL l)) 0 p])[c]) = cls (auM l) (stop (auM l)) (((auM l).nx (run (stA (auM l)) 0 p))[c]) := by
      have := List.getElem_of_eq hrow (i := c) (by rw [List.length_map]; exact hcu)
      rwa [List.getElem_map, List.getElem_map] at this
    have hvu := hF.2 _ hu _ (List.getElem_mem hcu)
    have hvs := hF.2 _ hs _ (List.getElem_mem hcs)
    have e2 := stable (auM l) (stop_stops (auM l)) hvu hvs e1
    have eA : run (stA (auM l)) 0 (p ++ [c]) = ((auM l).nx (run (stA (auM l)) 0 p))[c] := by rw [run_snoc, stA_get hcs]
    have eT : run (stL (tidL l)) 0 (p ++ [c]) = idx (cls (auM l) (stop (auM l) + 1)) (tid (auM l) 0) (((auM l).nx (tid (auM l) 0)[run (stL (tidL l)) 0 p])[c]) := by rw [run_snoc, tidL_get ht hcu]
    have hok := tidL_ok h
    have hlen : (tidL l).acc.length = (tid (auM l) 0).length := by unfold tidL tidyAcc tidAcc; rw [List.length_map]
    have hlt : run (stL (tidL l)) 0 (p ++ [c]) < (tid (auM l) 0).length := by
      rw [run_snoc, ← hlen]
      exact hok.lt _ (by rw [hlen]; exact ht) c hc
    have hidx : idx (cls (auM l) (stop (auM l) + 1)) (tid (auM l) 0) (((auM l).nx (tid (auM l) 0)[run (stL (tidL l)) 0 p])[c]) < (tid (auM l) 0).length := by rw [← eT]; exact hlt
    refine ⟨hlt, ?_⟩
    rw [eA, ← e2, ← idx_key (cls (auM l) (stop (auM l) + 1)) hidx]
    congr 1
    exact getElem_congr_idx eT
theorem takesM (h : l.Ok) (p : List Nat) (hp : Low (wide l.k) p) : (auM l).acc (run (stA (auM l)) 0 p) = Tk l p := by
  obtain ⟨ht, e⟩ := run_class h p hp
  have hu : (tid (auM l) 0)[run (stL (tidL l)) 0 p] < (auM l).n := met_lt (fits h) (most (auM l)) _ (List.getElem_mem ht)
  rw [← cls_acc (auM l) (stop (auM l)) hu e]
  show _ = (tidyAcc l).getD _ false
  unfold tidyAcc tidAcc
  rw [List.getD_eq_getElem?_getD, List.getElem?_map, List.getElem?_eq_getElem ht]; rfl
theorem runP (h : l.Ok) (p : List Nat) (hp : Low (wide l.k) p) : run (stA (auP l)) 1 p = σ l (run (stA (auM l)) 0 p) := by
  refine snoc_ind (P := fun p => Low (wide l.k) p → run (stA (auP l)) 1 p = σ l (run (stA (auM l)) 0 p)) (fun _ => (TidyRight.start_eq l).symm) (fun p c ih hp => ?_) p hp
  have hs := run_lt h p hp.head
  have t := twin h
  rw [run_snoc, run_snoc, ih hp.head]
  have hcs : c < ((auM l).nx (run (stA (auM l)) 0 p)).length := by rw [auM_row h hs]; exact hp.last
  have e : (auP l).nx (σ l (run (stA (auM l)) 0 p)) = ((auM l).nx (run (stA (auM l)) 0 p)).map (σ l) := by rw [t.nx _ (t.gl _ hs), t.fg _ hs]
  rw [stA_get hcs, stA_get (by rw [e, List.length_map]; exact hcs), List.getElem_of_eq e, List.getElem_map]
theorem takesP (h : l.Ok) (p : List Nat) (hp : Low (wide l.k) p) : (auP l).acc (run (stA (auP l)) 1 p) = Tk l p := by
  have hs := run_lt h p hp
  have t := twin h
  rw [← takesM h p hp, runP h p hp, t.acc _ (t.gl _ hs), t.fg _ hs]
theorem none_takes (h : l.Ok) (hn : ∀ b ∈ l.acc, b = false) (p : List Nat) (hp : Low (wide l.k) p) : Tk l p = false := by
  rw [← takesM h p hp]
  have hs : run (stA (auM l)) 0 p < (F l).length + 1 := run_lt h p hp
  by_cases e : run (stA (auM l)) 0 p < (F l).length
  · rw [auM_acc e, List.getD_eq_getElem?_getD]
    cases hg : l.acc[((F l)[run (stA (auM l)) 0 p]).1]? with
    | none => rfl
    | some b =>
      obtain ⟨hi, e2⟩ := List.getElem?_eq_some_iff.1 hg
      exact hn b (e2 ▸ List.getElem_mem hi)
  · rw [show run (stA (auM l)) 0 p = (F l).length by omega]
    exact auM_acc_dead l
end

theorem ofN_inj {x y : List Nat} (h : ofN x = ofN y) : x = y := by
  unfold ofN at h
  induction x generalizing y with
  | nil => cases y with
    | nil => rfl
    | cons b r => simp at h
  | cons a r ih => cases y with
    | nil => simp at h
    | cons b q =>
      rw [List.map_cons, List.map_cons, List.cons.injEq] at h
      rw [ih h.2, Int.ofNat.inj h.1]
theorem map_inj' {α β : Type} {f : α → β} (hf : ∀ x y, f x = f y → x = y) : ∀ {l m : List α}, l.map f = m.map f → l = m
  | [], [], _ => rfl
  | [], _ :: _, h => by simp at h
  | _ :: _, [], h => by simp at h
  | a :: r, b :: q, h => by
    rw [List.map_cons, List.map_cons, List.cons.injEq] at h
    rw [hf _ _ h.1, map_inj' hf h.2]
theorem tidL_eq {l m : L} (hk : l.k = m.k) (ha : tidyAcc l = tidyAcc m) (hn : tidyNext l = tidyNext m) : tidL l = tidL m := by
  have h1 := congrArg (fun r => r.next) (tidL_rel l)
  have h2 := congrArg (fun r => r.next) (tidL_rel m)
  have h3 : (tidL l).nx.map ofN = (tidL m).nx.map ofN := h1.trans (hn.trans h2.symm)
  have h4 := map_inj' (fun _ _ => ofN_inj) h3
  have h5 : (tidL l).acc = (tidL m).acc := ha
  have h6 : (tidL l).k = (tidL m).k := hk
  have h7 : (tidL l).start = (tidL m).start := rfl
  cases hL : tidL l with
  | mk a b c d =>
    cases hM : tidL m with
    | mk a' b' c' d' =>
      rw [hL, hM] at h4 h5 h6 h7
      simp at h4 h5 h6 h7
      rw [h4, h5, h6, h7]
/-- Two tidy automata are the same just if they take the same lists. -/
theorem tidy_iff {l m : L} (hl : l.Ok) (hm : m.Ok) (hk : l.k = m.k) : (tidyAcc l = tidyAcc m ∧ tidyNext l = tidyNext m) ↔ ∀ p, Low (wide l.k) p → Tk l p = Tk m p := by
  constructor
  · rintro ⟨ha, hn⟩ p _
    unfold Tk
    rw [tidL_eq hk ha hn]
  · intro h
    have hs : Sim (auM l) (auM m) fun s t => ∃ p, Low (wide l.k) p ∧ run (stA (auM l)) 0 p = s ∧ run (stA (auM m)) 0 p = t := by
      refine ⟨?_, ?_, ?_, ?_, (fits hl).2, (fits hm).2⟩
      · rintro s t ⟨p, hp, rfl, rfl⟩; exact run_lt hl p hp
      · rintro s t ⟨p, hp, rfl, rfl⟩; exact run_lt hm p (hk ▸ hp)
      · rintro s t ⟨p, hp, rfl, rfl⟩; rw [takesM hl p hp, takesM hm p (hk ▸ hp), h p hp]
      · rintro s t ⟨p, hp, rfl, rfl⟩
        have h1 := auM_row hl (run_lt hl p hp)
        have h2 := auM_row hm (run_lt hm p (hk ▸ hp))
        refine P2.of_get (by rw [h1, h2, hk]) fun i hi hj => ⟨p ++ [i], hp.snoc (by rw [← h1]; exact hi), ?_, ?_⟩
        · rw [run_snoc, stA_get hi]
        · rw [run_snoc, stA_get hj]
    have h0 : ∃ p, Low (wide l.k) p ∧ run (stA (auM l)) 0 p = 0 ∧ run (stA (auM m)) 0 p = 0 := ⟨[], Low.nil _, rfl, rfl⟩
    exact ⟨hs.tidAcc h0, hs.tidNext h0⟩

/-! Pairs. -/
def stPP (l m : L) (x : Nat × Nat) (c : Nat) : Nat × Nat := (stA (auP l) x.1 c, stA (auP m) x.2 c)
theorem runPP (l m : L) (p : List Nat) : ∀ x, run (stPP l m) x p = (run (stA (auP l)) x.1 p, run (stA (auP m)) x.2 p) := by
  induction p with
  | nil => exact fun x => rfl
  | cons c r ih => exact fun x => ih _
theorem takesPP {l m : L} (hl : l.Ok) (hm : m.Ok) (hk : l.k = m.k) (g : Bool → Bool → Bool) (p : List Nat) (hp : Low (wide l.k) p) :
    g ((auP l).acc (run (stPP l m) (1, 1) p).1) ((auP m).acc (run (stPP l m) (1, 1) p).2) = g (Tk l p) (Tk m p) := by
  rw [runPP]
  show g ((auP l).acc (run (stA (auP l)) 1 p)) ((auP m).acc (run (stA (auP m)) 1 p)) = _
  rw [takesP hl p hp, takesP hm p (hk ▸ hp)]
theorem runL_lt {l : L} (h : l.Ok) {s : Nat} (hs : s < l.acc.length) (p : List Nat) (hp : Low (wide l.k) p) : run (stL l) s p < l.acc.length := by
  refine snoc_ind (P := fun p => Low (wide l.k) p → run (stL l) s p < l.acc.length) (fun _ => hs) (fun p c ih hp => ?_) p hp
  rw [run_snoc]
  exact h.lt _ (ih hp.head) c hp.last
theorem run_pair (t : Bool → Bool → Bool) {l m : L} (hl : l.Ok) (hm : m.Ok) (hk : l.k = m.k) (p : List Nat) (hp : Low (wide l.k) p) :
    run (stL (pairL t l m)) (pairL t l m).start p = run (stL l) l.start p * m.acc.length + run (stL m) m.start p := by
  refine snoc_ind (P := fun p => Low (wide l.k) p → run (stL (pairL t l m)) (pairL t l m).start p = run (stL l) l.start p * m.acc.length + run (stL m) m.start p) (fun _ => rfl) (fun p c ih hp => ?_) p hp
  have h1 := runL_lt hl hl.st p hp.head
  have h2 := runL_lt hm hm.st p (hk ▸ hp.head)
  rw [run_snoc, run_snoc, run_snoc, ih hp.head]
  have hx := pair_lt h1 h2
  have hc := hp.last
  generalize run (stL l) l.start p = a at h1 hx ⊢
  generalize run (stL m) m.start p = b at h2 hx ⊢
  unfold stL
  simp only [pairL, List.getD, List.getElem?_map, List.getElem?_range hx, List.getElem?_range hc, Option.map_some, Option.getD_some]
  rw [pair_div h2, pair_mod h2]
theorem takes_pair (t : Bool → Bool → Bool) {l m : L} (hl : l.Ok) (hm : m.Ok) (hk : l.k = m.k) (p : List Nat) (hp : Low (wide l.k) p) :
    (pairL t (tidL l) (tidL m)).acc.getD (run (stL (pairL t (tidL l) (tidL m))) (pairL t (tidL l) (tidL m)).start p) false = t (Tk l p) (Tk m p) := by
  have hl' := tidL_ok hl
  have hm' := tidL_ok hm
  have h1 := runL_lt hl' hl'.st p hp
  have h2 := runL_lt hm' hm'.st p (show Low (wide (tidL m).k) p from hk ▸ hp)
  rw [run_pair t hl' hm' hk p hp]
  have hx := pair_lt h1 h2
  unfold Tk
  show _ = t ((tidL l).acc.getD (run (stL (tidL l)) (tidL l).start p) false) ((tidL m).acc.getD (run (stL (tidL m)) (tidL m).start p) false)
  generalize run (stL (tidL l)) (tidL l).start p = a at h1 hx ⊢
  generalize run (stL (tidL m)) (tidL m).start p = b at h2 hx ⊢
  simp only [pairL, List.getD, List.getElem?_map, List.getElem?_range hx, Option.map_some, Option.getD_some]
  rw [pair_div h2, pair_mod h2]

/-- The first list for which something holds of what two automata take; none if there is no such list. -/
noncomputable def firstPP (g : Bool → Bool → Bool) (l m : L) : Option (List Nat) :=
  open Classical in if h : ∃ u, Lst (wide l.k) (fun p => g (Tk l p) (Tk m p) = true) u then some h.choose else none
theorem firstPP_some {g : Bool → Bool → Bool} {l m : L} {u : List Nat} (h : Lst (wide l.k) (fun p => g (Tk l p) (Tk m p) = true) u) : firstPP g l m = some u := by
  unfold firstPP
  have hex : ∃ u, Lst (wide l.k) (fun p => g (Tk l p) (Tk m p) = true) u := ⟨u, h⟩
  rw [dif_pos hex, hex.choose_spec.unique h]
theorem firstPP_none {g : Bool → Bool → Bool} {l m : L} (h : ∀ p, Low (wide l.k) p → ¬ g (Tk l p) (Tk m p) = true) : firstPP g l m = none := by
  unfold firstPP
  rw [dif_neg]
  rintro ⟨u, hu⟩
  exact h u hu.low hu.ok
end Go.Proofs.YtaimealknkhfbaaDoor.FirstTidy
