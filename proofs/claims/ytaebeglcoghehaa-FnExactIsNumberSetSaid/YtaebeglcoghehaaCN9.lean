
/- Plain facts: the tidy automaton is an automaton again; the automaton of pairs of states of two automata.
   Conditions: stated at each theorem. -/
import Derived.Test.YtaebeglcoghehaaCN8
import Derived.Test.YtaebeglcoghehaaCN1
import Derived.Test.YtaebeglcoghehaaCN2
import Derived.Test.YtaebeglcoghehaaCN6
import Derived.Deep.RegionWith
namespace Go.Proofs.Ytaebeglcoghehaa.PairMath
set_option linter.unusedVariables false
set_option linter.unusedSimpArgs false
open TidyMath TidyClass TidyAuto TidyRight SpecFiner SpecRight

/-- The tidy automaton. -/
def tidL (l : L) : L := ⟨l.k, 0, tidyAcc l, (tid (auM l) 0).map fun s => ((auM l).nx s).map fun t => idx (cls (auM l) (stop (auM l) + 1)) (tid (auM l) 0) t⟩
theorem tidL_rel (l : L) : relOf (tidL l) = ⟨l.k, 0, tidyAcc l, tidyNext l⟩ := by
  unfold relOf tidL tidyNext tidNext tidRow
  simp only [List.map_map]
  congr 1
  refine List.map_congr_left fun s _ => ?_
  show ofN (List.map _ _) = List.map _ _
  unfold ofN
  rw [List.map_map]
  rfl
theorem tidyAcc_pos (l : L) : 0 < (tidyAcc l).length := by
  unfold tidyAcc tidAcc
  rw [List.length_map]
  exact bfs_pos _ _ _ _
theorem auM_row {l : L} (h : l.Ok) {s : Nat} (hs : s < (auM l).n) : ((auM l).nx s).length = wide l.k := by
  have hs' : s < (F l).length + 1 := hs
  by_cases e : s < (F l).length
  · rw [auM_nx e]
    unfold rowM
    rw [List.length_map, succR_length]
  · obtain rfl : s = (F l).length := by omega
    rw [auM_dead, List.length_replicate]
theorem tidL_ok {l : L} (h : l.Ok) : (tidL l).Ok := by
  have hF := fits h
  have hlen : (tidL l).acc.length = (tid (auM l) 0).length := by unfold tidL tidyAcc tidAcc; rw [List.length_map]
  have hrow : ∀ s (hs : s < (tid (auM l) 0).length), (tidL l).nx.getD s [] = ((auM l).nx (tid (auM l) 0)[s]).map fun t => idx (cls (auM l) (stop (auM l) + 1)) (tid (auM l) 0) t := by
    intro s hs
    unfold tidL
    simp [List.getD, hs]
  have hin : ∀ s (hs : s < (tid (auM l) 0).length), (tid (auM l) 0)[s] < (auM l).n := fun s hs => met_lt hF _ _ (List.getElem_mem hs)
  refine ⟨h.k0, h.k3, tidyAcc_pos l, ?_, fun s hs => ?_, fun s hs c hc => ?_⟩
  · rw [hlen]; unfold tidL; rw [List.length_map]
  · rw [hlen] at hs
    rw [hrow s hs, List.length_map, auM_row h (hin s hs)]
    rfl
  · rw [hlen] at hs ⊢
    rw [hrow s hs]
    have hr := auM_row h (hin s hs)
    have hc' : c < ((auM l).nx (tid (auM l) 0)[s]).length := by rw [hr]; exact hc
    have e : (((auM l).nx (tid (auM l) 0)[s]).map fun t => idx (cls (auM l) (stop (auM l) + 1)) (tid (auM l) 0) t).getD c 0 = idx (cls (auM l) (stop (auM l) + 1)) (tid (auM l) 0) (((auM l).nx (tid (auM l) 0)[s])[c]) := by
      simp [List.getD, hc']
    rw [e]
    have hB := met_few hF
    have hjb := end_before _ _ _ hB (i := s) hs
    have hget : (bfs (cls (auM l) (stop (auM l) + 1)) (sucs (auM l)) 0 s)[s] = (tid (auM l) 0)[s] := (prefix_get (end_prefix _ _ _ hB _) hjb).symm
    refine bfs_found (cls (auM l) (stop (auM l) + 1)) (sucs (auM l)) 0 (i := most (auM l)) (j := s) (Nat.lt_of_lt_of_le hs (hB _)) hjb _ ?_
    rw [hget]
    exact List.mem_map_of_mem (List.getElem_mem hc')

/-- The automaton of pairs. -/
def pairL (t : Bool → Bool → Bool) (l m : L) : L :=
  ⟨l.k, l.start * m.acc.length + m.start,
   (List.range (l.acc.length * m.acc.length)).map fun x => t (l.acc.getD (x / m.acc.length) false) (m.acc.getD (x % m.acc.length) false),
   (List.range (l.acc.length * m.acc.length)).map fun x => (List.range (wide l.k)).map fun c => (l.nx.getD (x / m.acc.length) []).getD c 0 * m.acc.length + (m.nx.getD (x % m.acc.length) []).getD c 0⟩
theorem pair_lt {a b n m : Nat} (ha : a < n) (hb : b < m) : a * m + b < n * m := by
  have h1 : a * m + b < (a + 1) * m := by rw [Nat.add_mul]; omega
  exact Nat.lt_of_lt_of_le h1 (Nat.mul_le_mul_right m ha)
theorem pairL_len (t : Bool → Bool → Bool) (l m : L) : (pairL t l m).acc.length = l.acc.length * m.acc.length := by simp [pairL]
theorem pairL_ok (t : Bool → Bool → Bool) {l m : L} (hl : l.Ok) (hm : m.Ok) (hk : l.k = m.k) : (pairL t l m).Ok := by
  have hpos : 0 < m.acc.length := Nat.lt_of_le_of_lt (Nat.zero_le _) hm.st
  refine ⟨hl.k0, hl.k3, ?_, ?_, fun x hx => ?_, fun x hx c hc => ?_⟩
  · rw [pairL_len]; exact pair_lt hl.st hm.st
  · rw [pairL_len]; simp [pairL]
  · rw [pairL_len] at hx
    simp [pairL, List.getD, hx]
  · rw [pairL_len] at hx ⊢
    have hc' : c < wide l.k := hc
    have e : ((pairL t l m).nx.getD x []).getD c 0 = (l.nx.getD (x / m.acc.length) []).getD c 0 * m.acc.length + (m.nx.getD (x % m.acc.length) []).getD c 0 := by
      simp [pairL, List.getD, hx, hc']
    rw [e]
    exact pair_lt (hl.lt _ (Nat.div_lt_of_lt_mul (by rw [Nat.mul_comm]; exact hx)) c hc') (hm.lt _ (Nat.mod_lt _ hpos) c (by rw [← hk]; exact hc'))
theorem pair_div {p q n : Nat} (hq : q < n) : (p * n + q) / n = p := by
  rw [Nat.mul_comm, Nat.mul_add_div (by omega), Nat.div_eq_of_lt hq, Nat.add_zero]
theorem pair_mod {p q n : Nat} (hq : q < n) : (p * n + q) % n = q := by
  rw [Nat.mul_comm, Nat.mul_add_mod, Nat.mod_eq_of_lt hq]
/-- A row of the automaton of pairs. -/
def rowPQ (l m : L) (p q : Nat) : List Int := (List.range (wide l.k)).map fun c => (((l.nx.getD p []).getD c 0 * m.acc.length + (m.nx.getD q []).getD c 0 : Nat) : Int)
theorem rel_next_len (t : Bool → Bool → Bool) (l m : L) : (relOf (pairL t l m)).next.length = l.acc.length * m.acc.length := by simp [pairL, relOf]
theorem acc_next (t : Bool → Bool → Bool) (l m : L) {p q : Nat} (hp : p < l.acc.length) (hq : q < m.acc.length) :
    (pairL t l m).acc.take (p * m.acc.length + q + 1) = (pairL t l m).acc.take (p * m.acc.length + q) ++ [t (l.acc.getD p false) (m.acc.getD q false)] := by
  have hx := pair_lt hp hq
  rw [List.take_succ_eq_append_getElem (by rw [pairL_len]; exact hx)]
  congr 2
  simp only [pairL, List.getElem_map, List.getElem_range]
  rw [pair_div hq, pair_mod hq]
theorem next_next (t : Bool → Bool → Bool) (l m : L) {p q : Nat} (hp : p < l.acc.length) (hq : q < m.acc.length) :
    (relOf (pairL t l m)).next.take (p * m.acc.length + q + 1) = (relOf (pairL t l m)).next.take (p * m.acc.length + q) ++ [rowPQ l m p q] := by
  have hx := pair_lt hp hq
  rw [List.take_succ_eq_append_getElem (by rw [rel_next_len]; exact hx)]
  congr 2
  simp only [relOf, pairL, List.getElem_map, List.getElem_range]
  rw [pair_div hq, pair_mod hq]
  unfold ofN rowPQ
  rw [List.map_map]
  rfl
theorem mul_le_pair {a b n m : Nat} (ha : a < n) (hb : b < m) (h : n * m ≤ 1000) : a * m ≤ 1000 ∧ a * m + b ≤ 1000 := by
  have := pair_lt ha hb
  omega
theorem sides {n m : Nat} (hn : 0 < n) (hm : 0 < m) (h : n * m ≤ 1000) : n ≤ 1000 ∧ m ≤ 1000 :=
  ⟨Nat.le_trans (Nat.le_mul_of_pos_right n hm) h, Nat.le_trans (Nat.le_mul_of_pos_left m hn) h⟩
end Go.Proofs.Ytaebeglcoghehaa.PairMath
/- Plain facts: what an automaton of right lists takes, its tidy automaton takes, and no other tidy one; pairs of automata.
   Conditions: stated at each theorem. -/
namespace Go.Proofs.Ytaebeglcoghehaa.FirstTidy
set_option linter.unusedVariables false
set_option linter.unusedSimpArgs false
set_option linter.unusedSectionVars false
open TidyMath TidyClass TidyAuto TidyRight SpecFiner SpecRight PairMath First Sim

/-- Where a column leads. -/
def stA (A : Au) (s c : Nat) : Nat := (A.nx s).getD c 0
def stL (l : L) (s c : Nat) : Nat := (l.nx.getD s []).getD c 0
/-- Whether the tidy automaton takes a list of columns. -/
def Tk (l : L) (p : List Nat) : Bool := (tidL l).acc.getD (run (stL (tidL l)) 0 p) false

theorem stA_get {A : Au} {s c : Nat} (h : c < (A.nx s).length) : stA A s c = (A.nx s)[c] := by
  unfold stA; rw [List.getD_eq_getElem?_getD, List.getElem?_eq_getElem h, Option.getD_some]
theorem tidL_get {l : L} {s c : Nat} (hs : s < (tid (auM l) 0).length) (hc : c < ((auM l).nx (tid (auM l) 0)[s]).length) : stL (tidL l) s c = idx (cls (auM l) (stop (auM l) + 1)) (tid (auM l) 0) (((auM l).nx (tid (auM l) 0)[s])[c]) := by
  unfold stL tidL
  simp [List.getD, hs, hc]
theorem cls_acc (A : Au) (j : Nat) {s t : Nat} (hs : s < A.n) (h : cls A (j + 1) s = cls A (j + 1) t) : A.acc s = A.acc t := by
  induction j with
  | zero =>
    have := cls_finer A 0 hs h
    simp only [TidyAuto.cls] at this
    cases h1 : A.acc s <;> cases h2 : A.acc t <;> simp [h1, h2] at this ⊢
  | succ j ih => exact ih (cls_finer A (j + 1) hs h)
theorem tid_zero {A : Au} {x0 : Nat} : ∃ h : 0 < (tid A x0).length, (tid A x0)[0] = x0 := by
  have hp : met A x0 0 <+: tid A x0 := bfs_mono _ _ _ (Nat.zero_le _)
  have h1 : 0 < (met A x0 0).length := Nat.one_pos
  exact ⟨Nat.lt_of_lt_of_le h1 hp.length_le, prefix_get hp h1⟩

section
variable {l : L}
theorem stA_lt (h : l.Ok) {s c : Nat} (hs : s < (auM l).n) (hc : c < wide l.k) : stA (auM l) s c < (auM l).n := by
  unfold stA
  rw [List.getD_eq_getElem?_getD, List.getElem?_eq_getElem (by rw [auM_row h hs]; exact hc), Option.getD_some]
  exact (fits h).2 s hs _ (List.getElem_mem _)
theorem run_lt (h : l.Ok) (p : List Nat) (hp : Low (wide l.k) p) : run (stA (auM l)) 0 p < (auM l).n := by
  refine snoc_ind (P := fun p => Low (wide l.k) p → run (stA (auM l)) 0 p < (auM l).n) (fun _ => (fits h).1) (fun p c ih hp => ?_) p hp
  rw [run_snoc]
  exact stA_lt h (ih hp.head) hp.last
theorem run_class (h : l.Ok) (p : List Nat) (hp : Low (wide l.k) p) : ∃ ht : run (stL (tidL l)) 0 p < (tid (auM l) 0).length, cls (auM l) (stop (auM l) + 1) ((tid (auM l) 0)[run (stL (tidL l)) 0 p]) = cls (auM l) (stop (auM l) + 1) (run (stA (auM l)) 0 p) := by
  have hF := fits h
  refine snoc_ind (P := fun p => Low (wide l.k) p → ∃ ht : run (stL (tidL l)) 0 p < (tid (auM l) 0).length, cls (auM l) (stop (auM l) + 1) ((tid (auM l) 0)[run (stL (tidL l)) 0 p]) = cls (auM l) (stop (auM l) + 1) (run (stA (auM l)) 0 p)) (fun _ => ?_) (fun p c ih hp => ?_) p hp
  · obtain ⟨h0, e⟩ := tid_zero (A := auM l) (x0 := 0)
    exact ⟨h0, by show cls _ _ ((tid (auM l) 0)[0]) = cls _ _ 0; rw [e]⟩
  · obtain ⟨ht, e⟩ := ih hp.head
    have hc := hp.last
    have hs := run_lt h p hp.head
    have hu := met_lt hF (most (auM l)) _ (List.getElem_mem ht)
    have hu : (tid (auM l) 0)[run (stL (tidL l)) 0 p] < (auM l).n := hu
    have hsig := (cls_iff (auM l) (stop (auM l)) hu).1 e
    have hrow : ((auM l).nx (tid (auM l) 0)[run (stL (tidL l)) 0 p]).map (cls (auM l) (stop (auM l))) = ((auM l).nx (run (stA (auM l)) 0 p)).map (cls (auM l) (stop (auM l))) := congrArg Prod.snd hsig
    have hcu : c < ((auM l).nx (tid (auM l) 0)[run (stL (tidL l)) 0 p]).length := by rw [auM_row h hu]; exact hc
    have hcs : c < ((auM l).nx (run (stA (auM l)) 0 p)).length := by rw [auM_row h hs]; exact hc
    have e1 : cls (auM l) (stop (auM l)) (((auM l).nx (tid (auM l) 0)[run (stL (tidL l)) 0 p])[c]) = cls (auM l) (stop (auM l)) (((auM l).nx (run (stA (auM l)) 0 p))[c]) := by
      have := List.getElem_of_eq hrow (i := c) (by rw [List.length_map]; exact hcu)
      rwa [List.getElem_map, List.getElem_map] at this
    have hvu := hF.2 _ hu _ (List.getElem_mem hcu)
    have hvs := hF.2 _ hs _ (List.getElem_mem hcs)
    have e2 := stable (auM l) (stop_stops (auM l)) hvu hvs e1
    have eA : run (stA (auM l)) 0 (p ++ [c]) = ((auM l).nx (run (stA (auM l)) 0 p))[c] := by rw [run_snoc, stA_get hcs]
    have eT : run (stL (tidL l)) 0 (p ++ [c]) = idx (cls (auM l) (stop (auM l) + 1)) (tid (auM l) 0) (((auM l).nx (tid (auM l) 0)[run (stL (tidL l)) 0 p])[c]) := by rw [run_snoc, tidL_get ht hcu]
    have hok := tidL_ok h
    have hlen : (tidL l).acc.length = (tid (auM l) 0).length := by unfold tidL tidyAcc tidAcc; rw [List.length_map]
    have hlt : run (stL (tidL l)) 0 (p ++ [c]) < (tid (auM l) 0).length := by
      rw [run_snoc, ← hlen]
      exact hok.lt _ (by rw [hlen]; exact ht) c hc
    have hidx : idx (cls (auM l) (stop (auM l) + 1)) (tid (auM l) 0) (((auM l).nx (tid (auM l) 0)[run (stL (tidL l)) 0 p])[c]) < (tid (auM l) 0).length := by rw [← eT]; exact hlt
    refine ⟨hlt, ?_⟩
    rw [eA, ← e2, ← idx_key (cls (auM l) (stop (auM l) + 1)) hidx]
    congr 1
    exact getElem_congr_idx eT
theorem takesM (h : l.Ok) (p : List Nat) (hp : Low (wide l.k) p) : (auM l).acc (run (stA (auM l)) 0 p) = Tk l p := by
  obtain ⟨ht, e⟩ := run_class h p hp
  have hu : (tid (auM l) 0)[run (stL (tidL l)) 0 p] < (auM l).n := met_lt (fits h) (most (auM l)) _ (List.getElem_mem ht)
  rw [← cls_acc (auM l) (stop (auM l)) hu e]
  show _ = (tidyAcc l).getD _ false
  unfold tidyAcc tidAcc
  rw [List.getD_eq_getElem?_getD, List.getElem?_map, List.getElem?_eq_getElem ht]; rfl
theorem runP (h : l.Ok) (p : List Nat) (hp : Low (wide l.k) p) : run (stA (auP l)) 1 p = σ l (run (stA (auM l)) 0 p) := by
  refine snoc_ind (P := fun p => Low (wide l.k) p → run (stA (auP l)) 1 p = σ l (run (stA (auM l)) 0 p)) (fun _ => (TidyRight.start_eq l).symm) (fun p c ih hp => ?_) p hp
  have hs := run_lt h p hp.head
  have t := twin h
  rw [run_snoc, run_snoc, ih hp.head]
  have hcs : c < ((auM l).nx (run (stA (auM l)) 0 p)).length := by rw [auM_row h hs]; exact hp.last
  have e : (auP l).nx (σ l (run (stA (auM l)) 0 p)) = ((auM l).nx (run (stA (auM l)) 0 p)).map (σ l) := by rw [t.nx _ (t.gl _ hs), t.fg _ hs]
  rw [stA_get hcs, stA_get (by rw [e, List.length_map]; exact hcs), List.getElem_of_eq e, List.getElem_map]
theorem takesP (h : l.Ok) (p : List Nat) (hp : Low (wide l.k) p) : (auP l).acc (run (stA (auP l)) 1 p) = Tk l p := by
  have hs := run_lt h p hp
  have t := twin h
  rw [← takesM h p hp, runP h p hp, t.acc _ (t.gl _ hs), t.fg _ hs]
theorem none_takes (h : l.Ok) (hn : ∀ b ∈ l.acc, b = false) (p : List Nat) (hp : Low (wide l.k) p) : Tk l p = false := by
  rw [← takesM h p hp]
  have hs : run (stA (auM l)) 0 p < (F l).length + 1 := run_lt h p hp
  by_cases e : run (stA (auM l)) 0 p < (F l).length
  · rw [auM_acc e, List.getD_eq_getElem?_getD]
    cases hg : l.acc[((F l)[run (stA (auM l)) 0 p]).1]? with
    | none => rfl
    | some b =>
      obtain ⟨hi, e2⟩ := List.getElem?_eq_some_iff.1 hg
      exact hn b (e2 ▸ List.getElem_mem hi)
  · rw [show run (stA (auM l)) 0 p = (F l).length by omega]
    exact auM_acc_dead l
end

theorem ofN_inj {x y : List Nat} (h : ofN x = ofN y) : x = y := by
  unfold ofN at h
  induction x generalizing y with
  | nil => cases y with
    | nil => rfl
    | cons b r => simp at h
  | cons a r ih => cases y with
    | nil => simp at h
    | cons b q =>
      rw [List.map_cons, List.map_cons, List.cons.injEq] at h
      rw [ih h.2, Int.ofNat.inj h.1]
theorem map_inj' {α β : Type} {f : α → β} (hf : ∀ x y, f x = f y → x = y) : ∀ {l m : List α}, l.map f = m.map f → l = m
  | [], [], _ => rfl
  | [], _ :: _, h => by simp at h
  | _ :: _, [], h => by simp at h
  | a :: r, b :: q, h => by
    rw [List.map_cons, List.map_cons, List.cons.injEq] at h
    rw [hf _ _ h.1, map_inj' hf h.2]
theorem tidL_eq {l m : L} (hk : l.k = m.k) (ha : tidyAcc l = tidyAcc m) (hn : tidyNext l = tidyNext m) : tidL l = tidL m := by
  have h1 := congrArg (fun r => r.next) (tidL_rel l)
  have h2 := congrArg (fun r => r.next) (tidL_rel m)
  have h3 : (tidL l).nx.map ofN = (tidL m).nx.map ofN := h1.trans (hn.trans h2.symm)
  have h4 := map_inj' (fun _ _ => ofN_inj) h3
  have h5 : (tidL l).acc = (tidL m).acc := ha
  have h6 : (tidL l).k = (tidL m).k := hk
  have h7 : (tidL l).start = (tidL m).start := rfl
  cases hL : tidL l with
  | mk a b c d =>
    cases hM : tidL m with
    | mk a' b' c' d' =>
      rw [hL, hM] at h4 h5 h6 h7
      simp at h4 h5 h6 h7
      rw [h4, h5, h6, h7]
/-- Two tidy automata are the same just if they take the same lists. -/
theorem tidy_iff {l m : L} (hl : l.Ok) (hm : m.Ok) (hk : l.k = m.k) : (tidyAcc l = tidyAcc m ∧ tidyNext l = tidyNext m) ↔ ∀ p, Low (wide l.k) p → Tk l p = Tk m p := by
  constructor
  · rintro ⟨ha, hn⟩ p _
    unfold Tk
    rw [tidL_eq hk ha hn]
  · intro h
    have hs : Sim (auM l) (auM m) fun s t => ∃ p, Low (wide l.k) p ∧ run (stA (auM l)) 0 p = s ∧ run (stA (auM m)) 0 p = t := by
      refine ⟨?_, ?_, ?_, ?_, (fits hl).2, (fits hm).2⟩
      · rintro s t ⟨p, hp, rfl, rfl⟩; exact run_lt hl p hp
      · rintro s t ⟨p, hp, rfl, rfl⟩; exact run_lt hm p (hk ▸ hp)
      · rintro s t ⟨p, hp, rfl, rfl⟩; rw [takesM hl p hp, takesM hm p (hk ▸ hp), h p hp]
      · rintro s t ⟨p, hp, rfl, rfl⟩
        have h1 := auM_row hl (run_lt hl p hp)
        have h2 := auM_row hm (run_lt hm p (hk ▸ hp))
        refine P2.of_get (by rw [h1, h2, hk]) fun i hi hj => ⟨p ++ [i], hp.snoc (by rw [← h1]; exact hi), ?_, ?_⟩
        · rw [run_snoc, stA_get hi]
        · rw [run_snoc, stA_get hj]
    have h0 : ∃ p, Low (wide l.k) p ∧ run (stA (auM l)) 0 p = 0 ∧ run (stA (auM m)) 0 p = 0 := ⟨[], Low.nil _, rfl, rfl⟩
    exact ⟨hs.tidAcc h0, hs.tidNext h0⟩

/-! Pairs. -/
def stPP (l m : L) (x : Nat × Nat) (c : Nat) : Nat × Nat := (stA (auP l) x.1 c, stA (auP m) x.2 c)
theorem runPP (l m : L) (p : List Nat) : ∀ x, run (stPP l m) x p = (run (stA (auP l)) x.1 p, run (stA (auP m)) x.2 p) := by
  induction p with
  | nil => exact fun x => rfl
  | cons c r ih => exact fun x => ih _
theorem takesPP {l m : L} (hl : l.Ok) (hm : m.Ok) (hk : l.k = m.k) (g : Bool → Bool → Bool) (p : List Nat) (hp : Low (wide l.k) p) :
    g ((auP l).acc (run (stPP l m) (1, 1) p).1) ((auP m).acc (run (stPP l m) (1, 1) p).2) = g (Tk l p) (Tk m p) := by
  rw [runPP]
  show g ((auP l).acc (run (stA (auP l)) 1 p)) ((auP m).acc (run (stA (auP m)) 1 p)) = _
  rw [takesP hl p hp, takesP hm p (hk ▸ hp)]
theorem runL_lt {l : L} (h : l.Ok) {s : Nat} (hs : s < l.acc.length) (p : List Nat) (hp : Low (wide l.k) p) : run (stL l) s p < l.acc.length := by
  refine snoc_ind (P := fun p => Low (wide l.k) p → run (stL l) s p < l.acc.length) (fun _ => hs) (fun p c ih hp => ?_) p hp
  rw [run_snoc]
  exact h.lt _ (ih hp.head) c hp.last
theorem run_pair (t : Bool → Bool → Bool) {l m : L} (hl : l.Ok) (hm : m.Ok) (hk : l.k = m.k) (p : List Nat) (hp : Low (wide l.k) p) :
    run (stL (pairL t l m)) (pairL t l m).start p = run (stL l) l.start p * m.acc.length + run (stL m) m.start p := by
  refine snoc_ind (P := fun p => Low (wide l.k) p → run (stL (pairL t l m)) (pairL t l m).start p = run (stL l) l.start p * m.acc.length + run (stL m) m.start p) (fun _ => rfl) (fun p c ih hp => ?_) p hp
  have h1 := runL_lt hl hl.st p hp.head
  have h2 := runL_lt hm hm.st p (hk ▸ hp.head)
  rw [run_snoc, run_snoc, run_snoc, ih hp.head]
  have hx := pair_lt h1 h2
  have hc := hp.last
  generalize run (stL l) l.start p = a at h1 hx ⊢
  generalize run (stL m) m.start p = b at h2 hx ⊢
  unfold stL
  simp only [pairL, List.getD, List.getElem?_map, List.getElem?_range hx, List.getElem?_range hc, Option.map_some, Option.getD_some]
  rw [pair_div h2, pair_mod h2]
theorem takes_pair (t : Bool → Bool → Bool) {l m : L} (hl : l.Ok) (hm : m.Ok) (hk : l.k = m.k) (p : List Nat) (hp : Low (wide l.k) p) :
    (pairL t (tidL l) (tidL m)).acc.getD (run (stL (pairL t (tidL l) (tidL m))) (pairL t (tidL l) (tidL m)).start p) false = t (Tk l p) (Tk m p) := by
  have hl' := tidL_ok hl
  have hm' := tidL_ok hm
  have h1 := runL_lt hl' hl'.st p hp
  have h2 := runL_lt hm' hm'.st p (show Low (wide (tidL m).k) p from hk ▸ hp)
  rw [run_pair t hl' hm' hk p hp]
  have hx := pair_lt h1 h2
  unfold Tk
  show _ = t ((tidL l).acc.getD (run (stL (tidL l)) (tidL l).start p) false) ((tidL m).acc.getD (run (stL (tidL m)) (tidL m).start p) false)
  generalize run (stL (tidL l)) (tidL l).start p = a at h1 hx ⊢
  generalize run (stL (tidL m)) (tidL m).start p = b at h2 hx ⊢
  simp only [pairL, List.getD, List.getElem?_map, List.getElem?_range hx, Option.map_some, Option.getD_some]
  rw [pair_div h2, pair_mod h2]

/-- The first list for which something holds of what two automata take; none if there is no such list. -/
noncomputable def firstPP (g : Bool → Bool → Bool) (l m : L) : Option (List Nat) :=
  open Classical in if h : ∃ u, Lst (wide l.k) (fun p => g (Tk l p) (Tk m p) = true) u then some h.choose else none
theorem firstPP_some {g : Bool → Bool → Bool} {l m : L} {u : List Nat} (h : Lst (wide l.k) (fun p => g (Tk l p) (Tk m p) = true) u) : firstPP g l m = some u := by
  unfold firstPP
  have hex : ∃ u, Lst (wide l.k) (fun p => g (Tk l p) (Tk m p) = true) u := ⟨u, h⟩
  rw [dif_pos hex, hex.choose_spec.unique h]
theorem firstPP_none {g : Bool → Bool → Bool} {l m : L} (h : ∀ p, Low (wide l.k) p → ¬ g (Tk l p) (Tk m p) = true) : firstPP g l m = none := by
  unfold firstPP
  rw [dif_neg]
  rintro ⟨u, hu⟩
  exact h u hu.low hu.ok
end Go.Proofs.Ytaebeglcoghehaa.FirstTidy
/- Steps of a walk through two automata at once: lists of them (four numbers each) that a function makes and appends to; the table of pairs that are met; what the program's function that meets a pair does.
   Conditions: stated at each theorem. -/
namespace Go.Proofs.Ytaebeglcoghehaa.Steps
set_option linter.unusedVariables false
set_option linter.unusedSimpArgs false
open Go.RowKit Mem Copy Rel Heap Bld TidyMath First FirstTidy

structure Q where
  l : Nat
  r : Nat
  f : Nat
  c : Nat
def kq (q : Q) : Nat × Nat := (q.l, q.r)
def flat : List Q → List Value
  | [] => []
  | p :: t => .int .i64 (p.l : Nat) :: .int .i64 (p.r : Nat) :: .int .i64 (p.f : Nat) :: .int .i64 (p.c : Nat) :: flat t
theorem flat_length : ∀ ps : List Q, (flat ps).length = ps.length * 4
  | [] => rfl
  | p :: t => by rw [flat]; simp only [List.length_cons]; rw [flat_length t]; omega
theorem flat_append : ∀ (ps qs : List Q), flat (ps ++ qs) = flat ps ++ flat qs
  | [], qs => rfl
  | p :: t, qs => by rw [List.cons_append, flat, flat, flat_append t]; rfl
theorem flat_get : ∀ (ps : List Q) (i : Nat) (h : i < ps.length), (flat ps)[i * 4]? = some (.int .i64 (ps[i].l : Nat)) ∧ (flat ps)[i * 4 + 1]? = some (.int .i64 (ps[i].r : Nat)) ∧ (flat ps)[i * 4 + 2]? = some (.int .i64 (ps[i].f : Nat)) ∧ (flat ps)[i * 4 + 3]? = some (.int .i64 (ps[i].c : Nat))
  | p :: t, 0, h => ⟨rfl, rfl, rfl, rfl⟩
  | p :: t, i + 1, h => by
    have := flat_get t i (by simpa using h)
    rw [flat, show (i + 1) * 4 = i * 4 + 1 + 1 + 1 + 1 by omega]
    simp only [List.getElem?_cons_succ, List.getElem_cons_succ]
    exact this

/-- The slice value v is a list of the function's own of the steps ps. -/
def Stp (w : World) (B : Nat) (v : Value) (ps : List Q) : Prop := w.ownsRow B 140 4 v ps.length (flat ps)
section
variable {w w' : World} {B : Nat} {v : Value} {ps : List Q}
theorem Stp.nil (w : World) (B : Nat) : Stp w B (.slice none 0 0) [] := World.ownsRow_nil w B 140 4
theorem Stp.lt (h : Stp w B v ps) {k : Nat} (hk : v.ownBlock = some k) : k < w.heap.size := (World.ownsRow.lt h k hk).2
theorem Stp.ge (h : Stp w B v ps) {k : Nat} (hk : v.ownBlock = some k) : B ≤ k := (World.ownsRow.lt h k hk).1
theorem Stp.of_block (h : Stp w B v ps) (hb : ∀ k, v.ownBlock = some k → w'.heap[k]? = w.heap[k]?) : Stp w' B v ps := by
  refine ⟨h.1, ?_⟩
  rcases h.2 with h' | ⟨g, cap, cur, hv, hbg, hh, r⟩
  · exact .inl h'
  · refine .inr ⟨g, cap, cur, hv, hbg, ?_, r⟩
    rw [hb g (by rw [hv]; rfl)]; exact hh
theorem Stp.grown {row : Option Nat} (h : Stp w B v ps) (hg : w.grownBy w' row) (hr : ∀ k, row = some k → v.ownBlock ≠ some k) : Stp w' B v ps :=
  h.of_block fun k hk => hg.block k (h.lt hk) (fun e => hr k e.symm hk)
theorem Stp.below (h : Stp w B v ps) (hb : Below w.heap.size w w') : Stp w' B v ps :=
  h.of_block fun k hk => hb.block k (h.lt hk)
theorem Stp.alloc (h : Stp w B v ps) (o : Obj) : Stp (w.alloc o) B v ps := h.below ((Below.refl _ _).alloc (Nat.le_refl _) _)
theorem Stp.drewN (h : Stp w B v ps) (m : Nat) : Stp (w.drewN m) B v ps := h
theorem Stp.setOther (h : Stp w B v ps) {a : Addr} (ha : v.ownBlock ≠ some a.block) (u : Value) : Stp (w.setCell a u) B v ps :=
  h.of_block fun k hk => Below.heap_setCell _ _ _ _ (fun e => ha (by rw [← e]; exact hk))
theorem Stp.block (h : Stp w B v ps) (hn : 0 < ps.length) : ∃ g cap cur, v = .slice (some ⟨g, 0, none⟩) ps.length cap ∧ B ≤ g ∧ w.heap[g]? = some (.cells cur 140 (0, 0)) ∧
    ∀ i (hi : i < ps.length), cur[i * 4]? = some (.int .i64 (ps[i].l : Nat)) ∧ cur[i * 4 + 1]? = some (.int .i64 (ps[i].r : Nat)) ∧ cur[i * 4 + 2]? = some (.int .i64 (ps[i].f : Nat)) ∧ cur[i * 4 + 3]? = some (.int .i64 (ps[i].c : Nat)) := by
  rcases h.2 with ⟨rfl, h0⟩ | ⟨g, cap, cur, rfl, hbg, hh, hnc, hc, hs, ht⟩
  · omega
  · refine ⟨g, cap, cur, rfl, hbg, hh, fun i hi => ?_⟩
    have h1 := flat_get ps i hi
    rw [← ht] at h1
    simp only [List.getElem?_take] at h1
    rw [if_pos (by omega), if_pos (by omega), if_pos (by omega), if_pos (by omega)] at h1
    simpa using h1
theorem Stp.shape (h : Stp w B v ps) : ∃ a n cap, v = .slice a n cap ∧ Hid (n = ps.length) := by
  rcases h.2 with ⟨rfl, h0⟩ | ⟨g, cap, cur, rfl, -⟩
  · exact ⟨none, 0, 0, rfl, h0.symm⟩
  · exact ⟨_, _, _, rfl, rfl⟩
/-- The cells of a step. -/
theorem Stp.cells {g n cap : Nat} (h : Stp w B (.slice (some ⟨g, 0, none⟩) n cap) ps) {i : Nat} (hi : i < ps.length) :
    w.cell? ⟨g, i * 4, none⟩ = some (.int .i64 (ps[i].l : Nat)) ∧ w.cell? ⟨g, i * 4 + 1, none⟩ = some (.int .i64 (ps[i].r : Nat)) ∧ w.cell? ⟨g, i * 4 + 2, none⟩ = some (.int .i64 (ps[i].f : Nat)) ∧ w.cell? ⟨g, i * 4 + 3, none⟩ = some (.int .i64 (ps[i].c : Nat)) := by
  obtain ⟨g', cap', cur, hv, -, hh, hc⟩ := h.block (by omega)
  have e : (some (⟨g, 0, none⟩ : Addr)) = some ⟨g', 0, none⟩ := by injection hv
  cases e
  have h1 := hc i hi
  refine ⟨?_, ?_, ?_, ?_⟩
  · rw [cells_get hh]; exact h1.1
  · rw [cells_get hh]; exact h1.2.1
  · rw [cells_get hh]; exact h1.2.2.1
  · rw [cells_get hh]; exact h1.2.2.2
theorem Stp.addr {a : Option Addr} {n cap : Nat} (h : Stp w B (.slice a n cap) ps) (hn : 0 < ps.length) : ∃ g, a = some ⟨g, 0, none⟩ ∧ g < w.heap.size := by
  obtain ⟨g, cap', cur, hv, -, hh, -⟩ := h.block hn
  exact ⟨g, by injection hv, lt_of_block hh⟩
/-- Blocks of other kinds are other blocks. -/
theorem Stp.not_block {k : Nat} {c : Array Value} {t : TypeId} {r : Nat × Nat} (h : Stp w B v ps) (hb : w.heap[k]? = some (.cells c t r)) (ht : t ≠ 140) : v.ownBlock ≠ some k := by
  intro e
  rcases h.2 with ⟨rfl, -⟩ | ⟨g, cap, cur, rfl, hbg, hh, -⟩
  · cases e
  · cases e
    rw [hh] at hb
    cases hb
    exact ht rfl
theorem Stp.not_lst {B' : Nat} {t : TypeId} {v' : Value} {xs : List Value} (h : Stp w B v ps) (h' : Lst w B' t v' xs) (ht : t ≠ 140) (k : Nat) (e : v'.ownBlock = some k) : v.ownBlock ≠ some k := by
  rcases h'.2 with ⟨rfl, -⟩ | ⟨g, cap, cur, rfl, hbg, hh, -⟩
  · cases e
  · cases e
    exact h.not_block hh ht
end

theorem infoQ : (Try.prog.info? 140).map (fun i => (i.zero, i.size, i.bytes)) = some (some (.agg #[.int .i64 0, .int .i64 0, .int .i64 0, .int .i64 0]), 4, 32) := by kernel_rfl

structure PushedQ (w w' : World) (B : Nat) (v v' : Value) (ps : List Q) (p : Q) : Prop where
  stp : Stp w' B v' (ps ++ [p])
  grow : w.grownBy w' v.ownBlock
  at_ : v'.ownBlock = v.ownBlock ∨ ∃ g, v'.ownBlock = some g ∧ w.heap.size ≤ g

theorem wpList_pushQ {w : World} {ops : Array Oper} {rest : List Oper} {o : Oper} {a : Act} {K : Exit → Act → World → Prop} (hgd : o.guard = none) (s x : Operand)
    (ho : o.op = .call { callee := .builtin .append, args := #[s, x], argTypes := #[138, 138] })
    (B : Nat) (v : Value) (ps : List Q) (p : Q) (hown : Stp w B v ps) (hB : B ≤ w.heap.size) (hlen : ps.length ≤ 100000000) (hs : a.eval s = v) (N : Nat) (hx : a.eval x = .slice (some ⟨N, 0, none⟩) 1 1) (hN : w.heap.size = N)
    (h : ∀ v' w', PushedQ w w' B v v' ps p → wpList Try.prog ops K rest (a.put o.dst v') w') : wpList Try.prog ops K (o :: rest) a (w.alloc (.cells #[.int .i64 (p.l : Nat), .int .i64 (p.r : Nat), .int .i64 (p.f : Nat), .int .i64 (p.c : Nat)] 140)) := by
  obtain ⟨i, hi, hz, hsize, hbytes⟩ := info_parts infoQ
  subst hN
  refine wpList_append_own_at (P := Try.prog) _ hgd s x 138 ho B 140 i (.agg #[.int .i64 0, .int .i64 0, .int .i64 0, .int .i64 0]) 4 32 Try.underlying138 hi hz hsize hbytes rfl (by decide) v ps.length (flat ps) hs (Stp.alloc hown _) ⟨w.heap.size, 0, none⟩ 1 1 [.int .i64 (p.l : Nat), .int .i64 (p.r : Nat), .int .i64 (p.f : Nat), .int .i64 (p.c : Nat)] hx rfl ?_ ?_ (by unfold maxLen; omega) ?_ (by simp; omega) ?_
  · intro j u' hj
    match j, hj with
    | 0, hj => simp at hj; subst hj; exact World.cell?_alloc_mark ..
    | 1, hj => simp at hj; subst hj; exact World.cell?_alloc_mark ..
    | 2, hj => simp at hj; subst hj; exact World.cell?_alloc_mark ..
    | 3, hj => simp at hj; subst hj; exact World.cell?_alloc_mark ..
  · intro u' hu
    simp at hu
    rcases hu with rfl | rfl | rfl | rfl <;> rfl
  · have : (ps.length + 1) * 32 ≤ 100000001 * 32 := Nat.mul_le_mul (by omega) (Nat.le_refl _)
    omega
  · intro v' w' hown' hg _ hat
    refine h v' w' ⟨?_, grown_trans_alloc hg, ?_⟩
    · unfold Stp
      rw [List.length_append, flat_append]
      exact hown'
    · rcases hat with e | e
      · exact .inl e
      · exact .inr ⟨_, e, by simp⟩

/-- A table of truth values. -/
def tb (n : Nat) (T : Nat → Bool) : List Value := (List.range n).map fun i => Value.bool (T i)
theorem tb_length (n : Nat) (T : Nat → Bool) : (tb n T).length = n := by simp [tb]
theorem tb_get (n : Nat) (T : Nat → Bool) {i : Nat} (h : i < (tb n T).length) : (tb n T)[i] = .bool (T i) := by simp [tb]
theorem tb_congr {n : Nat} {T S : Nat → Bool} (h : ∀ i, i < n → T i = S i) : tb n T = tb n S := by
  unfold tb
  exact List.map_congr_left fun i hi => by rw [h i (List.mem_range.1 hi)]
theorem tb_set (n : Nat) (T : Nat → Bool) (k : Nat) (x : Bool) : (tb n T).set k (.bool x) = tb n fun i => if i = k then x else T i := by
  apply List.ext_getElem
  · simp [tb]
  · intro i h1 h2
    rw [List.getElem_set, tb_get _ _ h2]
    by_cases e : k = i
    · subst e; simp
    · rw [if_neg e, if_neg (fun h : i = k => e h.symm), tb_get n T (by rw [List.length_set] at h1; exact h1)]
theorem tb_rep (n : Nat) (x : Bool) : List.replicate n (Value.bool x) = tb n fun _ => x := by
  apply List.ext_getElem
  · simp [tb]
  · intro i h1 h2; simp [tb]

/-- Whether the pair with a number has been met. -/
def metB (m : Nat) (P : List Q) (i : Nat) : Bool := decide (idx kq P ⟨i / m, i % m, 0, 0⟩ < P.length)
def code (m : Nat) (q : Q) : Nat := q.l * m + q.r
theorem code_key {m : Nat} {q : Q} (h : q.r < m) : kq ⟨code m q / m, code m q % m, 0, 0⟩ = kq q := by
  unfold code kq
  show ((q.l * m + q.r) / m, (q.l * m + q.r) % m) = (q.l, q.r)
  rw [PairMath.pair_div h, PairMath.pair_mod h]
theorem metB_nil (m i : Nat) : metB m [] i = false := by simp [metB]
theorem metB_at {m : Nat} {P : List Q} {q : Q} (h : q.r < m) : metB m P (code m q) = decide (idx kq P q < P.length) := by
  unfold metB; rw [idx_congr kq (code_key h)]
theorem metB_push {m : Nat} {P : List Q} {q : Q} (h : q.r < m) (hn : ¬ idx kq P q < P.length) (i : Nat) : metB m (P ++ [q]) i = if i = code m q then true else metB m P i := by
  by_cases e : i = code m q
  · rw [if_pos e, e, metB_at h, idx_snoc]
    have := idx_le kq P q
    exact decide_eq_true (by rw [List.length_append]; simp; omega)
  · rw [if_neg e]
    have hne : kq ⟨i / m, i % m, 0, 0⟩ ≠ kq q := fun h' => e (by
      have h' : (i / m, i % m) = (q.l, q.r) := h'
      rw [Prod.mk.injEq] at h'
      unfold code
      rw [← h'.1, ← h'.2, Nat.mul_comm]
      exact (Nat.div_add_mod i m).symm)
    unfold metB
    by_cases h1 : idx kq P ⟨i / m, i % m, 0, 0⟩ < P.length
    · rw [decide_eq_true h1, idx_append kq h1]
      exact decide_eq_true (by rw [List.length_append]; omega)
    · rw [decide_eq_false h1]
      refine decide_eq_false ?_
      intro h2
      have h3 := idx_key kq h2
      have h4 : (P ++ [q])[idx kq (P ++ [q]) ⟨i / m, i % m, 0, 0⟩] ∈ P ++ [q] := List.getElem_mem h2
      rcases List.mem_append.1 h4 with h5 | h5
      · exact h1 (idx_lt_of_mem kq h5 h3)
      · rw [List.mem_singleton] at h5
        rw [h5] at h3
        exact hne h3.symm

/-- What has been met, in memory: a variable with the table, one with the list. -/
structure Met (w : World) (B bm bs g n m : Nat) (v : Value) (P : List Q) : Prop where
  boxM : w.heap[bm]? = some (.cells #[.slice (some ⟨g, 0, none⟩) n n] 22 (0, 0))
  boxS : w.heap[bs]? = some (.cells #[v] 138 (0, 0))
  tab : Lst w B 4 (.slice (some ⟨g, 0, none⟩) n n) (tb n (metB m P))
  lst : Stp w B v P
  bsB : B ≤ bs
  bms : bm ≠ bs

/-- What else there was stays. -/
structure MetFrame (w w' : World) (bs g : Nat) (v v' : Value) : Prop where
  os : w'.os = w.os
  tape : w'.tape = w.tape
  output : w'.output = w.output
  size : w.heap.size ≤ w'.heap.size
  block : ∀ k, k < w.heap.size → k ≠ bs → k ≠ g → v.ownBlock ≠ some k → w'.heap[k]? = w.heap[k]?
  at_ : v'.ownBlock = v.ownBlock ∨ ∃ q, v'.ownBlock = some q ∧ w.heap.size ≤ q

section
variable {w w' : World} {B bm bs g n m : Nat} {v v' : Value} {P : List Q}
theorem Met.drewN (h : Met w B bm bs g n m v P) (k : Nat) : Met (w.drewN k) B bm bs g n m v P := ⟨h.boxM, h.boxS, h.tab, h.lst, h.bsB, h.bms⟩
theorem Met.below (h : Met w B bm bs g n m v P) (hb : Below w.heap.size w w') : Met w' B bm bs g n m v P :=
  ⟨by rw [hb.block _ (lt_of_block h.boxM)]; exact h.boxM, by rw [hb.block _ (lt_of_block h.boxS)]; exact h.boxS, h.tab.below hb, h.lst.below hb, h.bsB, h.bms⟩
theorem Met.alloc (h : Met w B bm bs g n m v P) (o : Obj) : Met (w.alloc o) B bm bs g n m v P := h.below ((Below.refl _ _).alloc (Nat.le_refl _) _)
/-- All that lies below is left as it is. -/
theorem MetFrame.below (h : MetFrame w w' bs g v v') (hm : Met w B bm bs g n m v P) (hB : B ≤ w.heap.size) : Below B w w' :=
  ⟨h.os, h.tape, h.output, h.size, fun k hk => h.block k (by omega) (by have := hm.bsB; omega) (fun e => by have := hm.tab.ge (k := g) rfl; omega) (fun e => by have := hm.lst.ge e; omega)⟩
end

/-- What the walk needs of a pair that is new, and what it is in the end. -/
structure MetStep (w w5 : World) (B bm bs g n m y : Nat) (v v' : Value) (P : List Q) (p : Q) : Prop where
  box : w5.heap[bs]? = some (.cells #[v] 138 (0, 0))
  met : Met (w5.setCell ⟨bs, 0, none⟩ v') B bm bs g n m v' (P ++ [p])
  frame : MetFrame w (w5.setCell ⟨bs, 0, none⟩ v') bs g v v'

theorem Met.new {w w5 : World} {B bm bs g n m : Nat} {v v' : Value} {P : List Q} {p : Q} (h : Met w B bm bs g n m v P) (hp8 : p.r < m) (hc : code m p < n) (hidx : ¬ idx kq P p < P.length) (o : Obj)
    (hp5 : PushedQ ((w.setCell ⟨g, code m p, none⟩ (.bool true)).alloc o) w5 B v v' P p) : MetStep w w5 B bm bs g n m (code m p) v v' P p := by
  have hsg : bs ≠ g := fun e => block_apart h.tab h.boxS (by decide) (by rw [e]; rfl)
  have hmg : bm ≠ g := fun e => block_apart h.tab h.boxM (by decide) (by rw [e]; rfl)
  have hvs : v.ownBlock ≠ some bs := h.lst.not_block h.boxS (by decide)
  have hvm : v.ownBlock ≠ some bm := h.lst.not_block h.boxM (by decide)
  have hvg : v.ownBlock ≠ some g := h.lst.not_lst h.tab (by decide) g rfl
  have hsz : ((w.setCell ⟨g, code m p, none⟩ (.bool true)).alloc o).heap.size = w.heap.size + 1 := by rw [size_alloc']; simp [World.setCell]
  have hk : ∀ k, k < w.heap.size → k ≠ g → v.ownBlock ≠ some k → w5.heap[k]? = w.heap[k]? := fun k h1 h2 h3 => by
    rw [hp5.grow.block k (by omega) (fun e => h3 e.symm), Below.heap_alloc _ _ _ (by simpa [World.setCell] using h1), Below.heap_setCell _ _ _ _ h2]
  have lm := lt_of_block h.boxM
  have ls := lt_of_block h.boxS
  have t1 := h.tab.set (i := code m p) (by rw [tb_length]; exact hc) (.bool true)
  rw [tb_set] at t1
  have e1 : tb n (fun i => if i = code m p then true else metB m P i) = tb n (metB m (P ++ [p])) := tb_congr fun i _ => by rw [metB_push hp8 hidx]
  rw [e1] at t1
  have t5 := (t1.alloc o).grown hp5.grow fun k hk' e => h.lst.not_lst h.tab (by decide) k e hk'
  have b5' := (hk bs ls hsg hvs).trans h.boxS
  refine ⟨b5', ⟨?_, ?_, ?_, ?_, h.bsB, h.bms⟩, ⟨?_, ?_, ?_, ?_, ?_, ?_⟩⟩
  · rw [Below.heap_setCell _ _ _ _ h.bms, hk bm lm hmg hvm]; exact h.boxM
  · exact cells_set b5' 0 v'
  · exact t5.setOther (fun e => hsg (by injection e with e; exact e.symm)) _
  · exact hp5.stp.setOther (hp5.stp.not_block b5' (by decide)) _
  · exact hp5.grow.os
  · exact hp5.grow.tape
  · exact hp5.grow.output
  · have := hp5.grow.size; simp only [World.setCell, Array.size_modify] at *; omega
  · intro k h1 h2 h3 h4
    rw [Below.heap_setCell _ _ _ _ h2, hk k h1 h3 h4]
  · rcases hp5.at_ with e | ⟨q, e, hq⟩
    · exact .inl e
    · exact .inr ⟨q, e, by omega⟩

set_option maxHeartbeats 1000000 in
theorem meet (p : Q) (w : World) (B bS bm bs g n m cs : Nat) (sa : Option Addr) (v : Value) (P : List Q) (h : Met w B bm bs g n m v P) (hB : B ≤ w.heap.size) (hS : w.cell? ⟨bS, 3, none⟩ = some (.slice sa m cs)) (hl : p.l ≤ 10000) (hp8 : p.r < m) (hm : m ≤ 10000) (hc : code m p < n) (hP : P.length ≤ 100000000) :
    Calls Try.prog 119 #[.agg #[.int .i64 (p.l : Nat), .int .i64 (p.r : Nat), .int .i64 (p.f : Nat), .int .i64 (p.c : Nat)], .pointer (some ⟨bS, 0, none⟩), .pointer (some ⟨bm, 0, none⟩), .pointer (some ⟨bs, 0, none⟩)] w fun e w' =>
      e = .returned (.tuple #[]) ∧ ∃ v', Met w' B bm bs g n m v' (TidyMath.meet kq P p) ∧ MetFrame w w' bs g v v' := by
  have HM := Lib.hid h
  have cM := cells_get h.boxM 0
  have cS := cells_get h.boxS 0
  simp at cM cS
  have lM := lt_of_block h.boxM
  have lS := lt_of_block h.boxS
  have fS := cells_free h.boxS 0
  have cN := h.tab.cellOf (i := code m p) (by rw [tb_length]; exact hc)
  rw [tb_get, metB_at hp8] at cN
  have lN := World.block_lt_of_cell? _ _ cN
  have fN := h.tab.free (code m p)
  have lB := World.block_lt_of_cell? _ _ hS
  have hn : code m p ≤ 100010000 := by
    unfold code
    have : p.l * m ≤ 10000 * 10000 := Nat.mul_le_mul hl hm
    omega
  obtain ⟨a5, n5, cp5, rfl, HN5⟩ := h.lst.shape
  have hw1 : IntKind.i64.wrap ((p.l : Int) * (m : Int)) = (p.l : Int) * (m : Int) := by
    have h1 : p.l * m ≤ 10000 * 10000 := Nat.mul_le_mul hl hm
    have h2 : ((p.l * m : Nat) : Int) = (p.l : Int) * (m : Int) := Int.natCast_mul _ _
    rw [IntKind.wrap_i64]; omega
  have hw2 : IntKind.i64.wrap ((p.l : Int) * (m : Int) + (p.r : Int)) = ((code m p : Nat) : Int) := by
    have h2 : ((p.l * m : Nat) : Int) = (p.l : Int) * (m : Int) := Int.natCast_mul _ _
    have h3 : ((code m p : Nat) : Int) = (p.l : Int) * (m : Int) + (p.r : Int) := by unfold code; omega
    rw [IntKind.wrap_i64]; omega
  obtain ⟨y, hy⟩ : ∃ y, y = code m p := ⟨_, rfl⟩
  obtain ⟨d, hd⟩ : ∃ d, d = idx kq P p := ⟨_, rfl⟩
  have HD := Lib.hid hd
  have HY := Lib.hid hy
  have HP8 := Lib.hid hp8
  rw [← hy] at cN fN hc hw2 hn
  rw [← hd] at cN
  have HNW := Lib.hid (fun (hi : ¬ idx kq P p < P.length) o w5 v' hp5 => HM.out.new (w5 := w5) (v' := v') HP8.out (by rw [← HY.out]; exact hc) hi o hp5)
  rw [← HY.out] at HNW
  obtain ⟨pl, pr, pf, pc⟩ := p
  simp only at hw1 hw2
  clear h hy hd
  by_cases hlt : d < P.length
  · rw [decide_eq_true hlt] at cN
    have HMM := Lib.hid (show TidyMath.meet kq P ⟨pl, pr, pf, pc⟩ = P by unfold TidyMath.meet; rw [if_pos (by rw [← HD.out]; exact hlt)])
    go_enter Try.func119, Try.ntmps119
    go_wp2_with fail
    go_end0
    exact ⟨rfl, _, by rw [HMM.out]; exact HM.out.alloc _, ⟨rfl, rfl, rfl, by simp, fun k hk _ _ _ => Below.heap_alloc _ _ _ hk, .inl rfl⟩⟩
  · rw [decide_eq_false hlt] at cN
    have HMM := Lib.hid (show TidyMath.meet kq P ⟨pl, pr, pf, pc⟩ = P ++ [⟨pl, pr, pf, pc⟩] by unfold TidyMath.meet; rw [if_neg (by rw [← HD.out]; exact hlt)])
    have hsg : bs ≠ g := fun e => block_apart HM.out.tab HM.out.boxS (by decide) (by rw [e]; rfl)
    have hsg' : g ≠ bs := Ne.symm hsg
    have HI := Lib.hid (show ¬ idx kq P ⟨pl, pr, pf, pc⟩ < P.length by rw [← HD.out]; exact hlt)
    have HPL := Lib.hid (show Stp (w.setCell ⟨g, y, none⟩ (.bool true)) B (.slice a5 n5 cp5) P from HM.out.lst.setOther (a := ⟨g, y, none⟩) (HM.out.lst.not_lst HM.out.tab (by decide) g rfl) _)
    have HBB := Lib.hid (show B ≤ (w.setCell ⟨g, y, none⟩ (.bool true)).heap.size by simpa [World.setCell] using hB)
    have HLL := Lib.hid hP
    clear hP
    go_enter Try.func119, Try.ntmps119
    go_wp2_with (at_builtin; refine wpList_pushQ rfl _ _ rfl B (.slice a5 n5 cp5) P ⟨pl, pr, pf, pc⟩ (HPL.out.alloc _) (by rw [size_alloc']; exact Nat.le_succ_of_le HBB.out) HLL.out rfl _ rfl (by simp [World.setCell]) ?_; intro v5 w5 hp5; have HS := Lib.hid (HNW.out HI.out _ _ _ hp5); obtain ⟨a6, n6, cp6, rfl, HN6⟩ := hp5.stp.shape; have q5 := cells_get HS.out.box 0; have z5 := cells_free HS.out.box 0; have l5' := lt_of_block HS.out.box; simp at q5; clear hp5)
    go_end0
    exact ⟨rfl, _, by rw [HMM.out]; exact HS.out.met, HS.out.frame⟩
end Go.Proofs.Ytaebeglcoghehaa.Steps
