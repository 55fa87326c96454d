
/- Plain facts on automata whose states are numbered in two ways: their classes, step by step, and what is made of them.
   Conditions: stated at each theorem. -/
import Derived.Test.YtaebeglcoghehaaCN1
namespace Go.Proofs.Ytaebeglcoghehaa.TidyAuto
set_option linter.unusedVariables false
set_option linter.unusedSimpArgs false
open TidyMath TidyClass

structure Au where
  n : Nat
  acc : Nat → Bool
  nx : Nat → List Nat

def sig (A : Au) (c : Nat → Nat) (s : Nat) : Nat × List Nat := (c s, (A.nx s).map c)
def cls (A : Au) : Nat → Nat → Nat
  | 0, s => if A.acc s then 1 else 0
  | j + 1, s => idx (sig A (cls A j)) (reps (sig A (cls A j)) A.n) s
def cn (A : Au) : Nat → Nat
  | 0 => 0
  | j + 1 => (reps (sig A (cls A j)) A.n).length

theorem cls_lt (A : Au) (j : Nat) {s : Nat} (h : s < A.n) : cls A (j + 1) s < cn A (j + 1) := reps_has _ h
theorem cls_iff (A : Au) (j : Nat) {s t : Nat} (h : s < A.n) : cls A (j + 1) s = cls A (j + 1) t ↔ sig A (cls A j) s = sig A (cls A j) t := num_iff _ h
theorem cls_finer (A : Au) (j : Nat) {s t : Nat} (h : s < A.n) (e : cls A (j + 1) s = cls A (j + 1) t) : cls A j s = cls A j t := by
  have := (cls_iff A j h).1 e
  exact congrArg Prod.fst this
theorem cn_le (A : Au) (j : Nat) : cn A j ≤ A.n := by
  cases j with
  | zero => exact Nat.zero_le _
  | succ j => exact reps_le _ _
theorem cn_mono (A : Au) (j : Nat) : cn A j ≤ cn A (j + 1) := by
  cases j with
  | zero => exact Nat.zero_le _
  | succ j => exact reps_le_of (sig A (cls A (j + 1))) (sig A (cls A j)) A.n A.n id (fun p h => h) (fun p q hp _ e => (cls_iff A j hp).1 (congrArg Prod.fst e))
theorem cn_mono' (A : Au) {i j : Nat} (h : i ≤ j) : cn A i ≤ cn A j := by
  obtain ⟨k, rfl⟩ : ∃ k, j = i + k := ⟨j - i, by omega⟩
  clear h
  induction k with
  | zero => exact Nat.le_refl _
  | succ k ih => exact Nat.le_trans ih (cn_mono A (i + k))

/-- The classes stop being refined at step j. -/
def Stops (A : Au) (j : Nat) : Prop := cn A (j + 1) = cn A j ∧ ∀ i, i < j → cn A (i + 1) ≠ cn A i
theorem Stops.unique {A : Au} {i j : Nat} (h : Stops A i) (k : Stops A j) : i = j := by
  rcases Nat.lt_trichotomy i j with h1 | h1 | h1
  · exact absurd h.1 (k.2 i h1)
  · exact h1
  · exact absurd k.1 (h.2 j h1)
theorem cn_grows (A : Au) (j : Nat) (h : ∀ i, i < j → cn A (i + 1) ≠ cn A i) : j ≤ cn A j := by
  induction j with
  | zero => exact Nat.zero_le _
  | succ j ih =>
    have h1 := ih fun i hi => h i (by omega)
    have h2 := h j (by omega)
    have h3 := cn_mono A j
    omega
theorem stops_exists (A : Au) : ∃ j, Stops A j := by
  apply Classical.byContradiction
  intro hn
  have : ∀ j, ∀ i, i < j → cn A (i + 1) ≠ cn A i := by
    intro j
    induction j with
    | zero => exact fun i h => absurd h (Nat.not_lt_zero i)
    | succ j ih =>
      intro i hi e
      by_cases hij : i < j
      · exact ih i hij e
      · obtain rfl : i = j := by omega
        exact hn ⟨i, e, ih⟩
  have h1 := cn_grows A (A.n + 1) (this _)
  have h2 := cn_le A (A.n + 1)
  omega
/-- The step at which they stop. -/
def stop (A : Au) : Nat := ((List.range (A.n + 1)).find? fun j => decide (cn A (j + 1) = cn A j)).getD 0
theorem stop_stops (A : Au) : Stops A (stop A) := by
  obtain ⟨j, hj⟩ := stops_exists A
  have hjn : j < A.n + 1 := by have := cn_grows A j hj.2; have := cn_le A j; omega
  have : (List.range (A.n + 1)).find? (fun j => decide (cn A (j + 1) = cn A j)) = some j := by
    rw [List.find?_range_eq_some]
    refine ⟨by simpa using hj.1, List.mem_range.2 hjn, fun i hi => by simpa using hj.2 i hi⟩
  unfold stop
  rw [this]
  exact hj
theorem stable (A : Au) {j : Nat} (hj : Stops A j) {s t : Nat} (hs : s < A.n) (ht : t < A.n) (e : cls A j s = cls A j t) : cls A (j + 1) s = cls A (j + 1) t := by
  cases j with
  | zero =>
    have h1 : cn A 1 = 0 := hj.1
    have h2 : 0 < cn A 1 := reps_pos _ (Nat.lt_of_le_of_lt (Nat.zero_le s) hs)
    omega
  | succ j =>
    rw [cls_iff A (j + 1) hs]
    refine same_classes (sig A (cls A j)) (sig A (cls A (j + 1))) A.n (fun p q hp _ e => (cls_iff A j hp).1 (congrArg Prod.fst e)) hj.1 hs ht ?_
    exact (cls_iff A j hs).1 e

/-! The classes that are met from state x0 on. -/
def sucs (A : Au) (s : Nat) : List (Option Nat) := (A.nx s).map some
def met (A : Au) (x0 : Nat) (i : Nat) : List Nat := bfs (cls A (stop A + 1)) (sucs A) x0 i
def most (A : Au) : Nat := cn A (stop A + 1)
def Fits (A : Au) (x0 : Nat) : Prop := x0 < A.n ∧ ∀ s, s < A.n → ∀ t ∈ A.nx s, t < A.n
theorem met_lt {A : Au} {x0 : Nat} (h : Fits A x0) (i : Nat) : ∀ x ∈ met A x0 i, x < A.n :=
  bfs_all _ _ _ (fun x => x < A.n) h.1 (fun x hx y hy => by
    obtain ⟨z, hz, e⟩ := List.mem_map.1 hy
    have e' := Option.some.inj e
    rw [← e']
    exact h.2 x hx z hz) i
theorem met_few {A : Au} {x0 : Nat} (h : Fits A x0) (i : Nat) : (met A x0 i).length ≤ most A :=
  dist_few _ (bfs_dist _ _ _ i) (cls A (stop A + 1)) _ (fun _ _ _ _ e => e) (fun x hx => cls_lt A _ (met_lt h i x hx))
def tid (A : Au) (x0 : Nat) : List Nat := met A x0 (most A)
def tidAcc (A : Au) (x0 : Nat) : List Bool := (tid A x0).map A.acc
def tidRow (A : Au) (x0 : Nat) (s : Nat) : List Int := (A.nx s).map fun t => ((idx (cls A (stop A + 1)) (tid A x0) t : Nat) : Int)
def tidNext (A : Au) (x0 : Nat) : List (List Int) := (tid A x0).map (tidRow A x0)

/-- If all states but one are reached, so are their classes. -/
theorem tid_many {A : Au} {x0 : Nat} (h : Fits A x0) (dead : Nat) (hr : ∀ s, s < A.n → s ≠ dead → s = x0 ∨ ∃ t, t < s ∧ t ≠ dead ∧ s ∈ A.nx t) : most A ≤ (tid A x0).length + 1 := by
  have hB := met_few h
  have hall : ∀ k s, s ≤ k → s < A.n → s ≠ dead → idx (cls A (stop A + 1)) (tid A x0) s < (tid A x0).length := by
    intro k
    induction k with
    | zero =>
      intro s hk hs hd
      rcases hr s hs hd with rfl | ⟨t, ht, -⟩
      · have hp : bfs (cls A (stop A + 1)) (sucs A) s 0 <+: tid A s := bfs_mono _ _ _ (Nat.zero_le _)
        exact idx_lt_of_mem _ (hp.subset (List.mem_singleton_self s)) rfl
      · omega
    | succ k ih =>
      intro s hk hs hd
      rcases hr s hs hd with rfl | ⟨t, ht, htd, hm⟩
      · have hp : bfs (cls A (stop A + 1)) (sucs A) s 0 <+: tid A s := bfs_mono _ _ _ (Nat.zero_le _)
        exact idx_lt_of_mem _ (hp.subset (List.mem_singleton_self s)) rfl
      · have hi := ih t (by omega) (by omega) htd
        obtain ⟨u, hu⟩ : ∃ u, u = (tid A x0)[idx (cls A (stop A + 1)) (tid A x0) t] := ⟨_, rfl⟩
        have huk : cls A (stop A + 1) u = cls A (stop A + 1) t := hu ▸ idx_key _ hi
        have hun := met_lt h (most A) u (hu ▸ List.getElem_mem hi)
        have hsig := (cls_iff A (stop A) hun).1 huk
        have hrow : (A.nx u).map (cls A (stop A)) = (A.nx t).map (cls A (stop A)) := congrArg Prod.snd hsig
        have hin : cls A (stop A) s ∈ (A.nx u).map (cls A (stop A)) := by rw [hrow]; exact List.mem_map_of_mem hm
        obtain ⟨v, hv, hve⟩ := List.mem_map.1 hin
        have hvn := h.2 u hun v hv
        have hvs := stable A (stop_stops A) hvn hs hve
        have hjb := end_before _ _ _ hB (i := idx (cls A (stop A + 1)) (tid A x0) t) hi
        have hget : (bfs (cls A (stop A + 1)) (sucs A) x0 (idx (cls A (stop A + 1)) (tid A x0) t))[idx (cls A (stop A + 1)) (tid A x0) t] = u := by
          rw [hu]
          exact (prefix_get (end_prefix _ _ _ hB _) hjb).symm
        have hjm : idx (cls A (stop A + 1)) (tid A x0) t < most A := Nat.lt_of_lt_of_le hi (hB _)
        have hf := bfs_found (cls A (stop A + 1)) (sucs A) x0 hjm hjb v (by rw [hget]; exact List.mem_map_of_mem hv)
        have : idx (cls A (stop A + 1)) (tid A x0) v = idx (cls A (stop A + 1)) (tid A x0) s := idx_congr _ hvs
        rw [← this]
        exact hf
  have hd := reps_dist (sig A (cls A (stop A))) A.n
  have hl := reps_lt (sig A (cls A (stop A))) A.n
  have h1 : ((reps (sig A (cls A (stop A))) A.n).filter fun s => decide (s ≠ dead)).length ≤ (tid A x0).length := by
    have hnd : (((reps (sig A (cls A (stop A))) A.n).filter fun s => decide (s ≠ dead)).map fun s => idx (cls A (stop A + 1)) (tid A x0) s).Nodup := by
      have hn0 : (reps (sig A (cls A (stop A))) A.n).Pairwise fun a b => sig A (cls A (stop A)) a ≠ sig A (cls A (stop A)) b := by
        rw [List.pairwise_iff_getElem]
        intro i j hi hj hij e
        have := hd i j hi hj e
        omega
      have hn1 : ((reps (sig A (cls A (stop A))) A.n).filter fun s => decide (s ≠ dead)).Pairwise fun a b => sig A (cls A (stop A)) a ≠ sig A (cls A (stop A)) b := hn0.filter _
      rw [List.nodup_iff_pairwise_ne, List.pairwise_map]
      refine List.Pairwise.imp_of_mem ?_ hn1
      intro a b ha hb hne e
      rw [List.mem_filter] at ha hb
      have ha' := hall a a (Nat.le_refl _) (hl a ha.1) (by simpa using ha.2)
      have e2 := key_of_idx _ ha' e
      exact hne ((cls_iff A (stop A) (hl a ha.1)).1 e2)
    have := few (tid A x0).length _ hnd (by
      intro y hy
      obtain ⟨s, hs, rfl⟩ := List.mem_map.1 hy
      rw [List.mem_filter] at hs
      exact hall s s (Nat.le_refl _) (hl s hs.1) (by simpa using hs.2))
    rwa [List.length_map] at this
  have h2 : (reps (sig A (cls A (stop A))) A.n).length ≤ ((reps (sig A (cls A (stop A))) A.n).filter fun s => decide (s ≠ dead)).length + 1 := by
    have hnn : (reps (sig A (cls A (stop A))) A.n).Nodup := by
      have := nodup_map _ hd (id : Nat → Nat) (fun x _ y _ e => by rw [show x = y from e])
      simpa using this
    have hc := List.length_eq_countP_add_countP (fun s => decide (s ≠ dead)) (l := reps (sig A (cls A (stop A))) A.n)
    rw [List.countP_eq_length_filter, List.countP_eq_length_filter] at hc
    have hcf : (reps (sig A (cls A (stop A))) A.n).filter (fun a => decide ¬decide (a ≠ dead) = true) = (reps (sig A (cls A (stop A))) A.n).filter fun s => !decide (s ≠ dead) := by
      congr 1; funext a; by_cases h : a = dead <;> simp [h]
    rw [hcf] at hc
    have hone : ((reps (sig A (cls A (stop A))) A.n).filter fun s => !decide (s ≠ dead)).length ≤ 1 := by
      have hnf := hnn.filter (fun s => !decide (s ≠ dead))
      have := few 1 (((reps (sig A (cls A (stop A))) A.n).filter fun s => !decide (s ≠ dead)).map fun s => s - dead) (by
        rw [List.nodup_iff_pairwise_ne, List.pairwise_map]
        refine List.Pairwise.imp_of_mem ?_ (List.nodup_iff_pairwise_ne.1 hnf)
        intro a b ha hb hne e
        rw [List.mem_filter] at ha hb
        simp at ha hb
        omega) (by
        intro y hy
        obtain ⟨s, hs, rfl⟩ := List.mem_map.1 hy
        rw [List.mem_filter] at hs
        simp at hs
        omega)
      rwa [List.length_map] at this
    omega
  have h3 : most A = (reps (sig A (cls A (stop A))) A.n).length := rfl
  omega

/-! TWO NUMBERINGS of one automaton's states. -/
structure Twin (A B : Au) (f g : Nat → Nat) : Prop where
  size : B.n = A.n
  fl : ∀ p, p < A.n → f p < A.n
  gl : ∀ s, s < A.n → g s < A.n
  fg : ∀ s, s < A.n → f (g s) = s
  gf : ∀ p, p < A.n → g (f p) = p
  acc : ∀ p, p < A.n → B.acc p = A.acc (f p)
  nx : ∀ p, p < A.n → B.nx p = (A.nx (f p)).map g
  nl : ∀ s, s < A.n → ∀ t ∈ A.nx s, t < A.n

theorem map_iff {c d : Nat → Nat} {l m : List Nat} (h : ∀ x ∈ l, ∀ y ∈ m, (c x = c y ↔ d x = d y)) : l.map c = m.map c ↔ l.map d = m.map d := by
  induction l generalizing m with
  | nil => cases m <;> simp
  | cons x r ih =>
    cases m with
    | nil => simp
    | cons y q =>
      rw [List.map_cons, List.map_cons, List.map_cons, List.map_cons, List.cons.injEq, List.cons.injEq, h x List.mem_cons_self y List.mem_cons_self,
        ih (m := q) (fun a ha b hb => h a (List.mem_cons_of_mem _ ha) b (List.mem_cons_of_mem _ hb))]

theorem Twin.cls {A B : Au} {f g : Nat → Nat} (h : Twin A B f g) (j : Nat) : ∀ p q, p < A.n → q < A.n → (cls B j p = cls B j q ↔ cls A j (f p) = cls A j (f q)) := by
  induction j with
  | zero => intro p q hp hq; simp only [TidyAuto.cls]; rw [h.acc p hp, h.acc q hq]
  | succ j ih =>
    intro p q hp hq
    rw [cls_iff B j (by rw [h.size]; exact hp), cls_iff A j (h.fl p hp)]
    unfold sig
    rw [Prod.mk.injEq, Prod.mk.injEq, ih p q hp hq, h.nx p hp, h.nx q hq, List.map_map, List.map_map]
    have : (A.nx (f p)).map (TidyAuto.cls B j ∘ g) = (A.nx (f q)).map (TidyAuto.cls B j ∘ g) ↔ (A.nx (f p)).map (TidyAuto.cls A j) = (A.nx (f q)).map (TidyAuto.cls A j) := by
      refine map_iff fun x hx y hy => ?_
      have hx' := h.nl _ (h.fl p hp) x hx
      have hy' := h.nl _ (h.fl q hq) y hy
      show TidyAuto.cls B j (g x) = TidyAuto.cls B j (g y) ↔ _
      rw [ih (g x) (g y) (h.gl x hx') (h.gl y hy'), h.fg x hx', h.fg y hy']
    rw [this]
theorem Twin.sig {A B : Au} {f g : Nat → Nat} (h : Twin A B f g) (j : Nat) {p q : Nat} (hp : p < A.n) (hq : q < A.n) : sig B (TidyAuto.cls B j) p = sig B (TidyAuto.cls B j) q ↔ sig A (TidyAuto.cls A j) (f p) = sig A (TidyAuto.cls A j) (f q) := by
  rw [← cls_iff B j (by rw [h.size]; exact hp), ← cls_iff A j (h.fl p hp)]
  exact h.cls (j + 1) p q hp hq
theorem Twin.cn {A B : Au} {f g : Nat → Nat} (h : Twin A B f g) (j : Nat) : cn B j = cn A j := by
  cases j with
  | zero => rfl
  | succ j =>
    have h1 : TidyAuto.cn B (j + 1) ≤ TidyAuto.cn A (j + 1) :=
      reps_le_of (TidyAuto.sig A (TidyAuto.cls A j)) (TidyAuto.sig B (TidyAuto.cls B j)) A.n B.n f (fun p hp => h.fl p (h.size ▸ hp)) (fun p q hp hq e => (h.sig j (h.size ▸ hp) (h.size ▸ hq)).2 e)
    have h2 : TidyAuto.cn A (j + 1) ≤ TidyAuto.cn B (j + 1) :=
      reps_le_of (TidyAuto.sig B (TidyAuto.cls B j)) (TidyAuto.sig A (TidyAuto.cls A j)) B.n A.n g (fun s hs => by rw [h.size]; exact h.gl s hs) (fun s t hs ht e => by
        have := (h.sig j (h.gl s hs) (h.gl t ht)).1 e
        rwa [h.fg s hs, h.fg t ht] at this)
    omega
theorem Twin.stop {A B : Au} {f g : Nat → Nat} (h : Twin A B f g) : stop B = stop A := by
  refine (stop_stops B).unique ?_
  have := stop_stops A
  exact ⟨by rw [h.cn, h.cn]; exact this.1, fun i hi => by rw [h.cn, h.cn]; exact this.2 i hi⟩

theorem findIdx_congr {α : Type} {p q : α → Bool} {l : List α} (h : ∀ x ∈ l, p x = q x) : l.findIdx p = l.findIdx q := by
  induction l with
  | nil => rfl
  | cons x r ih =>
    rw [List.findIdx_cons, List.findIdx_cons, h x List.mem_cons_self, ih fun y hy => h y (List.mem_cons_of_mem _ hy)]
theorem idx_map {A B : Au} {f g : Nat → Nat} (h : Twin A B f g) (j : Nat) {l : List Nat} (hl : ∀ x ∈ l, x < A.n) {x : Nat} (hx : x < A.n) :
    idx (cls B j) (l.map g) (g x) = idx (cls A j) l x := by
  unfold idx
  rw [List.findIdx_map]
  refine findIdx_congr fun y hy => ?_
  show decide (cls B j (g y) = cls B j (g x)) = decide (cls A j y = cls A j x)
  have := h.cls j (g y) (g x) (h.gl y (hl y hy)) (h.gl x hx)
  rw [h.fg y (hl y hy), h.fg x hx] at this
  exact decide_eq_decide.2 this
theorem meet_map {A B : Au} {f g : Nat → Nat} (h : Twin A B f g) (j : Nat) {l : List Nat} (hl : ∀ x ∈ l, x < A.n) {x : Nat} (hx : x < A.n) :
    meet (cls B j) (l.map g) (g x) = (meet (cls A j) l x).map g := by
  unfold meet
  rw [idx_map h j hl hx, List.length_map]
  split
  · rfl
  · rw [List.map_append]; rfl
theorem row_map {A B : Au} {f g : Nat → Nat} (h : Twin A B f g) (j : Nat) (xs : List Nat) (hxs : ∀ x ∈ xs, x < A.n) : ∀ {l : List Nat}, (∀ x ∈ l, x < A.n) →
    row (cls B j) (l.map g) ((xs.map g).map some) = (row (cls A j) l (xs.map some)).map g := by
  induction xs with
  | nil => intro l _; rfl
  | cons x r ih =>
    intro l hl
    show row (cls B j) (meet (cls B j) (l.map g) (g x)) ((r.map g).map some) = _
    rw [meet_map h j hl (hxs x List.mem_cons_self), ih (fun y hy => hxs y (List.mem_cons_of_mem _ hy))]
    · rfl
    · intro y hy
      unfold meet at hy
      split at hy
      · exact hl y hy
      · rcases List.mem_append.1 hy with hy | hy
        · exact hl y hy
        · rw [List.mem_singleton] at hy; subst hy; exact hxs y List.mem_cons_self
theorem Twin.met {A B : Au} {f g : Nat → Nat} (h : Twin A B f g) {x0 : Nat} (hx : x0 < A.n) (i : Nat) : met B (g x0) i = (met A x0 i).map g := by
  have hf : Fits A x0 := ⟨hx, h.nl⟩
  induction i with
  | zero => rfl
  | succ i ih =>
    unfold TidyAuto.met at ih ⊢
    have hl := met_lt hf i
    unfold TidyAuto.met at hl
    by_cases hi : i < (bfs (TidyAuto.cls A (TidyAuto.stop A + 1)) (sucs A) x0 i).length
    · have hi' : i < (bfs (TidyAuto.cls B (TidyAuto.stop B + 1)) (sucs B) (g x0) i).length := by rw [ih, List.length_map]; exact hi
      rw [bfs_succ _ _ _ hi, bfs_succ _ _ _ hi']
      have hgi : (bfs (TidyAuto.cls B (TidyAuto.stop B + 1)) (sucs B) (g x0) i)[i] = g (bfs (TidyAuto.cls A (TidyAuto.stop A + 1)) (sucs A) x0 i)[i] := by
        rw [List.getElem_of_eq ih hi', List.getElem_map]
      have hlt := hl _ (List.getElem_mem hi)
      obtain ⟨u, hu⟩ : ∃ u, u = (bfs (TidyAuto.cls A (TidyAuto.stop A + 1)) (sucs A) x0 i)[i] := ⟨_, rfl⟩
      rw [← hu] at hgi hlt ⊢
      rw [hgi, ih]
      have hB : sucs B (g u) = ((A.nx u).map g).map some := by
        show (B.nx (g u)).map some = _
        rw [h.nx _ (h.gl _ hlt), h.fg _ hlt]
      rw [hB, h.stop]
      exact row_map h _ _ (fun x hx => h.nl _ hlt x hx) hl
    · rw [bfs_stop (TidyAuto.cls A (TidyAuto.stop A + 1)) _ _ (by omega), bfs_stop (TidyAuto.cls B (TidyAuto.stop B + 1)) _ _ (by rw [ih, List.length_map]; omega), ih]
theorem Twin.most {A B : Au} {f g : Nat → Nat} (h : Twin A B f g) : most B = most A := by
  unfold TidyAuto.most; rw [h.stop, h.cn]
theorem Twin.tid {A B : Au} {f g : Nat → Nat} (h : Twin A B f g) {x0 : Nat} (hx : x0 < A.n) : tid B (g x0) = (tid A x0).map g := by
  unfold TidyAuto.tid; rw [h.most, h.met hx]
theorem Twin.tidAcc {A B : Au} {f g : Nat → Nat} (h : Twin A B f g) {x0 : Nat} (hx : x0 < A.n) : tidAcc B (g x0) = tidAcc A x0 := by
  unfold TidyAuto.tidAcc
  rw [h.tid hx, List.map_map]
  refine List.map_congr_left fun x hm => ?_
  have hlt := met_lt ⟨hx, h.nl⟩ _ x hm
  show B.acc (g x) = A.acc x
  rw [h.acc _ (h.gl x hlt), h.fg x hlt]
theorem Twin.tidNext {A B : Au} {f g : Nat → Nat} (h : Twin A B f g) {x0 : Nat} (hx : x0 < A.n) : tidNext B (g x0) = tidNext A x0 := by
  unfold TidyAuto.tidNext
  rw [h.tid hx, List.map_map]
  refine List.map_congr_left fun x hm => ?_
  have hlt := met_lt ⟨hx, h.nl⟩ _ x hm
  show tidRow B (g x0) (g x) = tidRow A x0 x
  unfold tidRow
  rw [h.nx _ (h.gl x hlt), h.fg x hlt, List.map_map]
  refine List.map_congr_left fun y hy => ?_
  have hyl := h.nl x hlt y hy
  show ((idx _ (TidyAuto.tid B (g x0)) (g y) : Nat) : Int) = _
  have hm := met_lt ⟨hx, h.nl⟩ (TidyAuto.most A)
  rw [h.tid hx, h.stop, idx_map h _ (l := TidyAuto.tid A x0) hm hyl]
end Go.Proofs.Ytaebeglcoghehaa.TidyAuto
/- Plain facts on the automaton of right columns: places are states with the tapes that have ended.
   Conditions: stated at each theorem. -/
namespace Go.Proofs.Ytaebeglcoghehaa.TidyRight
set_option linter.unusedVariables false
set_option linter.unusedSimpArgs false
open TidyMath TidyClass TidyAuto

/-- The tapes on which a column has pads, as bits. -/
def pd (k : Nat) (c : Nat) : Nat := ((List.range k).map fun t => if c / 3 ^ t % 3 = 2 then 2 ^ t else 0).foldl (· + ·) 0
/-- All tapes that have ended before have pads. -/
def fol (e p : Nat) : Bool := decide (e &&& p = e)
/-- So many columns. -/
def wide (k : Nat) : Nat := 3 ^ k - 1

/-- What is read of a relation: its number of tapes, its lists. -/
structure L where
  k : Nat
  start : Nat
  acc : List Bool
  nx : List (List Nat)

structure L.Ok (r : L) : Prop where
  k0 : 1 ≤ r.k
  k3 : r.k ≤ 3
  st : r.start < r.acc.length
  len : r.nx.length = r.acc.length
  row : ∀ s, s < r.acc.length → (r.nx.getD s []).length = wide r.k
  lt : ∀ s, s < r.acc.length → ∀ c, c < wide r.k → (r.nx.getD s []).getD c 0 < r.acc.length

def succR (r : L) (p : Nat × Nat) : List (Option (Nat × Nat)) :=
  (List.range (wide r.k)).map fun c => if fol p.2 (pd r.k c) = true then some ((r.nx.getD p.1 []).getD c 0, pd r.k c) else none

theorem wide_cases {k : Nat} (h0 : 1 ≤ k) (h3 : k ≤ 3) : wide k = 2 ∨ wide k = 8 ∨ wide k = 26 := by
  have : k = 1 ∨ k = 2 ∨ k = 3 := by omega
  rcases this with rfl | rfl | rfl
  · exact .inl rfl
  · exact .inr (.inl rfl)
  · exact .inr (.inr rfl)
theorem pd_lt8 {k c : Nat} (h3 : k ≤ 3) (hc : c < 26) : pd k c < 8 := by
  have h : ∀ k, k < 4 → ∀ c, c < 26 → pd k c < 8 := by decide
  exact h k (by omega) c hc
theorem pd_lt {k c : Nat} (h3 : k ≤ 3) (hc : c < 26) : pd k c < 2 ^ k := by
  have h : ∀ k, k < 4 → ∀ c, c < 26 → pd k c < 2 ^ k := by decide
  exact h k (by omega) c hc

theorem succR_length (r : L) (p : Nat × Nat) : (succR r p).length = wide r.k := by simp [succR]
theorem succR_get (r : L) (p : Nat × Nat) {c : Nat} (hc : c < wide r.k) : (succR r p)[c]'(by rw [succR_length]; exact hc) = if fol p.2 (pd r.k c) = true then some ((r.nx.getD p.1 []).getD c 0, pd r.k c) else none := by
  simp [succR]

def places (r : L) (i : Nat) : List (Nat × Nat) := bfs id (succR r) (r.start, 0) i
def D (r : L) (p : Nat × Nat) : Prop := p.1 < r.acc.length ∧ p.2 < 2 ^ r.k

theorem D_succ {r : L} (h : r.Ok) (x : Nat × Nat) (hx : D r x) (y : Nat × Nat) (hy : some y ∈ succR r x) : D r y := by
  unfold succR at hy
  obtain ⟨c, hc, e⟩ := List.mem_map.1 hy
  rw [List.mem_range] at hc
  split at e
  · have e' := Option.some.inj e
    subst e'
    have hw := wide_cases h.k0 h.k3
    exact ⟨h.lt x.1 hx.1 c hc, pd_lt h.k3 (by omega)⟩
  · cases e
theorem places_D {r : L} (h : r.Ok) (i : Nat) : ∀ p ∈ places r i, D r p :=
  bfs_all _ _ _ (D r) ⟨h.st, Nat.two_pow_pos _⟩ (D_succ h) i
theorem pow_le8 {k : Nat} (h3 : k ≤ 3) : 2 ^ k ≤ 8 := by
  have : k = 0 ∨ k = 1 ∨ k = 2 ∨ k = 3 := by omega
  rcases this with rfl | rfl | rfl | rfl <;> decide
theorem places_len {r : L} (h : r.Ok) (i : Nat) : (places r i).length ≤ r.acc.length * 8 := by
  have h8 := pow_le8 h.k3
  refine dist_few id (bfs_dist _ _ _ i) (fun p => p.1 * 8 + p.2) _ (fun x hx y hy e => ?_) (fun x hx => ?_)
  · have hx' := places_D h i x hx
    have hy' := places_D h i y hy
    unfold D at hx' hy'
    have e : x.1 * 8 + x.2 = y.1 * 8 + y.2 := e
    show x = y
    exact Prod.ext (by omega) (by omega)
  · have hx' := places_D h i x hx
    unfold D at hx'
    show x.1 * 8 + x.2 < _
    omega
/-- All places that are met. -/
def F (r : L) : List (Nat × Nat) := places r (r.acc.length * 8)
def num (r : L) (p : Nat × Nat) : Nat := idx id (F r) p

/-- The automaton, the state to which other columns lead being the last one. -/
def rowM (r : L) (p : Nat × Nat) : List Nat := (succR r p).map fun | some q => num r q | none => (F r).length
def accM (r : L) : List Bool := (F r).map (fun p => r.acc.getD p.1 false) ++ [false]
def nxM (r : L) : List (List Nat) := (F r).map (rowM r) ++ [List.replicate (wide r.k) (F r).length]
def auM (r : L) : Au := ⟨(F r).length + 1, fun s => (accM r).getD s false, fun s => (nxM r).getD s []⟩
/-- The same, this state being the first one. -/
def rowP (r : L) (p : Nat × Nat) : List Nat := (succR r p).map fun | some q => num r q + 1 | none => 0
def accP (r : L) : List Bool := false :: (F r).map (fun p => r.acc.getD p.1 false)
def nxP (r : L) : List (List Nat) := List.replicate (wide r.k) 0 :: (F r).map (rowP r)
def auP (r : L) : Au := ⟨(F r).length + 1, fun s => (accP r).getD s false, fun s => (nxP r).getD s []⟩

theorem F_pos (r : L) : 0 < (F r).length := bfs_pos _ _ _ _
theorem F_get0 (r : L) : (F r)[0]'(F_pos r) = (r.start, 0) := by
  have hp : places r 0 <+: F r := bfs_mono _ _ _ (Nat.zero_le _)
  exact prefix_get hp (show 0 < (places r 0).length from Nat.one_pos)
theorem num_lt {r : L} (h : r.Ok) {s : Nat} (hs : s < (F r).length) {q : Nat × Nat} (hq : some q ∈ succR r (F r)[s]) : num r q < (F r).length := by
  have hB := places_len h
  have hb := end_before id (succR r) (r.start, 0) hB hs
  have hg : (bfs id (succR r) (r.start, 0) s)[s] = (F r)[s] := (prefix_get (end_prefix id (succR r) (r.start, 0) hB s) hb).symm
  refine bfs_found id (succR r) (r.start, 0) (i := r.acc.length * 8) (j := s) (Nat.lt_of_lt_of_le hs (hB _)) hb q ?_
  rw [hg]; exact hq

def σ (r : L) (s : Nat) : Nat := if s = (F r).length then 0 else s + 1
def τ (r : L) (p : Nat) : Nat := if p = 0 then (F r).length else p - 1

theorem auM_nx {r : L} {s : Nat} (hs : s < (F r).length) : (auM r).nx s = rowM r (F r)[s] := by
  show (nxM r).getD s [] = _
  unfold nxM
  rw [List.getD_eq_getElem?_getD, List.getElem?_append_left (by rw [List.length_map]; exact hs)]
  simp [hs]
theorem auM_dead (r : L) : (auM r).nx (F r).length = List.replicate (wide r.k) (F r).length := by
  show (nxM r).getD _ [] = _
  unfold nxM
  rw [List.getD_eq_getElem?_getD, List.getElem?_append_right (by rw [List.length_map]; exact Nat.le_refl _)]
  simp
theorem auP_nx {r : L} {s : Nat} (hs : s < (F r).length) : (auP r).nx (s + 1) = rowP r (F r)[s] := by
  show (nxP r).getD (s + 1) [] = _
  unfold nxP
  simp [hs]
theorem auM_acc {r : L} {s : Nat} (hs : s < (F r).length) : (auM r).acc s = r.acc.getD (F r)[s].1 false := by
  show (accM r).getD s false = _
  unfold accM
  rw [List.getD_eq_getElem?_getD, List.getElem?_append_left (by rw [List.length_map]; exact hs)]
  simp [hs]
theorem auM_acc_dead (r : L) : (auM r).acc (F r).length = false := by
  show (accM r).getD _ false = _
  unfold accM
  rw [List.getD_eq_getElem?_getD, List.getElem?_append_right (by rw [List.length_map]; exact Nat.le_refl _)]
  simp
theorem auP_acc {r : L} {s : Nat} (hs : s < (F r).length) : (auP r).acc (s + 1) = r.acc.getD (F r)[s].1 false := by
  show (accP r).getD (s + 1) false = _
  unfold accP
  simp [hs]

theorem rowM_lt {r : L} (h : r.Ok) {s : Nat} (hs : s < (F r).length) : ∀ t ∈ rowM r (F r)[s], t < (F r).length + 1 := by
  intro t ht
  obtain ⟨o, ho, rfl⟩ := List.mem_map.1 ht
  cases o with
  | none => exact Nat.lt_succ_self _
  | some q => have := num_lt h hs ho; show num r q < _; omega
theorem rowP_of {r : L} (h : r.Ok) {s : Nat} (hs : s < (F r).length) : rowP r (F r)[s] = (rowM r (F r)[s]).map (σ r) := by
  unfold rowP rowM
  rw [List.map_map]
  refine List.map_congr_left fun o ho => ?_
  cases o with
  | none => simp [σ]
  | some q =>
    have := num_lt h hs ho
    show num r q + 1 = σ r (num r q)
    unfold σ
    rw [if_neg (by omega)]

theorem fits {r : L} (h : r.Ok) : Fits (auM r) 0 := by
  refine ⟨Nat.succ_pos _, fun s hs t ht => ?_⟩
  have hs' : s < (F r).length + 1 := hs
  by_cases hl : s < (F r).length
  · rw [auM_nx hl] at ht
    exact rowM_lt h hl t ht
  · obtain rfl : s = (F r).length := by omega
    rw [auM_dead] at ht
    have := List.eq_of_mem_replicate ht
    subst this
    exact Nat.lt_succ_self _

theorem twin {r : L} (h : r.Ok) : Twin (auM r) (auP r) (τ r) (σ r) where
  size := rfl
  fl := fun p hp => by
    have hp' : p < (F r).length + 1 := hp
    show τ r p < (F r).length + 1
    unfold τ; split <;> omega
  gl := fun s hs => by
    have hs' : s < (F r).length + 1 := hs
    show σ r s < (F r).length + 1
    unfold σ; split <;> omega
  fg := fun s hs => by
    have hs' : s < (F r).length + 1 := hs
    unfold σ τ
    by_cases e : s = (F r).length
    · rw [if_pos e, if_pos rfl, e]
    · rw [if_neg e, if_neg (by omega)]; omega
  gf := fun p hp => by
    have hp' : p < (F r).length + 1 := hp
    unfold σ τ
    by_cases e : p = 0
    · rw [if_pos e, if_pos rfl, e]
    · rw [if_neg e, if_neg (by omega)]; omega
  acc := fun p hp => by
    have hp' : p < (F r).length + 1 := hp
    unfold τ
    cases p with
    | zero => rw [if_pos rfl, auM_acc_dead]; rfl
    | succ s => rw [if_neg (by omega), Nat.add_sub_cancel, auM_acc (by omega), auP_acc (by omega)]
  nx := fun p hp => by
    have hp' : p < (F r).length + 1 := hp
    unfold τ
    cases p with
    | zero =>
      rw [if_pos rfl, auM_dead, List.map_replicate]
      show List.replicate (wide r.k) 0 = _
      unfold σ
      rw [if_pos rfl]
    | succ s => rw [if_neg (by omega), Nat.add_sub_cancel, auM_nx (by omega), auP_nx (by omega), rowP_of h]
  nl := fun s hs t ht => (fits h).2 s hs t ht

/-- The tidy relation: what both make. -/
def tidyAcc (r : L) : List Bool := tidAcc (auM r) 0
def tidyNext (r : L) : List (List Int) := tidNext (auM r) 0
theorem start_eq (r : L) : σ r 0 = 1 := by
  have := F_pos r
  unfold σ
  rw [if_neg (by omega)]
theorem tidyP {r : L} (h : r.Ok) : tid (auP r) 1 = (tid (auM r) 0).map (σ r) ∧ tidAcc (auP r) 1 = tidyAcc r ∧ tidNext (auP r) 1 = tidyNext r := by
  have t := twin h
  have h0 : 0 < (auM r).n := Nat.succ_pos _
  have a := t.tid h0
  have b := t.tidAcc h0
  have c := t.tidNext h0
  rw [start_eq] at a b c
  exact ⟨a, b, c⟩

theorem many {r : L} (h : r.Ok) : most (auM r) ≤ (tid (auM r) 0).length + 1 := by
  refine tid_many (fits h) (F r).length fun s hs hd => ?_
  have hs' : s < (F r).length + 1 := hs
  have hsl : s < (F r).length := by omega
  by_cases h0 : s = 0
  · exact .inl h0
  · right
    obtain ⟨t, y, ht, hy, e⟩ := bfs_origin id (succR r) (r.start, 0) (r.acc.length * 8) s hsl (by omega)
    have htl : t < (F r).length := by omega
    refine ⟨t, ht, by omega, ?_⟩
    rw [auM_nx htl]
    unfold rowM
    rw [List.mem_map]
    refine ⟨some y, hy, ?_⟩
    show idx id (F r) y = s
    rw [← e]
    exact idx_self id (bfs_dist _ _ _ _) hsl
end Go.Proofs.Ytaebeglcoghehaa.TidyRight
/- Two automata whose states take the same lists of columns step by step have the same tidy automaton.
   Conditions: stated at each theorem. -/
namespace Go.Proofs.Ytaebeglcoghehaa.Sim
set_option linter.unusedVariables false
set_option linter.unusedSimpArgs false
open TidyMath TidyClass TidyAuto TidyRight

/-- Two lists whose elements stand in a relation, one by one. -/
def P2 {α β : Type} (R : α → β → Prop) : List α → List β → Prop
  | [], [] => True
  | x :: l, y :: m => R x y ∧ P2 R l m
  | _, _ => False
section
variable {α β γ : Type} {R : α → β → Prop}
theorem P2.length {l : List α} {m : List β} (h : P2 R l m) : l.length = m.length := by
  induction l generalizing m with
  | nil => cases m with
    | nil => rfl
    | cons y q => exact h.elim
  | cons x r ih => cases m with
    | nil => exact h.elim
    | cons y q => rw [List.length_cons, List.length_cons, ih h.2]
theorem P2.get {l : List α} {m : List β} (h : P2 R l m) (i : Nat) (hi : i < l.length) (hj : i < m.length) : R l[i] m[i] := by
  induction l generalizing m i with
  | nil => exact absurd hi (Nat.not_lt_zero i)
  | cons x r ih => cases m with
    | nil => exact h.elim
    | cons y q =>
      cases i with
      | zero => exact h.1
      | succ i => exact ih h.2 i (by simpa using hi) (by simpa using hj)
theorem P2.snoc {l : List α} {m : List β} (h : P2 R l m) {x : α} {y : β} (hxy : R x y) : P2 R (l ++ [x]) (m ++ [y]) := by
  induction l generalizing m with
  | nil => cases m with
    | nil => exact ⟨hxy, trivial⟩
    | cons y q => exact h.elim
  | cons z r ih => cases m with
    | nil => exact h.elim
    | cons y q => exact ⟨h.1, ih h.2⟩
theorem P2.map_eq {l : List α} {m : List β} (h : P2 R l m) {f : α → γ} {g : β → γ} (hfg : ∀ x y, R x y → f x = g y) : l.map f = m.map g := by
  induction l generalizing m with
  | nil => cases m with
    | nil => rfl
    | cons y q => exact h.elim
  | cons z r ih => cases m with
    | nil => exact h.elim
    | cons y q => rw [List.map_cons, List.map_cons, hfg _ _ h.1, ih h.2]
theorem P2.mono {S : α → β → Prop} {l : List α} {m : List β} (h : P2 R l m) (hs : ∀ x y, R x y → S x y) : P2 S l m := by
  induction l generalizing m with
  | nil => cases m with
    | nil => trivial
    | cons y q => exact h.elim
  | cons z r ih => cases m with
    | nil => exact h.elim
    | cons y q => exact ⟨hs _ _ h.1, ih h.2⟩
theorem P2.of_get {l : List α} {m : List β} (hl : l.length = m.length) (h : ∀ i (hi : i < l.length) (hj : i < m.length), R l[i] m[i]) : P2 R l m := by
  induction l generalizing m with
  | nil => cases m with
    | nil => trivial
    | cons y q => simp at hl
  | cons z r ih => cases m with
    | nil => simp at hl
    | cons y q =>
      refine ⟨h 0 (by simp) (by simp), ih (by simpa using hl) fun i hi hj => ?_⟩
      exact h (i + 1) (by simpa using hi) (by simpa using hj)
theorem P2.iff {c : α → γ} {d : β → γ} {l l' : List α} {m m' : List β} (h : P2 R l m) (h' : P2 R l' m') (hc : ∀ x y x' y', R x y → R x' y' → (c x = c x' ↔ d y = d y')) : l.map c = l'.map c ↔ m.map d = m'.map d := by
  induction l generalizing m l' m' with
  | nil => cases m with
    | nil => cases l' with
      | nil => cases m' with
        | nil => exact Iff.rfl
        | cons y q => exact h'.elim
      | cons x r => cases m' with
        | nil => exact h'.elim
        | cons y q => simp
    | cons y q => exact h.elim
  | cons x r ih => cases m with
    | nil => exact h.elim
    | cons y q => cases l' with
      | nil => cases m' with
        | nil => simp
        | cons y q => exact h'.elim
      | cons x' r' => cases m' with
        | nil => exact h'.elim
        | cons y' q' =>
          rw [List.map_cons, List.map_cons, List.map_cons, List.map_cons, List.cons.injEq, List.cons.injEq, hc _ _ _ _ h.1 h'.1, ih h.2 h'.2]
end

/-- The states of two automata, step by step. -/
structure Sim (A B : Au) (R : Nat → Nat → Prop) : Prop where
  ltA : ∀ s t, R s t → s < A.n
  ltB : ∀ s t, R s t → t < B.n
  acc : ∀ s t, R s t → A.acc s = B.acc t
  nx : ∀ s t, R s t → P2 R (A.nx s) (B.nx t)
  fA : ∀ s, s < A.n → ∀ t ∈ A.nx s, t < A.n
  fB : ∀ s, s < B.n → ∀ t ∈ B.nx s, t < B.n

theorem Sim.cls {A B : Au} {R : Nat → Nat → Prop} (h : Sim A B R) (j : Nat) : ∀ s t s' t', R s t → R s' t' → (cls A j s = cls A j s' ↔ cls B j t = cls B j t') := by
  induction j with
  | zero => intro s t s' t' h1 h2; simp only [TidyAuto.cls]; rw [h.acc _ _ h1, h.acc _ _ h2]
  | succ j ih =>
    intro s t s' t' h1 h2
    rw [cls_iff A j (h.ltA _ _ h1), cls_iff B j (h.ltB _ _ h1)]
    unfold sig
    rw [Prod.mk.injEq, Prod.mk.injEq, ih _ _ _ _ h1 h2, P2.iff (h.nx _ _ h1) (h.nx _ _ h2) ih]

/-- Behind the step at which they stop the classes stay. -/
theorem cls_stay (A : Au) (hf : ∀ s, s < A.n → ∀ t ∈ A.nx s, t < A.n) (k : Nat) : ∀ s t, s < A.n → t < A.n → (cls A (stop A + k) s = cls A (stop A + k) t ↔ cls A (stop A + k + 1) s = cls A (stop A + k + 1) t) := by
  induction k with
  | zero => intro s t hs ht; exact ⟨stable A (stop_stops A) hs ht, cls_finer A _ hs⟩
  | succ k ih =>
    intro s t hs ht
    refine ⟨fun e => ?_, cls_finer A _ hs⟩
    have e1 : TidyAuto.cls A (stop A + k + 1) s = TidyAuto.cls A (stop A + k + 1) t := e
    rw [cls_iff A (stop A + (k + 1)) hs]
    have h1 := (cls_iff A (stop A + k) hs).1 e1
    refine Prod.ext e ?_
    have h2 : (A.nx s).map (TidyAuto.cls A (stop A + k)) = (A.nx t).map (TidyAuto.cls A (stop A + k)) := congrArg Prod.snd h1
    refine (map_iff fun x hx y hy => ?_).1 h2
    exact ih x y (hf s hs x hx) (hf t ht y hy)
theorem cls_end (A : Au) (hf : ∀ s, s < A.n → ∀ t ∈ A.nx s, t < A.n) (k : Nat) : ∀ s t, s < A.n → t < A.n → (cls A (stop A + 1) s = cls A (stop A + 1) t ↔ cls A (stop A + 1 + k) s = cls A (stop A + 1 + k) t) := by
  induction k with
  | zero => intro s t _ _; exact Iff.rfl
  | succ k ih =>
    intro s t hs ht
    rw [ih s t hs ht]
    have := cls_stay A hf (k + 1) s t hs ht
    have e1 : stop A + (k + 1) = stop A + 1 + k := by omega
    rw [e1] at this
    exact this
theorem Sim.key {A B : Au} {R : Nat → Nat → Prop} (h : Sim A B R) : ∀ s t s' t', R s t → R s' t' → (TidyAuto.cls A (stop A + 1) s = TidyAuto.cls A (stop A + 1) s' ↔ TidyAuto.cls B (stop B + 1) t = TidyAuto.cls B (stop B + 1) t') := by
  intro s t s' t' h1 h2
  rw [cls_end A h.fA (stop B) s s' (h.ltA _ _ h1) (h.ltA _ _ h2), cls_end B h.fB (stop A) t t' (h.ltB _ _ h1) (h.ltB _ _ h2)]
  have e : stop B + 1 + stop A = stop A + 1 + stop B := by omega
  rw [e]
  exact h.cls _ _ _ _ _ h1 h2

section
variable {α β κ κ' : Type} [DecidableEq κ] [DecidableEq κ'] {k1 : α → κ} {k2 : β → κ'} {R : α → β → Prop}
theorem P2.idx {l : List α} {m : List β} (h : P2 R l m) {x : α} {y : β} (hk : ∀ a b, R a b → (k1 a = k1 x ↔ k2 b = k2 y)) : idx k1 l x = idx k2 m y := by
  unfold TidyMath.idx
  induction l generalizing m with
  | nil => cases m with
    | nil => rfl
    | cons y q => exact h.elim
  | cons z r ih => cases m with
    | nil => exact h.elim
    | cons b q =>
      rw [List.findIdx_cons, List.findIdx_cons, ih h.2]
      have : decide (k1 z = k1 x) = decide (k2 b = k2 y) := decide_eq_decide.2 (hk _ _ h.1)
      rw [this]
theorem P2.meet {l : List α} {m : List β} (h : P2 R l m) {x : α} {y : β} (hxy : R x y) (hk : ∀ a b, R a b → (k1 a = k1 x ↔ k2 b = k2 y)) : P2 R (meet k1 l x) (meet k2 m y) := by
  unfold TidyMath.meet
  rw [h.idx hk, h.length]
  split
  · exact h
  · exact h.snoc hxy
theorem P2.row {xs : List α} {ys : List β} (hs : P2 R xs ys) (hk : ∀ a b x y, R a b → R x y → (k1 a = k1 x ↔ k2 b = k2 y)) : ∀ {l : List α} {m : List β}, P2 R l m → P2 R (row k1 l (xs.map some)) (row k2 m (ys.map some)) := by
  induction xs generalizing ys with
  | nil => cases ys with
    | nil => intro l m h; exact h
    | cons y q => exact hs.elim
  | cons x r ih => cases ys with
    | nil => exact hs.elim
    | cons y q =>
      intro l m h
      exact ih hs.2 (h.meet hs.1 fun a b hab => hk a b x y hab hs.1)
end

variable {A B : Au} {R : Nat → Nat → Prop}
theorem Sim.met (h : Sim A B R) {x0 y0 : Nat} (h0 : R x0 y0) (i : Nat) : P2 R (met A x0 i) (met B y0 i) := by
  induction i with
  | zero => exact ⟨h0, trivial⟩
  | succ i ih =>
    unfold TidyAuto.met at ih ⊢
    by_cases hi : i < (bfs (TidyAuto.cls A (stop A + 1)) (sucs A) x0 i).length
    · have hj : i < (bfs (TidyAuto.cls B (stop B + 1)) (sucs B) y0 i).length := by rw [← ih.length]; exact hi
      rw [bfs_succ _ _ _ hi, bfs_succ _ _ _ hj]
      exact P2.row (h.nx _ _ (ih.get i hi hj)) (fun a b x y h1 h2 => h.key _ _ _ _ h1 h2) ih
    · have hj : ¬ i < (bfs (TidyAuto.cls B (stop B + 1)) (sucs B) y0 i).length := by rw [← ih.length]; exact hi
      rw [bfs_stop _ _ _ (by omega), bfs_stop _ _ _ (by omega)]
      exact ih
theorem tid_at {x0 : Nat} (h : Fits A x0) {i : Nat} (hi : most A ≤ i) : met A x0 i = tid A x0 := by
  unfold tid
  exact bfs_end _ _ _ (met_few h (most A)) hi
theorem Sim.tid (h : Sim A B R) {x0 y0 : Nat} (h0 : R x0 y0) : P2 R (tid A x0) (tid B y0) := by
  rw [← tid_at ⟨h.ltA _ _ h0, h.fA⟩ (Nat.le_max_left (most A) (most B)), ← tid_at ⟨h.ltB _ _ h0, h.fB⟩ (Nat.le_max_right (most A) (most B))]
  exact h.met h0 _
theorem Sim.tidAcc (h : Sim A B R) {x0 y0 : Nat} (h0 : R x0 y0) : tidAcc A x0 = tidAcc B y0 := (h.tid h0).map_eq h.acc
theorem Sim.tidNext (h : Sim A B R) {x0 y0 : Nat} (h0 : R x0 y0) : tidNext A x0 = tidNext B y0 := by
  refine (h.tid h0).map_eq fun s t hst => ?_
  refine (h.nx _ _ hst).map_eq fun x y hxy => ?_
  rw [P2.idx (k1 := TidyAuto.cls A (stop A + 1)) (k2 := TidyAuto.cls B (stop B + 1)) (h.tid h0) fun a b hab => h.key _ _ _ _ hab hxy]

/-! Two relations that are read, by the places that are met. -/
structure Pla (l m : L) (T : Nat → Nat → Nat → Prop) : Prop where
  k : l.k = m.k
  acc : ∀ s t e, T s t e → l.acc.getD s false = m.acc.getD t false
  nx : ∀ s t e, T s t e → ∀ c, c < wide l.k → fol e (pd l.k c) = true → T ((l.nx.getD s []).getD c 0) ((m.nx.getD t []).getD c 0) (pd l.k c)

def Rel (l m : L) (T : Nat → Nat → Nat → Prop) (s t : Nat) : Prop :=
  (s = (F l).length ∧ t = (F m).length) ∨ ∃ (hs : s < (F l).length) (ht : t < (F m).length), (F l)[s].2 = (F m)[t].2 ∧ T (F l)[s].1 (F m)[t].1 (F l)[s].2
theorem num_has {l : L} (h : l.Ok) {s : Nat} (hs : s < (F l).length) {q : Nat × Nat} (hq : some q ∈ succR l (F l)[s]) : ∃ hn : num l q < (F l).length, (F l)[num l q] = q :=
  ⟨num_lt h hs hq, idx_key (key := id) (l := F l) (x := q) (num_lt h hs hq)⟩
theorem Pla.sim {l m : L} {T : Nat → Nat → Nat → Prop} (h : Pla l m T) (hl : l.Ok) (hm : m.Ok) : Sim (auM l) (auM m) (Rel l m T) where
  ltA s t hr := by
    show s < (F l).length + 1
    rcases hr with ⟨e, -⟩ | ⟨hs, -⟩ <;> omega
  ltB s t hr := by
    show t < (F m).length + 1
    rcases hr with ⟨-, e⟩ | ⟨-, ht, -⟩ <;> omega
  acc s t hr := by
    rcases hr with ⟨rfl, rfl⟩ | ⟨hs, ht, he, hT⟩
    · rw [auM_acc_dead, auM_acc_dead]
    · rw [auM_acc hs, auM_acc ht]; exact h.acc _ _ _ hT
  nx s t hr := by
    rcases hr with ⟨rfl, rfl⟩ | ⟨hs, ht, he, hT⟩
    · rw [auM_dead, auM_dead, h.k]
      refine P2.of_get (by simp) fun i hi hj => ?_
      rw [List.getElem_replicate, List.getElem_replicate]
      exact .inl ⟨rfl, rfl⟩
    · rw [auM_nx hs, auM_nx ht]
      refine P2.of_get (by unfold rowM; rw [List.length_map, List.length_map, succR_length, succR_length, h.k]) fun i hi hj => ?_
      unfold rowM at hi hj ⊢
      have hi1 : i < (succR l (F l)[s]).length := by simpa using hi
      have hj1 : i < (succR m (F m)[t]).length := by simpa using hj
      have hiw : i < wide l.k := by rw [succR_length] at hi1; exact hi1
      have hjw : i < wide m.k := by rw [succR_length] at hj1; exact hj1
      have g1 := succR_get l (F l)[s] hiw
      have g2 := succR_get m (F m)[t] hjw
      have m1 : (succR l (F l)[s])[i] ∈ succR l (F l)[s] := List.getElem_mem hi1
      have m2 : (succR m (F m)[t])[i] ∈ succR m (F m)[t] := List.getElem_mem hj1
      rw [List.getElem_map, List.getElem_map]
      rw [g1] at m1 ⊢
      rw [g2] at m2 ⊢
      rw [← he, ← h.k] at m2 ⊢
      by_cases hf : fol (F l)[s].2 (pd l.k i) = true
      · rw [if_pos hf] at m1 m2 ⊢
        rw [if_pos hf]
        obtain ⟨n1, e1⟩ := num_has hl hs m1
        obtain ⟨n2, e2⟩ := num_has hm ht m2
        refine .inr ⟨n1, n2, ?_, ?_⟩
        · show (F l)[num l _].2 = (F m)[num m _].2
          rw [e1, e2]
        · show T (F l)[num l _].1 (F m)[num m _].1 (F l)[num l _].2
          rw [e1, e2]
          exact h.nx _ _ _ hT i hiw hf
      · rw [if_neg hf, if_neg hf]
        exact .inl ⟨rfl, rfl⟩
  fA := (fits hl).2
  fB := (fits hm).2
theorem Pla.tidy {l m : L} {T : Nat → Nat → Nat → Prop} (h : Pla l m T) (hl : l.Ok) (hm : m.Ok) (h0 : T l.start m.start 0) : tidyAcc l = tidyAcc m ∧ tidyNext l = tidyNext m := by
  have hr : Rel l m T 0 0 := .inr ⟨F_pos l, F_pos m, by rw [F_get0, F_get0], by rw [F_get0, F_get0]; exact h0⟩
  exact ⟨(h.sim hl hm).tidAcc hr, (h.sim hl hm).tidNext hr⟩

/-- The same by a list of places, one by one. -/
def simB (l m : L) (T : List (Nat × Nat × Nat)) : Bool :=
  decide (l.k = m.k) && T.all fun p => (l.acc.getD p.1 false == m.acc.getD p.2.1 false) && (List.range (wide l.k)).all fun c => !fol p.2.2 (pd l.k c) || T.contains ((l.nx.getD p.1 []).getD c 0, (m.nx.getD p.2.1 []).getD c 0, pd l.k c)
theorem simB_pla {l m : L} {T : List (Nat × Nat × Nat)} (h : simB l m T = true) : Pla l m fun s t e => (s, t, e) ∈ T := by
  unfold simB at h
  rw [Bool.and_eq_true, decide_eq_true_eq, List.all_eq_true] at h
  refine ⟨h.1, fun s t e hm => ?_, fun s t e hm c hc hf => ?_⟩
  · have := h.2 _ hm
    rw [Bool.and_eq_true] at this
    exact eq_of_beq this.1
  · have := h.2 _ hm
    rw [Bool.and_eq_true, List.all_eq_true] at this
    have := this.2 c (List.mem_range.2 hc)
    have hf' : fol e (pd l.k c) = true := hf
    rw [Bool.or_eq_true] at this
    rcases this with this | this
    · have this : (!fol e (pd l.k c)) = true := this
      rw [hf'] at this; cases this
    · exact List.contains_iff_mem.1 this
theorem simB_tidy {l m : L} {T : List (Nat × Nat × Nat)} (h : simB l m T = true) (hl : l.Ok) (hm : m.Ok) (h0 : T.contains (l.start, m.start, 0) = true) : tidyAcc l = tidyAcc m ∧ tidyNext l = tidyNext m :=
  (simB_pla h).tidy hl hm (List.contains_iff_mem.1 h0)
end Go.Proofs.Ytaebeglcoghehaa.Sim
