
/- Plain facts on automata whose states are numbered in two ways: their classes, step by step, and what is made of them.
   Conditions: stated at each theorem. -/
import Derived.Test.YthebmpdkiocbmaaDoorTidyClass
namespace Go.Proofs.YthebmpdkiocbmaaDoor.TidyAuto
set_option linter.unusedVariables false
set_option linter.unusedSimpArgs false
open TidyMath TidyClass

structure Au where
  n : Nat
  acc : Nat → Bool
  nx : Nat → List Nat

def sig (A : Au) (c : Nat → Nat) (s : Nat) : Nat × List Nat := (c s, (A.nx s).map c)
def cls (A : Au) : Nat → Nat → Nat
  | 0, s => if A.acc s then 1 else 0
  | j + 1, s => idx (sig A (cls A j)) (reps (sig A (cls A j)) A.n) s
def cn (A : Au) : Nat → Nat
  | 0 => 0
  | j + 1 => (reps (sig A (cls A j)) A.n).length

theorem cls_lt (A : Au) (j : Nat) {s : Nat} (h : s < A.n) : cls A (j + 1) s < cn A (j + 1) := reps_has _ h
theorem cls_iff (A : Au) (j : Nat) {s t : Nat} (h : s < A.n) : cls A (j + 1) s = cls A (j + 1) t ↔ sig A (cls A j) s = sig A (cls A j) t := num_iff _ h
theorem cls_finer (A : Au) (j : Nat) {s t : Nat} (h : s < A.n) (e : cls A (j + 1) s = cls A (j + 1) t) : cls A j s = cls A j t := by
  have := (cls_iff A j h).1 e
  exact congrArg Prod.fst this
theorem cn_le (A : Au) (j : Nat) : cn A j ≤ A.n := by
  cases j with
  | zero => exact Nat.zero_le _
  | succ j => exact reps_le _ _
theorem cn_mono (A : Au) (j : Nat) : cn A j ≤ cn A (j + 1) := by
  cases j with
  | zero => exact Nat.zero_le _
  | succ j => exact reps_le_of (sig A (cls A (j + 1))) (sig A (cls A j)) A.n A.n id (fun p h => h) (fun p q hp _ e => (cls_iff A j hp).1 (congrArg Prod.fst e))
theorem cn_mono' (A : Au) {i j : Nat} (h : i ≤ j) : cn A i ≤ cn A j := by
  obtain ⟨k, rfl⟩ : ∃ k, j = i + k := ⟨j - i, by omega⟩
  clear h
  induction k with
  | zero => exact Nat.le_refl _
  | succ k ih => exact Nat.le_trans ih (cn_mono A (i + k))

/-- The classes stop being refined at step j. -/
def Stops (A : Au) (j : Nat) : Prop := cn A (j + 1) = cn A j ∧ ∀ i, i < j → cn A (i + 1) ≠ cn A i
theorem Stops.unique {A : Au} {i j : Nat} (h : Stops A i) (k : Stops A j) : i = j := by
  rcases Nat.lt_trichotomy i j with h1 | h1 | h1
  · exact absurd h.1 (k.2 i h1)
  · exact h1
  · exact absurd k.1 (h.2 j h1)
theorem cn_grows (A : Au) (j : Nat) (h : ∀ i, i < j → cn A (i + 1) ≠ cn A i) : j ≤ cn A j := by
  induction j with
  | zero => exact Nat.zero_le _
  | succ j ih =>
    have h1 := ih fun i hi => h i (by omega)
    have h2 := h j (by omega)
    have h3 := cn_mono A j
    omega
theorem stops_exists (A : Au) : ∃ j, Stops A j := by
  apply Classical.byContradiction
  intro hn
  have : ∀ j, ∀ i, i < j → cn A (i + 1) ≠ cn A i := by
    intro j
    induction j with
    | zero => exact fun i h => absurd h (Nat.not_lt_zero i)
    | succ j ih =>
      intro i hi e
      by_cases hij : i < j
      · exact ih i hij e
      · obtain rfl : i = j := by omega
        exact hn ⟨i, e, ih⟩
  have h1 := cn_grows A (A.n + 1) (this _)
  have h2 := cn_le A (A.n + 1)
  omega
/-- The step at which they stop. -/
def stop (A : Au) : Nat := ((List.range (A.n + 1)).find? fun j => decide (cn A (j + 1) = cn A j)).getD 0
theorem stop_stops (A : Au) : Stops A (stop A) := by
  obtain ⟨j, hj⟩ := stops_exists A
  have hjn : j < A.n + 1 := by have := cn_grows A j hj.2; have := cn_le A j; omega
  have : (List.range (A.n + 1)).find? (fun j => decide (cn A (j + 1) = cn A j)) = some j := by
    rw [List.find?_range_eq_some]
    refine ⟨by simpa using hj.1, List.mem_range.2 hjn, fun i hi => by simpa using hj.2 i hi⟩
  unfold stop
  rw [this]
  exact hj
theorem stable (A : Au) {j : Nat} (hj : Stops A j) {s t : Nat} (hs : s < A.n) (ht : t < A.n) (e : cls A j s = cls A j t) : cls A (j + 1) s = cls A (j + 1) t := by
  cases j with
  | zero =>
    have h1 : cn A 1 = 0 := hj.1
    have h2 : 0 < cn A 1 := reps_pos _ (Nat.lt_of_le_of_lt (Nat.zero_le s) hs)
    omega
  | succ j =>
    rw [cls_iff A (j + 1) hs]
    refine same_classes (sig A (cls A j)) (sig A (cls A (j + 1))) A.n (fun p q hp _ e => (cls_iff A j hp).1 (congrArg Prod.fst e)) hj.1 hs ht ?_
    exact (cls_iff A j hs).1 e

/-! The classes that are met from state x0 on. -/
def sucs (A : Au) (s : Nat) : List (Option Nat) := (A.nx s).map some
def met (A : Au) (x0 : Nat) (i : Nat) : List Nat := bfs (cls A (stop A + 1)) (sucs A) x0 i
def most (A : Au) : Nat := cn A (stop A + 1)
def Fits (A : Au) (x0 : Nat) : Prop := x0 < A.n ∧ ∀ s, s < A.n → ∀ t ∈ A.nx s, t < A.n
theorem met_lt {A : Au} {x0 : Nat} (h : Fits A x0) (i : Nat) : ∀ x ∈ met A x0 i, x < A.n :=
  bfs_all _ _ _ (fun x => x < A.n) h.1 (fun x hx y hy => by
    obtain ⟨z, hz, e⟩ := List.mem_map.1 hy
    have e' := Option.some.inj e
    rw [← e']
    exact h.2 x hx z hz) i
theorem met_few {A : Au} {x0 : Nat} (h : Fits A x0) (i : Nat) : (met A x0 i).length ≤ most A :=
  dist_few _ (bfs_dist _ _ _ i) (cls A (stop A + 1)) _ (fun _ _ _ _ e => e) (fun x hx => cls_lt A _ (met_lt h i x hx))
def tid (A : Au) (x0 : Nat) : List Nat := met A x0 (most A)
def tidAcc (A : Au) (x0 : Nat) : List Bool := (tid A x0).map A.acc
def tidRow (A : Au) (x0 : Nat) (s : Nat) : List Int := (A.nx s).map fun t => ((idx (cls A (stop A + 1)) (tid A x0) t : Nat) : Int)
def tidNext (A : Au) (x0 : Nat) : List (List Int) := (tid A x0).map (tidRow A x0)

/-- If all states but one are reached, so are their classes. -/
theorem tid_many {A : Au} {x0 : Nat} (h : Fits A x0) (dead : Nat) (hr : ∀ s, s < A.n → s ≠ dead → s = x0 ∨ ∃ t, t < s ∧ t ≠ dead ∧ s ∈ A.nx t) : most A ≤ (tid A x0).length + 1 := by
  have hB := met_few h
  have hall : ∀ k s, s ≤ k → s < A.n → s ≠ dead → idx (cls A (stop A + 1)) (tid A x0) s < (tid A x0).length := by
    intro k
    induction k with
    | zero =>
      intro s hk hs hd
      rcases hr s hs hd with rfl | ⟨t, ht, -⟩
      · have hp : bfs (cls A (stop A + 1)) (sucs A) s 0 <+: tid A s := bfs_mono _ _ _ (Nat.zero_le _)
        exact idx_lt_of_mem _ (hp.subset (List.mem_singleton_self s)) rfl
      · omega
    | succ k ih =>
      intro s hk hs hd
      rcases hr s hs hd with rfl | ⟨t, ht, htd, hm⟩
      · have hp : bfs (cls A (stop A + 1)) (sucs A) s 0 <+: tid A s := bfs_mono _ _ _ (Nat.zero_le _)
        exact idx_lt_of_mem _ (hp.subset (List.mem_singleton_self s)) rfl
      · have hi := ih t (by omega) (by omega) htd
        obtain ⟨u, hu⟩ : ∃ u, u = (tid A x0)[idx (cls A (stop A + 1)) (tid A x0) t] := ⟨_, rfl⟩
        have huk : cls A (stop A + 1) u = cls A (stop A + 1) t := hu ▸ idx_key _ hi
        have hun := met_lt h (most A) u (hu ▸ List.getElem_mem hi)
        have hsig := (cls_iff A (stop A) hun).1 huk
        have hrow : (A.nx u).map (cls A (stop A)) = (A.nx t).map (cls A (stop A)) := congrArg Prod.snd hsig
        have hin : cls A (stop A) s ∈ (A.nx u).map (cls A (stop A)) := by rw [hrow]; exact List.mem_map_of_mem hm
        obtain ⟨v, hv, hve⟩ := List.mem_map.1 hin
        have hvn := h.2 u hun v hv
        have hvs := stable A (stop_stops A) hvn hs hve
        have hjb := end_before _ _ _ hB (i := idx (cls A (stop A + 1)) (tid A x0) t) hi
        have hget : (bfs (cls A (stop A + 1)) (sucs A) x0 (idx (cls A (stop A + 1)) (tid A x0) t))[idx (cls A (stop A + 1)) (tid A x0) t] = u := by
          rw [hu]
          exact (prefix_get (end_prefix _ _ _ hB _) hjb).symm
        have hjm : idx (cls A (stop A + 1)) (tid A x0) t < most A := Nat.lt_of_lt_of_le hi (hB _)
        have hf := bfs_found (cls A (stop A + 1)) (sucs A) x0 hjm hjb v (by rw [hget]; exact List.mem_map_of_mem hv)
        have : idx (cls A (stop A + 1)) (tid A x0) v = idx (cls A (stop A + 1)) (tid A x0) s := idx_congr _ hvs
        rw [← this]
        exact hf
  have hd := reps_dist (sig A (cls A (stop A))) A.n
  have hl := reps_lt (sig A (cls A (stop A))) A.n
  have h1 : ((reps (sig A (cls A (stop A))) A.n).filter fun s => decide (s ≠ dead)).length ≤ (tid A x0).length := by
    have hnd : (((reps (sig A (cls A (stop A))) A.n).filter fun s => decide (s ≠ dead)).map fun s => idx (cls A (stop A + 1)) (tid A x0) s).Nodup := by
      have hn0 : (reps (sig A (cls A (stop A))) A.n).Pairwise fun a b => sig A (cls A (stop A)) a ≠ sig A (cls A (stop A)) b := by
        rw [List.pairwise_iff_getElem]
        intro i j hi hj hij e
        have := hd i j hi hj e
        omega
      have hn1 : ((reps (sig A (cls A (stop A))) A.n).filter fun s => decide (s ≠ dead)).Pairwise fun a b => sig A (cls A (stop A)) a ≠ sig A (cls A (stop A)) b := hn0.filter _
      rw [List.nodup_iff_pairwise_ne, List.pairwise_map]
      refine List.Pairwise.imp_of_mem ?_ hn1
      intro a b ha hb hne e
      rw [List.mem_filter] at ha hb
      have ha' := hall a a (Nat.le_refl _) (hl a ha.1) (by simpa using ha.2)
      have e2 := key_of_idx _ ha' e
      exact hne ((cls_iff A (stop A) (hl a ha.1)).1 e2)
    have := few (tid A x0).length _ hnd (by
      intro y hy
      obtain ⟨s, hs, rfl⟩ := List.mem_map.1 hy
      rw [List.mem_filter] at hs
      exact hall s s (Nat.le_refl _) (hl s hs.1) (by simpa using hs.2))
    rwa [List.length_map] at this
  have h2 : (reps (sig A (cls A (stop A))) A.n).length ≤ ((reps (sig A (cls A (stop A))) A.n).filter fun s => decide (s ≠ dead)).length + 1 := by
    have hnn : (reps (sig A (cls A (stop A))) A.n).Nodup := by
      have := nodup_map _ hd (id : Nat → Nat) (fun x _ y _ e => by rw [show x = y from e])
      simpa using this
    have hc := List.length_eq_countP_add_countP (fun s => decide (s ≠ dead)) (l := reps (sig A (cls A (stop A))) A.n)
    rw [List.countP_eq_length_filter, List.countP_eq_length_filter] at hc
    have hcf : (reps (sig A (cls A (stop A))) A.n).filter (fun a => decide ¬decide (a ≠ dead) = true) = (reps (sig A (cls A (stop A))) A.n).filter fun s => !decide (s ≠ dead) := by
      congr 1; funext a; by_cases h : a = dead <;> simp [h]
    rw [hcf] at hc
    have hone : ((reps (sig A (cls A (stop A))) A.n).filter fun s => !decide (s ≠ dead)).length ≤ 1 := by
      have hnf := hnn.filter (fun s => !decide (s ≠ dead))
      have := few 1 (((reps (sig A (cls A (stop A))) A.n).filter fun s => !decide (s ≠ dead)).map fun s => s - dead) (by
        rw [List.nodup_iff_pairwise_ne, List.pairwise_map]
        refine List.Pairwise.imp_of_mem ?_ (List.nodup_iff_pairwise_ne.1 hnf)
        intro a b ha hb hne e
        rw [List.mem_filter] at ha hb
        simp at ha hb
        omega) (by
        intro y hy
        obtain ⟨s, hs, rfl⟩ := List.mem_map.1 hy
        rw [List.mem_filter] at hs
        simp at hs
        omega)
      rwa [List.length_map] at this
    omega
  have h3 : most A = (reps (sig A (cls A (stop A))) A.n).length := rfl
  omega

/-! TWO NUMBERINGS of one automaton's states. -/
structure Twin (A B : Au) (f g : Nat → Nat) : Prop where
  size : B.n = A.n
  fl : ∀ p, p < A.n → f p < A.n
  gl : ∀ s, s < A.n → g s < A.n
  fg : ∀ s, s < A.n → f (g s) = s
  gf : ∀ p, p < A.n → g (f p) = p
  acc : ∀ p, p < A.n → B.acc p = A.acc (f p)
  nx : ∀ p, p < A.n → B.nx p = (A.nx (f p)).map g
  nl : ∀ s, s < A.n → ∀ t ∈ A.nx s, t < A.n

theorem map_iff {c d : Nat → Nat} {l m : List Nat} (h : ∀ x ∈ l, ∀ y ∈ m, (c x = c y ↔ d x = d y)) : l.map c = m.map c ↔ l.map d = m.map d := by
  induction l generalizing m with
  | nil => cases m <;> simp
  | cons x r ih =>
    cases m with
    | nil => simp
    | cons y q =>
      rw [List.map_cons, List.map_cons, List.map_cons, List.map_cons, List.cons.injEq, List.cons.injEq, h x List.mem_cons_self y List.mem_cons_self,
        ih (m := q) (fun a ha b hb => h a (List.mem_cons_of_mem _ ha) b (List.mem_cons_of_mem _ hb))]

theorem Twin.cls {A B : Au} {f g : Nat → Nat} (h : Twin A B f g) (j : Nat) : ∀ p q, p < A.n → q < A.n → (cls B j p = cls B j q ↔ cls A j (f p) = cls A j (f q)) := by
  induction j with
  | zero => intro p q hp hq; simp only [TidyAuto.cls]; rw [h.acc p hp, h.acc q hq]
  | succ j ih =>
    intro p q hp hq
    rw [cls_iff B j (by rw [h.size]; exact hp), cls_iff A j (h.fl p hp)]
    unfold sig
    rw [Prod.mk.injEq, Prod.mk.injEq, ih p q hp hq, h.nx p hp, h.nx q hq, List.map_map, List.map_map]
    have : (A.nx (f p)).map (TidyAuto.cls B j ∘ g) = (A.nx (f q)).map (TidyAuto.cls B j ∘ g) ↔ (A.nx (f p)).map (TidyAuto.cls A j) = (A.nx (f q)).map (TidyAuto.cls A j) := by
      refine map_iff fun x hx y hy => ?_
      have hx' := h.nl _ (h.fl p hp) x hx
      have hy' := h.nl _ (h.fl q hq) y hy
      show TidyAuto.cls B j (g x) = TidyAuto.cls B j (g y) ↔ _
      rw [ih (g x) (g y) (h.gl x hx') (h.gl y hy'), h.fg x hx', h.fg y hy']
    rw [this]
theorem Twin.sig {A B : Au} {f g : Nat → Nat} (h : Twin A B f g) (j : Nat) {p q : Nat} (hp : p < A.n) (hq : q < A.n) : sig B (TidyAuto.cls B j) p = sig B (TidyAuto.cls B j) q ↔ sig A (TidyAuto.cls A j) (f p) = sig A (TidyAuto.cls A j) (f q) := by
  rw [← cls_iff B j (by rw [h.size]; exact hp), ← cls_iff A j (h.fl p hp)]
  exact h.cls (j + 1) p q hp hq
theorem Twin.cn {A B : Au} {f g : Nat → Nat} (h : Twin A B f g) (j : Nat) : cn B j = cn A j := by
  cases j with
  | zero => rfl
  | succ j =>
    have h1 : TidyAuto.cn B (j + 1) ≤ TidyAuto.cn A (j + 1) :=
      reps_le_of (TidyAuto.sig A (TidyAuto.cls A j)) (TidyAuto.sig B (TidyAuto.cls B j)) A.n B.n f (fun p hp => h.fl p (h.size ▸ hp)) (fun p q hp hq e => (h.sig j (h.size ▸ hp) (h.size ▸ hq)).2 e)
    have h2 : TidyAuto.cn A (j + 1) ≤ TidyAuto.cn B (j + 1) :=
      reps_le_of (TidyAuto.sig B (TidyAuto.cls B j)) (TidyAuto.sig A (TidyAuto.cls A j)) B.n A.n g (fun s hs => by rw [h.size]; exact h.gl s hs) (fun s t hs ht e => by
        have := (h.sig j (h.gl s hs) (h.gl t ht)).1 e
        rwa [h.fg s hs, h.fg t ht] at this)
    omega
theorem Twin.stop {A B : Au} {f g : Nat → Nat} (h : Twin A B f g) : stop B = stop A := by
  refine (stop_stops B).unique ?_
  have := stop_stops A
  exact ⟨by rw [h.cn, h.cn]; exact this.1, fun i hi => by rw [h.cn, h.cn]; exact this.2 i hi⟩

theorem findIdx_congr {α : Type} {p q : α → Bool} {l : List α} (h : ∀ x ∈ l, p x = q x) : l.findIdx p = l.findIdx q := by
  induction l with
  | nil => rfl
  | cons x r ih =>
    rw [List.findIdx_cons, List.findIdx_cons, h x List.mem_cons_self, ih fun y hy => h y (List.mem_cons_of_mem _ hy)]
theorem idx_map {A B : Au} {f g : Nat → Nat} (h : Twin A B f g) (j : Nat) {l : List Nat} (hl : ∀ x ∈ l, x < A.n) {x : Nat} (hx : x < A.n) :
    idx (cls B j) (l.map g) (g x) = idx (cls A j) l x := by
  unfold idx
  rw [List.findIdx_map]
  refine findIdx_congr fun y hy => ?_
  show decide (cls B j (g y) = cls B j (g x)) = decide (cls A j y = cls A j x)
  have := h.cls j (g y) (g x) (h.gl y (hl y hy)) (h.gl x hx)
  rw [h.fg y (hl y hy), h.fg x hx] at this
  exact decide_eq_decide.2 this
theorem meet_map {A B : Au} {f g : Nat → Nat} (h : Twin A B f g) (j : Nat) {l : List Nat} (hl : ∀ x ∈ l, x < A.n) {x : Nat} (hx : x < A.n) :
    meet (cls B j) (l.map g) (g x) = (meet (cls A j) l x).map g := by
  unfold meet
  rw [idx_map h j hl hx, List.length_map]
  split
  · rfl
  · rw [List.map_append]; rfl
theorem row_map {A B : Au} {f g : Nat → Nat} (h : Twin A B f g) (j : Nat) (xs : List Nat) (hxs : ∀ x ∈ xs, x < A.n) : ∀ {l : List Nat}, (∀ x ∈ l, x < A.n) →
    row (cls B j) (l.map g) ((xs.map g).map some) = (row (cls A j) l (xs.map some)).map g := by
  induction xs with
  | nil => intro l _; rfl
  | cons x r ih =>
    intro l hl
    show row (cls B j) (meet (cls B j) (l.map g) (g x)) ((r.map g).map some) = _
    rw [meet_map h j hl (hxs x List.mem_cons_self), ih (fun y hy => hxs y (List.mem_cons_of_mem _ hy))]
    · rfl
    · intro y hy
      unfold meet at hy
      split at hy
      · exact hl y hy
      · rcases List.mem_append.1 hy with hy | hy
        · exact hl y hy
        · rw [List.mem_singleton] at hy; subst hy; exact hxs y List.mem_cons_self
theorem Twin.met {A B : Au} {f g : Nat → Nat} (h : Twin A B f g) {x0 : Nat} (hx : x0 < A.n) (i : Nat) : met B (g x0) i = (met A x0 i).map g := by
  have hf : Fits A x0 := ⟨hx, h.nl⟩
  induction i with
  | zero => rfl
  | succ i ih =>
    unfold TidyAuto.met at ih ⊢
    have hl := met_lt hf i
    unfold TidyAuto.met at hl
    by_cases hi : i < (bfs (TidyAuto.cls A (TidyAuto.stop A + 1)) (sucs A) x0 i).length
    · have hi' : i < (bfs (TidyAuto.cls B (TidyAuto.stop B + 1)) (sucs B) (g x0) i).length := by rw [ih, List.length_map]; exact hi
      rw [bfs_succ _ _ _ hi, bfs_succ _ _ _ hi']
      have hgi : (bfs (TidyAuto.cls B (TidyAuto.stop B + 1)) (sucs B) (g x0) i)[i] = g (bfs (TidyAuto.cls A (TidyAuto.stop A + 1)) (sucs A) x0 i)[i] := by
        rw [List.getElem_of_eq ih hi', List.getElem_map]
      have hlt := hl _ (List.getElem_mem hi)
      obtain ⟨u, hu⟩ : ∃ u, u = (bfs (TidyAuto.cls A (TidyAuto.stop A + 1)) (sucs A) x0 i)[i] := ⟨_, rfl⟩
      rw [← hu] at hgi hlt ⊢
      rw [hgi, ih]
      have hB : sucs B (g u) = ((A.nx u).map g).map some := by
        show (B.nx (g u)).map some = _
        rw [h.nx _ (h.gl _ hlt), h.fg _ hlt]
      rw [hB, h.stop]
      exact row_map h _ _ (fun x hx => h.nl _ hlt x hx) hl
    · rw [bfs_stop (TidyAuto.cls A (TidyAuto.stop A + 1)) _ _ (by omega), bfs_stop (TidyAuto.cls B (TidyAuto.stop B + 1)) _ _ (by rw [ih, List.length_map]; omega), ih]
theorem Twin.most {A B : Au} {f g : Nat → Nat} (h : Twin A B f g) : most B = most A := by
  unfold TidyAuto.most; rw [h.stop, h.cn]
theorem Twin.tid {A B : Au} {f g : Nat → Nat} (h : Twin A B f g) {x0 : Nat} (hx : x0 < A.n) : tid B (g x0) = (tid A x0).map g := by
  unfold TidyAuto.tid; rw [h.most, h.met hx]
theorem Twin.tidAcc {A B : Au} {f g : Nat → Nat} (h : Twin A B f g) {x0 : Nat} (hx : x0 < A.n) : tidAcc B (g x0) = tidAcc A x0 := by
  unfold TidyAuto.tidAcc
  rw [h.tid hx, List.map_map]
  refine List.map_congr_left fun x hm => ?_
  have hlt := met_lt ⟨hx, h.nl⟩ _ x hm
  show B.acc (g x) = A.acc x
  rw [h.acc _ (h.gl x hlt), h.fg x hlt]
theorem Twin.tidNext {A B : Au} {f g : Nat → Nat} (h : Twin A B f g) {x0 : Nat} (hx : x0 < A.n) : tidNext B (g x0) = tidNext A x0 := by
  unfold TidyAuto.tidNext
  rw [h.tid hx, List.map_map]
  refine List.map_congr_left fun x hm => ?_
  have hlt := met_lt ⟨hx, h.nl⟩ _ x hm
  show tidRow B (g x0) (g x) = tidRow A x0 x
  unfold tidRow
  rw [h.nx _ (h.gl x hlt), h.fg x hlt, List.map_map]
  refine List.map_congr_left fun y hy => ?_
  have hyl := h.nl x hlt y hy
  show ((idx _ (TidyAuto.tid B (g x0)) (g y) : Nat) : Int) = _
  have hm := met_lt ⟨hx, h.nl⟩ (TidyAuto.most A)
  rw [h.tid hx, h.stop, idx_map h _ (l := TidyAuto.tid A x0) hm hyl]
end Go.Proofs.YthebmpdkiocbmaaDoor.TidyAuto
