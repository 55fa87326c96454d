
/- Plain facts: how many lists of columns an automaton takes from a state, and that the tidy one takes as many; how many right lists there are.
   Conditions: stated at each theorem. -/
import Derived.Test.YtaebeglcoghehaaCN9
import Derived.Test.YtaebeglcoghehaaCN23
import Derived.Test.YtaebeglcoghehaaCN6
import Derived.RegionTactic
namespace Go.Proofs.Ytaebeglcoghehaa.CntMath
set_option linter.unusedVariables false
set_option linter.unusedSimpArgs false
open TidyMath TidyClass TidyAuto TidyRight SpecFiner SpecRight PairMath First Sim FirstTidy

def sumN : List Nat → Nat
  | [] => 0
  | x :: r => x + sumN r
theorem sumN_append (a b : List Nat) : sumN (a ++ b) = sumN a + sumN b := by
  induction a with
  | nil => simp [sumN]
  | cons x r ih => simp only [List.cons_append, sumN, ih]; omega
theorem sumN_take {xs : List Nat} {c : Nat} (h : c < xs.length) : sumN (xs.take (c + 1)) = sumN (xs.take c) + xs[c] := by
  rw [List.take_succ_eq_append_getElem h, sumN_append]; simp [sumN]
theorem sumN_take_le (xs : List Nat) (c : Nat) : sumN (xs.take c) ≤ sumN xs := by
  have := sumN_append (xs.take c) (xs.drop c)
  rw [List.take_append_drop] at this
  omega
theorem sumN_le {α : Type} (l : List α) (f g : α → Nat) (h : ∀ x ∈ l, f x ≤ g x) : sumN (l.map f) ≤ sumN (l.map g) := by
  induction l with
  | nil => exact Nat.le_refl _
  | cons x r ih =>
    have h1 := h x (List.mem_cons_self)
    have h2 := ih fun y hy => h y (List.mem_cons_of_mem _ hy)
    simp only [List.map_cons, sumN]; omega
theorem sumN_zero {l : List Nat} (h : ∀ x ∈ l, x = 0) : sumN l = 0 := by
  induction l with
  | nil => rfl
  | cons x r ih =>
    have h1 := h x (List.mem_cons_self)
    have h2 := ih fun y hy => h y (List.mem_cons_of_mem _ hy)
    simp only [sumN]; omega

/-- How many lists of so many columns lead from a state to an accepting one. -/
def cntA (A : Au) : Nat → Nat → Nat
  | 0, s => if A.acc s = true then 1 else 0
  | n + 1, s => sumN ((A.nx s).map (cntA A n))

theorem map_of {α β γ : Type} {c : α → β} {d : α → γ} : ∀ {l m : List α}, (∀ x ∈ l, ∀ y ∈ m, c x = c y → d x = d y) → l.map c = m.map c → l.map d = m.map d
  | [], [], _, _ => rfl
  | [], _ :: _, _, h => by simp at h
  | _ :: _, [], _, h => by simp at h
  | a :: r, b :: q, hc, h => by
    rw [List.map_cons, List.map_cons, List.cons.injEq] at h
    rw [List.map_cons, List.map_cons, hc a List.mem_cons_self b List.mem_cons_self h.1, map_of (fun x hx y hy => hc x (List.mem_cons_of_mem _ hx) y (List.mem_cons_of_mem _ hy)) h.2]
theorem cnt_cls (A : Au) (hf : ∀ s, s < A.n → ∀ t ∈ A.nx s, t < A.n) (n : Nat) : ∀ s t, s < A.n → t < A.n → cls A (stop A + 1) s = cls A (stop A + 1) t → cntA A n s = cntA A n t := by
  induction n with
  | zero => intro s t hs ht e; simp only [cntA, cls_acc A (stop A) hs e]
  | succ n ih =>
    intro s t hs ht e
    have hsig := (cls_iff A (stop A) hs).1 e
    have hrow : (A.nx s).map (cls A (stop A)) = (A.nx t).map (cls A (stop A)) := congrArg Prod.snd hsig
    show sumN ((A.nx s).map (cntA A n)) = sumN ((A.nx t).map (cntA A n))
    rw [map_of (fun x hx y hy exy => ih x y (hf s hs x hx) (hf t ht y hy) (stable A (stop_stops A) (hf s hs x hx) (hf t ht y hy) exy)) hrow]

/-- An automaton with numbers as states. -/
def auL (l : L) : Au := ⟨l.acc.length, fun s => l.acc.getD s false, fun s => l.nx.getD s []⟩
theorem tid_lt {l : L} (h : l.Ok) {i : Nat} (hi : i < (tid (auM l) 0).length) : (tid (auM l) 0)[i] < (auM l).n := met_lt (fits h) (most (auM l)) _ (List.getElem_mem hi)
theorem idx_tid {l : L} (h : l.Ok) {i : Nat} (hi : i < (tid (auM l) 0).length) {t : Nat} (ht : t ∈ (auM l).nx (tid (auM l) 0)[i]) : idx (cls (auM l) (stop (auM l) + 1)) (tid (auM l) 0) t < (tid (auM l) 0).length := by
  obtain ⟨c, hc, rfl⟩ := List.getElem_of_mem ht
  have hlen : (tidL l).acc.length = (tid (auM l) 0).length := by unfold tidL tidyAcc tidAcc; rw [List.length_map]
  have hcw : c < wide l.k := by rw [← auM_row h (tid_lt h hi)]; exact hc
  have := (tidL_ok h).lt i (by rw [hlen]; exact hi) c hcw
  rw [hlen] at this
  have e := tidL_get hi hc
  unfold stL at e
  rwa [e] at this
theorem cnt_tid {l : L} (h : l.Ok) (n : Nat) : ∀ i (hi : i < (tid (auM l) 0).length), cntA (auL (tidL l)) n i = cntA (auM l) n (tid (auM l) 0)[i] := by
  induction n with
  | zero =>
    intro i hi
    have e : (auL (tidL l)).acc i = (auM l).acc (tid (auM l) 0)[i] := by
      show (tidyAcc l).getD i false = _
      unfold tidyAcc tidAcc
      rw [List.getD_eq_getElem?_getD, List.getElem?_map, List.getElem?_eq_getElem hi]; rfl
    simp only [cntA, e]
  | succ n ih =>
    intro i hi
    have e : (auL (tidL l)).nx i = ((auM l).nx (tid (auM l) 0)[i]).map fun t => idx (cls (auM l) (stop (auM l) + 1)) (tid (auM l) 0) t := by
      show (tidL l).nx.getD i [] = _
      unfold tidL
      simp [List.getD, hi]
    show sumN (((auL (tidL l)).nx i).map _) = sumN (((auM l).nx _).map _)
    rw [e, List.map_map]
    congr 1
    refine List.map_congr_left fun t ht => ?_
    have hx := idx_tid h hi ht
    show cntA (auL (tidL l)) n _ = _
    rw [ih _ hx]
    exact cnt_cls (auM l) (fits h).2 n _ _ (tid_lt h hx) ((fits h).2 _ (tid_lt h hi) t ht) (idx_key _ hx)
theorem cnt_P {l : L} (h : l.Ok) (n : Nat) : ∀ s, s < (auM l).n → cntA (auP l) n (σ l s) = cntA (auM l) n s := by
  have t := twin h
  induction n with
  | zero => intro s hs; simp only [cntA, t.acc _ (t.gl s hs), t.fg s hs]
  | succ n ih =>
    intro s hs
    show sumN (((auP l).nx _).map _) = sumN (((auM l).nx _).map _)
    rw [t.nx _ (t.gl s hs), t.fg s hs, List.map_map]
    congr 1
    exact List.map_congr_left fun x hx => ih x ((fits h).2 s hs x hx)

/-- How many right lists go on, at most, where some tapes have ended. -/
def rightR (k : Nat) : Nat → List Nat
  | 0 => List.replicate 8 1
  | n + 1 => (List.range 8).map fun e => sumN ((List.range (wide k)).map fun c => if fol e (pd k c) = true then (rightR k n).getD (pd k c) 0 else 0)
theorem cnt_dead (l : L) (n : Nat) : cntA (auM l) n (F l).length = 0 := by
  induction n with
  | zero => simp only [cntA, auM_acc_dead]; rfl
  | succ n ih =>
    show sumN (((auM l).nx _).map _) = 0
    rw [auM_dead]
    refine sumN_zero fun x hx => ?_
    obtain ⟨y, hy, rfl⟩ := List.mem_map.1 hx
    rw [List.eq_of_mem_replicate hy]; exact ih
theorem cnt_bound {l : L} (h : l.Ok) (n : Nat) : ∀ s (hs : s < (F l).length), cntA (auM l) n s ≤ (rightR l.k n).getD ((F l)[s]).2 0 := by
  have hD := fun i => places_D h i
  have h8 : ∀ s (hs : s < (F l).length), ((F l)[s]).2 < 8 := fun s hs => by
    have h1 := (hD _ _ (List.getElem_mem hs)).2
    have := pow_le8 h.k3
    omega
  induction n with
  | zero =>
    intro s hs
    have e : (rightR l.k 0).getD ((F l)[s]).2 0 = 1 := by
      show (List.replicate 8 1).getD _ 0 = 1
      rw [List.getD_eq_getElem?_getD, List.getElem?_replicate, if_pos (h8 s hs)]; rfl
    rw [e]
    simp only [cntA]; split <;> omega
  | succ n ih =>
    intro s hs
    have e : (rightR l.k (n + 1)).getD ((F l)[s]).2 0 = sumN ((List.range (wide l.k)).map fun c => if fol ((F l)[s]).2 (pd l.k c) = true then (rightR l.k n).getD (pd l.k c) 0 else 0) := by
      show ((List.range 8).map _).getD _ 0 = _
      simp [List.getD, h8 s hs]
    rw [e]
    show sumN (((auM l).nx s).map _) ≤ _
    rw [auM_nx hs]
    unfold rowM succR
    rw [List.map_map, List.map_map]
    refine sumN_le _ _ _ fun c hc => ?_
    have hc := List.mem_range.1 hc
    show cntA (auM l) n (match (if fol ((F l)[s]).2 (pd l.k c) = true then some ((l.nx.getD ((F l)[s]).1 []).getD c 0, pd l.k c) else none) with | some q => num l q | none => (F l).length) ≤ _
    by_cases hf : fol ((F l)[s]).2 (pd l.k c) = true
    · rw [if_pos hf, if_pos hf]
      have hq : some ((l.nx.getD ((F l)[s]).1 []).getD c 0, pd l.k c) ∈ succR l (F l)[s] := by
        unfold succR
        refine List.mem_map.2 ⟨c, List.mem_range.2 hc, ?_⟩
        rw [if_pos hf]
      obtain ⟨hn, en⟩ := num_has h hs hq
      have := ih _ hn
      rw [en] at this
      exact this
    · rw [if_neg hf, if_neg hf]
      show cntA (auM l) n (F l).length ≤ 0
      rw [cnt_dead]; exact Nat.le_refl _
theorem r1_0 : rightR 1 0 = [1, 1, 1, 1, 1, 1, 1, 1] := rfl
theorem r1_1 : rightR 1 1 = [2, 0, 0, 0, 0, 0, 0, 0] := by rw [rightR, r1_0]; decide +kernel
theorem r1_2 : rightR 1 2 = [4, 0, 0, 0, 0, 0, 0, 0] := by rw [rightR, r1_1]; decide +kernel
theorem r1_3 : rightR 1 3 = [8, 0, 0, 0, 0, 0, 0, 0] := by rw [rightR, r1_2]; decide +kernel
theorem r1_4 : rightR 1 4 = [16, 0, 0, 0, 0, 0, 0, 0] := by rw [rightR, r1_3]; decide +kernel
theorem r1_5 : rightR 1 5 = [32, 0, 0, 0, 0, 0, 0, 0] := by rw [rightR, r1_4]; decide +kernel
theorem r1_6 : rightR 1 6 = [64, 0, 0, 0, 0, 0, 0, 0] := by rw [rightR, r1_5]; decide +kernel
theorem r1_7 : rightR 1 7 = [128, 0, 0, 0, 0, 0, 0, 0] := by rw [rightR, r1_6]; decide +kernel
theorem r1_8 : rightR 1 8 = [256, 0, 0, 0, 0, 0, 0, 0] := by rw [rightR, r1_7]; decide +kernel
theorem r1_9 : rightR 1 9 = [512, 0, 0, 0, 0, 0, 0, 0] := by rw [rightR, r1_8]; decide +kernel
theorem r1_10 : rightR 1 10 = [1024, 0, 0, 0, 0, 0, 0, 0] := by rw [rightR, r1_9]; decide +kernel
theorem r1_11 : rightR 1 11 = [2048, 0, 0, 0, 0, 0, 0, 0] := by rw [rightR, r1_10]; decide +kernel
theorem r1_12 : rightR 1 12 = [4096, 0, 0, 0, 0, 0, 0, 0] := by rw [rightR, r1_11]; decide +kernel
theorem r1_13 : rightR 1 13 = [8192, 0, 0, 0, 0, 0, 0, 0] := by rw [rightR, r1_12]; decide +kernel
theorem r1_14 : rightR 1 14 = [16384, 0, 0, 0, 0, 0, 0, 0] := by rw [rightR, r1_13]; decide +kernel
theorem r1_15 : rightR 1 15 = [32768, 0, 0, 0, 0, 0, 0, 0] := by rw [rightR, r1_14]; decide +kernel
theorem r1_16 : rightR 1 16 = [65536, 0, 0, 0, 0, 0, 0, 0] := by rw [rightR, r1_15]; decide +kernel
theorem r1_17 : rightR 1 17 = [131072, 0, 0, 0, 0, 0, 0, 0] := by rw [rightR, r1_16]; decide +kernel
theorem r1_18 : rightR 1 18 = [262144, 0, 0, 0, 0, 0, 0, 0] := by rw [rightR, r1_17]; decide +kernel
theorem r2_0 : rightR 2 0 = [1, 1, 1, 1, 1, 1, 1, 1] := rfl
theorem r2_1 : rightR 2 1 = [8, 2, 2, 0, 0, 0, 0, 0] := by rw [rightR, r2_0]; decide +kernel
theorem r2_2 : rightR 2 2 = [40, 4, 4, 0, 0, 0, 0, 0] := by rw [rightR, r2_1]; decide +kernel
theorem r2_3 : rightR 2 3 = [176, 8, 8, 0, 0, 0, 0, 0] := by rw [rightR, r2_2]; decide +kernel
theorem r2_4 : rightR 2 4 = [736, 16, 16, 0, 0, 0, 0, 0] := by rw [rightR, r2_3]; decide +kernel
theorem r2_5 : rightR 2 5 = [3008, 32, 32, 0, 0, 0, 0, 0] := by rw [rightR, r2_4]; decide +kernel
theorem r2_6 : rightR 2 6 = [12160, 64, 64, 0, 0, 0, 0, 0] := by rw [rightR, r2_5]; decide +kernel
theorem r2_7 : rightR 2 7 = [48896, 128, 128, 0, 0, 0, 0, 0] := by rw [rightR, r2_6]; decide +kernel
theorem r2_8 : rightR 2 8 = [196096, 256, 256, 0, 0, 0, 0, 0] := by rw [rightR, r2_7]; decide +kernel
theorem r2_9 : rightR 2 9 = [785408, 512, 512, 0, 0, 0, 0, 0] := by rw [rightR, r2_8]; decide +kernel
theorem r2_10 : rightR 2 10 = [3143680, 1024, 1024, 0, 0, 0, 0, 0] := by rw [rightR, r2_9]; decide +kernel
theorem r2_11 : rightR 2 11 = [12578816, 2048, 2048, 0, 0, 0, 0, 0] := by rw [rightR, r2_10]; decide +kernel
theorem r2_12 : rightR 2 12 = [50323456, 4096, 4096, 0, 0, 0, 0, 0] := by rw [rightR, r2_11]; decide +kernel
theorem r2_13 : rightR 2 13 = [201310208, 8192, 8192, 0, 0, 0, 0, 0] := by rw [rightR, r2_12]; decide +kernel
theorem r2_14 : rightR 2 14 = [805273600, 16384, 16384, 0, 0, 0, 0, 0] := by rw [rightR, r2_13]; decide +kernel
theorem r2_15 : rightR 2 15 = [3221159936, 32768, 32768, 0, 0, 0, 0, 0] := by rw [rightR, r2_14]; decide +kernel
theorem r2_16 : rightR 2 16 = [12884770816, 65536, 65536, 0, 0, 0, 0, 0] := by rw [rightR, r2_15]; decide +kernel
theorem r2_17 : rightR 2 17 = [51539345408, 131072, 131072, 0, 0, 0, 0, 0] := by rw [rightR, r2_16]; decide +kernel
theorem r2_18 : rightR 2 18 = [206157905920, 262144, 262144, 0, 0, 0, 0, 0] := by rw [rightR, r2_17]; decide +kernel
theorem r3_0 : rightR 3 0 = [1, 1, 1, 1, 1, 1, 1, 1] := rfl
theorem r3_1 : rightR 3 1 = [26, 8, 8, 2, 8, 2, 2, 0] := by rw [rightR, r3_0]; decide +kernel
theorem r3_2 : rightR 3 2 = [316, 40, 40, 4, 40, 4, 4, 0] := by rw [rightR, r3_1]; decide +kernel
theorem r3_3 : rightR 3 3 = [3032, 176, 176, 8, 176, 8, 8, 0] := by rw [rightR, r3_2]; decide +kernel
theorem r3_4 : rightR 3 4 = [26416, 736, 736, 16, 736, 16, 16, 0] := by rw [rightR, r3_3]; decide +kernel
theorem r3_5 : rightR 3 5 = [220256, 3008, 3008, 32, 3008, 32, 32, 0] := by rw [rightR, r3_4]; decide +kernel
theorem r3_6 : rightR 3 6 = [1798336, 12160, 12160, 64, 12160, 64, 64, 0] := by rw [rightR, r3_5]; decide +kernel
theorem r3_7 : rightR 3 7 = [14532992, 48896, 48896, 128, 48896, 128, 128, 0] := by rw [rightR, r3_6]; decide +kernel
theorem r3_8 : rightR 3 8 = [116851456, 196096, 196096, 256, 196096, 256, 256, 0] := by rw [rightR, r3_7]; decide +kernel
theorem r3_9 : rightR 3 9 = [937166336, 785408, 785408, 512, 785408, 512, 512, 0] := by rw [rightR, r3_8]; decide +kernel
theorem r3_10 : rightR 3 10 = [7506758656, 3143680, 3143680, 1024, 3143680, 1024, 1024, 0] := by rw [rightR, r3_9]; decide +kernel
theorem r3_11 : rightR 3 11 = [60091799552, 12578816, 12578816, 2048, 12578816, 2048, 2048, 0] := by rw [rightR, r3_10]; decide +kernel
theorem r3_12 : rightR 3 12 = [480885354496, 50323456, 50323456, 4096, 50323456, 4096, 4096, 0] := by rw [rightR, r3_11]; decide +kernel
theorem r3_13 : rightR 3 13 = [3847686742016, 201310208, 201310208, 8192, 201310208, 8192, 8192, 0] := by rw [rightR, r3_12]; decide +kernel
theorem r3_14 : rightR 3 14 = [30783909707776, 805273600, 805273600, 16384, 805273600, 16384, 16384, 0] := by rw [rightR, r3_13]; decide +kernel
theorem r3_15 : rightR 3 15 = [246280941043712, 3221159936, 3221159936, 32768, 3221159936, 32768, 32768, 0] := by rw [rightR, r3_14]; decide +kernel
theorem r3_16 : rightR 3 16 = [1970286182465536, 12884770816, 12884770816, 65536, 12884770816, 65536, 65536, 0] := by rw [rightR, r3_15]; decide +kernel
theorem r3_17 : rightR 3 17 = [15762444077367296, 51539345408, 51539345408, 131072, 51539345408, 131072, 131072, 0] := by rw [rightR, r3_16]; decide +kernel
theorem r3_18 : rightR 3 18 = [126100171091869696, 206157905920, 206157905920, 262144, 206157905920, 262144, 262144, 0] := by rw [rightR, r3_17]; decide +kernel
theorem rightR_small {k n e : Nat} (h1 : 1 ≤ k) (h3 : k ≤ 3) (hn : n ≤ 18) : (rightR k n).getD e 0 ≤ 144115188075855872 := by
  have hall : ∀ l : List Nat, l.all (fun x => decide (x ≤ 144115188075855872)) = true → l.getD e 0 ≤ 144115188075855872 := fun l h => by
    rw [List.getD_eq_getElem?_getD]
    cases hg : l[e]? with
    | none => exact Nat.zero_le _
    | some b =>
      obtain ⟨hi, e2⟩ := List.getElem?_eq_some_iff.1 hg
      exact of_decide_eq_true (List.all_eq_true.1 h b (e2 ▸ List.getElem_mem hi))
  refine hall _ ?_
  have hk : k = 1 ∨ k = 2 ∨ k = 3 := by omega
  have hnn : n = 0 ∨ n = 1 ∨ n = 2 ∨ n = 3 ∨ n = 4 ∨ n = 5 ∨ n = 6 ∨ n = 7 ∨ n = 8 ∨ n = 9 ∨ n = 10 ∨ n = 11 ∨ n = 12 ∨ n = 13 ∨ n = 14 ∨ n = 15 ∨ n = 16 ∨ n = 17 ∨ n = 18 := by omega
  rcases hk with rfl | rfl | rfl
  · rcases hnn with rfl | rfl | rfl | rfl | rfl | rfl | rfl | rfl | rfl | rfl | rfl | rfl | rfl | rfl | rfl | rfl | rfl | rfl | rfl
    · rw [r1_0]; decide +kernel
    · rw [r1_1]; decide +kernel
    · rw [r1_2]; decide +kernel
    · rw [r1_3]; decide +kernel
    · rw [r1_4]; decide +kernel
    · rw [r1_5]; decide +kernel
    · rw [r1_6]; decide +kernel
    · rw [r1_7]; decide +kernel
    · rw [r1_8]; decide +kernel
    · rw [r1_9]; decide +kernel
    · rw [r1_10]; decide +kernel
    · rw [r1_11]; decide +kernel
    · rw [r1_12]; decide +kernel
    · rw [r1_13]; decide +kernel
    · rw [r1_14]; decide +kernel
    · rw [r1_15]; decide +kernel
    · rw [r1_16]; decide +kernel
    · rw [r1_17]; decide +kernel
    · rw [r1_18]; decide +kernel
  · rcases hnn with rfl | rfl | rfl | rfl | rfl | rfl | rfl | rfl | rfl | rfl | rfl | rfl | rfl | rfl | rfl | rfl | rfl | rfl | rfl
    · rw [r2_0]; decide +kernel
    · rw [r2_1]; decide +kernel
    · rw [r2_2]; decide +kernel
    · rw [r2_3]; decide +kernel
    · rw [r2_4]; decide +kernel
    · rw [r2_5]; decide +kernel
    · rw [r2_6]; decide +kernel
    · rw [r2_7]; decide +kernel
    · rw [r2_8]; decide +kernel
    · rw [r2_9]; decide +kernel
    · rw [r2_10]; decide +kernel
    · rw [r2_11]; decide +kernel
    · rw [r2_12]; decide +kernel
    · rw [r2_13]; decide +kernel
    · rw [r2_14]; decide +kernel
    · rw [r2_15]; decide +kernel
    · rw [r2_16]; decide +kernel
    · rw [r2_17]; decide +kernel
    · rw [r2_18]; decide +kernel
  · rcases hnn with rfl | rfl | rfl | rfl | rfl | rfl | rfl | rfl | rfl | rfl | rfl | rfl | rfl | rfl | rfl | rfl | rfl | rfl | rfl
    · rw [r3_0]; decide +kernel
    · rw [r3_1]; decide +kernel
    · rw [r3_2]; decide +kernel
    · rw [r3_3]; decide +kernel
    · rw [r3_4]; decide +kernel
    · rw [r3_5]; decide +kernel
    · rw [r3_6]; decide +kernel
    · rw [r3_7]; decide +kernel
    · rw [r3_8]; decide +kernel
    · rw [r3_9]; decide +kernel
    · rw [r3_10]; decide +kernel
    · rw [r3_11]; decide +kernel
    · rw [r3_12]; decide +kernel
    · rw [r3_13]; decide +kernel
    · rw [r3_14]; decide +kernel
    · rw [r3_15]; decide +kernel
    · rw [r3_16]; decide +kernel
    · rw [r3_17]; decide +kernel
    · rw [r3_18]; decide +kernel
/-- Few lists of at most 18 columns go on from any state. -/
theorem cntM_small {l : L} (h : l.Ok) {n : Nat} (hn : n ≤ 18) {s : Nat} (hs : s < (auM l).n) : cntA (auM l) n s ≤ 144115188075855872 := by
  have hs' : s < (F l).length + 1 := hs
  by_cases e : s < (F l).length
  · exact Nat.le_trans (cnt_bound h n s e) (rightR_small h.k0 h.k3 hn)
  · rw [show s = (F l).length by omega, cnt_dead]; exact Nat.zero_le _
theorem cntP_small {l : L} (h : l.Ok) {n : Nat} (hn : n ≤ 18) {p : Nat} (hp : p < (auP l).n) : cntA (auP l) n p ≤ 144115188075855872 := by
  have t := twin h
  have hp' : p < (auM l).n := by rw [← t.size]; exact hp
  rw [← t.gf p hp', cnt_P h n _ (t.fl p hp')]
  exact cntM_small h hn (t.fl p hp')
theorem cntT_small {l : L} (h : l.Ok) {n : Nat} (hn : n ≤ 18) {i : Nat} (hi : i < (tid (auM l) 0).length) : cntA (auL (tidL l)) n i ≤ 144115188075855872 := by
  rw [cnt_tid h n i hi]
  exact cntM_small h hn (tid_lt h hi)
/-- From the start both take as many. -/
theorem cnt_same {l : L} (h : l.Ok) (n : Nat) : cntA (auP l) n 1 = cntA (auL (tidL l)) n 0 := by
  obtain ⟨h0, e⟩ := tid_zero (A := auM l) (x0 := 0)
  have h1 := (fits h).1
  rw [cnt_tid h n 0 h0, ← TidyRight.start_eq l, cnt_P h n 0 h1]
  congr 1
  exact e.symm
/-- The same, no more than a cap. -/
def capA (top : Nat) (A : Au) (n s : Nat) : Nat := min (cntA A n s) top
theorem cap_sum (top : Nat) (f : Nat → Nat) (xs : List Nat) (c : Nat) (hc : c < xs.length) :
    min (min (sumN ((xs.map f).take c)) top + min (f xs[c]) top) top = min (sumN ((xs.map f).take (c + 1))) top := by
  rw [sumN_take (by rw [List.length_map]; exact hc), List.getElem_map]
  omega
end Go.Proofs.Ytaebeglcoghehaa.CntMath
/- A table of rows of numbers that a function makes row by row.
   Conditions: stated at each theorem. -/
namespace Go.Proofs.Ytaebeglcoghehaa.Tab
set_option linter.unusedVariables false
set_option linter.unusedSimpArgs false
open Go.RowKit Mem Copy Rel Heap Bld Automaton

/-- The list vn has the rows items; ints are rows beside. -/
structure Tb (w : World) (B : Nat) (vn : Value) (ints items : List (Value × List Value)) : Prop where
  own : Own w B 2 (ints ++ items)
  nxt : Lst w B 44 vn (items.map Prod.fst)
section
variable {w w' : World} {B : Nat} {vn : Value} {ints items : List (Value × List Value)}
theorem Tb.below (h : Tb w B vn ints items) (hb : Below w.heap.size w w') : Tb w' B vn ints items := ⟨h.own.below hb, h.nxt.below hb⟩
theorem Tb.drew (h : Tb w B vn ints items) : Tb w.drew B vn ints items := ⟨h.own.drew, h.nxt⟩
theorem Tb.drewN (h : Tb w B vn ints items) (m : Nat) : Tb (w.drewN m) B vn ints items := ⟨h.own.drewN m, h.nxt⟩
theorem Tb.alloc (h : Tb w B vn ints items) (o : Obj) : Tb (w.alloc o) B vn ints items := h.below ((Below.refl _ _).alloc (Nat.le_refl _) _)
theorem Tb.empty (w : World) (B : Nat) : Tb w B (.slice none 0 0) [] [] := ⟨Own.nil _ _ _, Lst.nil _ _ _⟩
theorem Tb.addInt (h : Tb w B vn ints items) (hb : Below w.heap.size w w') {v : Value} {xs : List Value} (hl : Lst w' B 2 v xs) (hn : ∀ k, v.ownBlock = some k → w.heap.size ≤ k) : Tb w' B vn ((v, xs) :: ints) items :=
  ⟨h.own.addNew hb hl hn, h.nxt.below hb⟩
theorem Tb.setInt (l1 l2 : List (Value × List Value)) {g n cap : Nat} {xs : List Value} (h : Tb w B vn (l1 ++ (.slice (some ⟨g, 0, none⟩) n cap, xs) :: l2) items) {i : Nat} (hi : i < xs.length) (u : Value) :
    Tb (w.setCell ⟨g, i, none⟩ u) B vn (l1 ++ (.slice (some ⟨g, 0, none⟩) n cap, xs.set i u) :: l2) items := by
  have ho : Own w B 2 (l1 ++ (.slice (some ⟨g, 0, none⟩) n cap, xs) :: (l2 ++ items)) := by have := h.own; rw [List.append_assoc] at this; exact this
  have hv := Own.get l1 (l2 ++ items) ho
  refine ⟨?_, h.nxt.setOther (hv.apart h.nxt (by decide) g rfl) u⟩
  rw [List.append_assoc]; exact Own.set l1 (l2 ++ items) ho hi u
theorem Tb.push (l1 l2 : List (Value × List Value)) {vn' v : Value} {xs : List Value} (h : Tb w B vn (l1 ++ (v, xs) :: l2) items) (hp : Pushed w w' B 44 vn vn' (items.map Prod.fst) v) :
    Tb w' B vn' (l1 ++ l2) (items ++ [(v, xs)]) := by
  have ho : Own w' B 2 (l1 ++ (v, xs) :: l2 ++ items) := h.own.grown hp.grow fun k hk p hm => h.nxt.apart (h.own.lst p hm) (by decide) k hk
  refine ⟨Own.perm ho ?_, ?_⟩
  · have h1 : (l1 ++ (v, xs) :: l2 ++ items).Perm ((v, xs) :: (l1 ++ l2 ++ items)) := by
      rw [List.append_assoc, List.append_assoc]
      exact List.perm_middle
    have h2 : ((v, xs) :: (l1 ++ l2 ++ items)).Perm (l1 ++ l2 ++ (items ++ [(v, xs)])) := by
      rw [← List.append_assoc]
      exact (List.perm_append_singleton _ _).symm
    exact h1.trans h2
  · rw [List.map_append]
    exact hp.lst
/-- A table of one row, which is written out. -/
theorem Tb.first {v : Value} {xs : List Value} (hl : Lst w B 2 v xs) (hB : B ≤ w.heap.size) : Tb (w.alloc (.cells #[v] 44)) B (.slice (some ⟨w.heap.size, 0, none⟩) 1 1) [] [(v, xs)] :=
  ⟨(Own.nil _ _ _).add (hl.alloc _) (fun p hp => by cases hp), Lst.one w B _ v hB⟩
theorem Tb.item (h : Tb w B vn ints items) {j : Nat} (hj : j < items.length) : Lst w B 2 items[j].1 items[j].2 := h.own.lst items[j] (List.mem_append_right _ (List.getElem_mem hj))
theorem Tb.rows (h : Tb w B vn [] items) {nx : List (List Int)} (hn : items.map Prod.snd = nx.map fun r => r.map (Value.int .i64)) : Built w B (.slice none 0 0) vn [] nx :=
  ⟨Lst.nil _ _ _, items, by have := h.own; rwa [List.nil_append] at this, h.nxt, hn⟩
end
end Go.Proofs.Ytaebeglcoghehaa.Tab
/- The box of a relation that a function was handed, kept while the function works.
   Conditions: stated at each theorem. -/
namespace Go.Proofs.Ytaebeglcoghehaa.Box1
set_option linter.unusedVariables false
open Go.RowKit Mem Copy Rel Heap Bld

def E1 (w : World) (c : Array Value) (W : World) : Prop := Below (w.heap.size + 1) (w.alloc (.cells c 29)) W
theorem E1.size {w W : World} {c : Array Value} (h : E1 w c W) : w.heap.size + 1 ≤ W.heap.size := by have := Below.size h; rwa [size_alloc'] at this
theorem E1.base {w W : World} {c : Array Value} (h : E1 w c W) : Below w.heap.size w W := ((Below.refl _ _).alloc (Nat.le_refl _) _).trans (Below.mono h (Nat.le_succ _))
theorem E1.box {w W : World} {c : Array Value} (h : E1 w c W) : W.heap[w.heap.size]? = some (.cells c 29 (0, 0)) := (Below.block h _ (Nat.lt_succ_self _)).trans (heap_alloc_new _ _)
theorem E1.go {w W W' : World} {c : Array Value} (h : E1 w c W) (hb : Below W.heap.size W W') : E1 w c W' := Below.trans h (hb.mono (E1.size h))
theorem E1.drew {w W : World} {c : Array Value} (h : E1 w c W) : E1 w c W.drew := below_drewN h 1
theorem E1.drewN {w W : World} {c : Array Value} (h : E1 w c W) (m : Nat) : E1 w c (W.drewN m) := below_drewN h m
theorem E1.alloc {w W : World} {c : Array Value} (h : E1 w c W) (o : Obj) : E1 w c (W.alloc o) := h.go ((Below.refl _ _).alloc (Nat.le_refl _) _)
theorem E1.new (w : World) (c : Array Value) : E1 w c (w.alloc (.cells c 29)) := Below.refl _ _
theorem E1.setCell {w W : World} {c : Array Value} (h : E1 w c W) {p : Addr} (hp : w.heap.size + 1 ≤ p.block) (u : Value) : E1 w c (W.setCell p u) := Below.setCell h hp u
end Go.Proofs.Ytaebeglcoghehaa.Box1
/- How many lists of each length an automaton takes from each state: what the program's listCounts hands back.
   Conditions: the relation is read as XRel's text says; the counts are below the stated bound. -/
namespace Go.Proofs.Ytaebeglcoghehaa.CntI
set_option linter.unusedVariables false
set_option linter.unusedSimpArgs false
set_option maxRecDepth 100000
open Go.RowKit Mem Copy Rel Heap Bld SpecFiner SpecRight TidyAuto TidyRight CntMath Automaton Tab Box1

/-- An automaton by its lists. -/
def auX (A : List Bool) (N : List (List Nat)) : Au := ⟨A.length, fun s => A.getD s false, fun s => N.getD s []⟩
/-- The table of the counts. -/
def tabN (A : Au) (m : Nat) : List (List Int) := (List.range m).map fun j => (List.range A.n).map fun s => ((cntA A j s : Nat) : Int)

set_option maxHeartbeats 8000000 in
theorem listCounts (k st : Int) (A : List Bool) (N : List (List Nat)) (q : Nat) (h0 : 0 < A.length) (hl : N.length = A.length) (hn : A.length ≤ 100000) (hq0 : 0 < q) (hq : q ≤ 26)
    (hrow : ∀ s, s < A.length → (N.getD s []).length = q) (hlt : ∀ s, s < A.length → ∀ c, c < q → (N.getD s []).getD c 0 < A.length)
    (m : Nat) (hm : m ≤ 1000) (hcap : ∀ j, j ≤ m → ∀ s, s < A.length → cntA (auX A N) j s ≤ 144115188075855872) (v : Value) (w : World) (B : Nat) (h : RelAt w B v ⟨k, st, A, N.map ofN⟩) (hB : B ≤ w.heap.size) :
    Calls Try.prog 56 #[v, .int .i64 m] w fun e w' => ∃ vn, e = .returned vn ∧ Built w' w.heap.size (.slice none 0 0) vn [] (tabN (auX A N) (m + 1)) ∧ Below w.heap.size w w' := by
  have HTB := Lib.hid (show tabN (auX A N) (m + 1) = (List.range (m + 1)).map fun j => (List.range A.length).map fun s => ((cntA (auX A N) j s : Nat) : Int) from rfl)
  have HZ := Lib.hid (fun s => show ((cntA (auX A N) 0 s : Nat) : Int) = if A.getD s false = true then 1 else 0 from by
    show (((if A.getD s false = true then 1 else 0 : Nat)) : Int) = _
    split <;> rfl)
  have HSU := Lib.hid (fun j s => show cntA (auX A N) (j + 1) s = sumN ((N.getD s []).map (cntA (auX A N) j)) from rfl)
  obtain ⟨f, hf⟩ : ∃ f, f = cntA (auX A N) := ⟨_, rfl⟩
  rw [← hf] at HTB HZ HSU hcap
  clear hf
  obtain ⟨va, vn, rfl, ha0, hx0⟩ := h
  have ha : Bools w B va A := ha0
  have hx : IntRows w B vn (N.map ofN) := hx0
  clear ha0 hx0
  obtain ⟨aa, ba, oa, ca, rfl, hma, haa, hca⟩ := ha
  obtain ⟨V, ⟨an, bn, on, cn, rfl, hmn, han, hcn⟩, hrows⟩ := hx
  have hln : (N.map ofN).length = A.length := by rw [List.length_map, hl]
  rw [hln] at hmn han hcn hrows
  obtain ⟨rfl, hba⟩ := haa h0
  obtain ⟨rfl, hbn⟩ := han h0
  show Calls Try.prog _ #[.agg #[.int .i64 k, .int .i64 st, .slice (some ⟨ba, oa, none⟩) A.length ca, .slice (some ⟨bn, on, none⟩) (N.map ofN).length cn], .int .i64 m] w _
  rw [hln]
  have HA := Lib.hid (fun W (hb : Below w.heap.size w W) (i : Nat) (hi : i < A.length) => (show W.cell? ⟨ba, oa + i, none⟩ = some (.bool (A.getD i false)) from (hb.cell (p := ⟨ba, oa + i, none⟩) (by show ba < _; omega)).trans (hca i hi)))
  have HN := Lib.hid (fun W (hb : Below w.heap.size w W) (i : Nat) (hi : i < A.length) => (show W.cell? ⟨bn, on + i, none⟩ = some (V i) from (hb.cell (p := ⟨bn, on + i, none⟩) (by show bn < _; omega)).trans (hcn i hi)))
  have HR := Lib.hid (fun (s : Nat) (hs : s < A.length) => (show ∃ br or cr, V s = .slice (some ⟨br, or, none⟩) q cr ∧ br < w.heap.size ∧ ∀ W, Below w.heap.size w W → ∀ c, c < q → W.cell? ⟨br, or + c, none⟩ = some (.int .i64 (((N.getD s []).getD c 0 : Nat) : Int)) from by
    have h1 := hrows s hs
    have hget : (N.map ofN).getD s [] = ofN (N.getD s []) := by
      have h1 : s < N.length := by rw [hl]; exact hs
      simp [List.getD, h1]
    rw [hget] at h1
    obtain ⟨ar, br, or, cr, hvr, hmr, har, hcr⟩ := h1
    rw [ofN_length, hrow s hs] at hvr hmr har hcr
    obtain ⟨rfl, hbr⟩ := har hq0
    refine ⟨br, or, cr, hvr, by omega, fun W hb c hc => ?_⟩
    rw [hb.cell (p := ⟨br, or + c, none⟩) (by show br < _; omega), hcr c hc]
    show some (Value.int .i64 ((ofN (N.getD s [])).getD c 0)) = _
    rw [ofN_get _ (by rw [hrow s hs]; exact hc)]))
  have HRW := Lib.hid hrow
  have HLT := Lib.hid hlt
  have HCP := Lib.hid hcap
  have q1 : ba < w.heap.size := by omega
  have q2 : bn < w.heap.size := by omega
  obtain ⟨n, hnn⟩ : ∃ n, n = A.length := ⟨_, rfl⟩
  rw [← hnn] at HA HN HR HRW HLT HCP HTB hma hn h0
  rw [← hnn]
  clear hca hcn hrows hrow hlt hcap hnn hln hl haa han hba hbn hB hmn
  obtain ⟨cc, hcc⟩ : ∃ cc : Array Value, cc = #[.int .i64 k, .int .i64 st, .slice (some ⟨ba, oa, none⟩) n ca, .slice (some ⟨bn, on, none⟩) n cn] := ⟨_, rfl⟩
  have HCC := Lib.hid hcc
  have HX := Lib.hid (fun W (hk : E1 w cc W) => (show W.cell? ⟨w.heap.size, 2, none⟩ = some (.slice (some ⟨ba, oa, none⟩) n ca) ∧ W.cell? ⟨w.heap.size, 3, none⟩ = some (.slice (some ⟨bn, on, none⟩) n cn) from by
    have hb := E1.box hk
    rw [hcc] at hb
    exact ⟨by rw [cells_get hb]; rfl, by rw [cells_get hb]; rfl⟩))
  have hmk := run_make_row' (P := Try.prog) 44 2 (.int .i64 0) 8 Try.underlying44 info2 rfl .i64 .i64 n (by omega) (by omega)
  have HL0 := Lib.hid (show Lst ((w.alloc (.cells cc 29)).alloc (.cells (madeCells #[Value.int .i64 0] n) 2)) (w.heap.size + 1) 2 (.slice (some ⟨w.heap.size + 1, 0, none⟩) n n) (tv n fun _ => 0) from by
    have h1 := Lst.made (w.alloc (.cells cc 29)) (w.heap.size + 1) 2 (.int .i64 0) n (by rw [size_alloc']; exact Nat.le_refl _) (by unfold maxLen; omega)
    rw [tv_rep, size_alloc'] at h1
    exact h1)
  have HK0 := Lib.hid ((E1.new w cc).alloc (.cells (madeCells #[Value.int .i64 0] n) 2))
  have x2 := (HX.out _ (E1.new w cc)).2
  have x1 := (HX.out _ HK0.out).1
  rw [hcc] at x1 x2 HL0 HK0
  clear hcc
  go_enter Try.func56, Try.ntmps56
  go_wp2_with fail
  rw [HCC.out] at HX
  go_loopw [6, 7, 22] (fun _ _ s22 wr => ∃ i : Nat, i ≤ n ∧ s22 = .int .i64 i ∧ Lst wr (w.heap.size + 1) 2 (.slice (some ⟨w.heap.size + 1, 0, none⟩) n n) (tv n fun s => if s < i then (f 0 s : Int) else 0) ∧ E1 w #[.int .i64 k, .int .i64 st, .slice (some ⟨ba, oa, none⟩) n ca, .slice (some ⟨bn, on, none⟩) n cn] wr) (fun _ _ s22 _ => n - (intOf s22).toNat)
  case atStart => exact ⟨0, Nat.zero_le _, rfl, by have := HL0.out; simpa using this, HK0.out⟩
  case round =>
    obtain ⟨i, hi, rfl, hli, hki⟩ := hrel
    have HLI := Lib.hid hli
    have HKI := Lib.hid hki
    clear hli hki HL0 HK0 x1 x2
    by_cases hlt : i < n
    · have cA := HA.out wr (E1.base HKI.out) i hlt
      have c9 := HLI.out.cellOf (i := i) (by rw [tv_length]; exact hlt)
      have f9 := HLI.out.free i
      rw [tv_get] at c9
      have hgl := HLI.out.lt (k := w.heap.size + 1) rfl
      have hz := HZ.out i
      cases hav : A.getD i false with
      | true =>
        rw [hav] at cA hz
        go_wp2_with fail
        go_roundw
        case rel =>
          have h1 := HLI.out.set (i := i) (by rw [tv_length]; exact hlt) (.int .i64 1)
          rw [tv_set] at h1
          refine ⟨i + 1, hlt, by go_num, ?_, HKI.out.setCell (Nat.le_refl _) _⟩
          rw [show (fun s => if s < i + 1 then (f 0 s : Int) else 0) = (fun s => if s = i then (1 : Int) else if s < i then (f 0 s : Int) else 0) from funext fun s => by
            by_cases e : s = i
            · subst e; simpa using hz
            · have : (s < i + 1) = (s < i) := by apply propext; constructor <;> intro h <;> omega
              simp only [if_neg e, this]]
          exact h1
        case measure => simp [intOf]; omega
      | false =>
        rw [hav] at cA hz
        go_wp2_with fail
        go_roundw
        case rel =>
          refine ⟨i + 1, hlt, by go_num, ?_, HKI.out⟩
          rw [show (fun s => if s < i + 1 then (f 0 s : Int) else 0) = (fun s => if s < i then (f 0 s : Int) else 0) from funext fun s => by
            by_cases e : s = i
            · subst e; simpa using hz
            · have : (s < i + 1) = (s < i) := by apply propext; constructor <;> intro h <;> omega
              simp only [this]]
          exact HLI.out
        case measure => simp [intOf]; omega
    · obtain rfl : i = n := by omega
      have HT0 := Lib.hid (show Tb (wr.alloc (.cells #[.slice (some ⟨w.heap.size + 1, 0, none⟩) i i] 44)) (w.heap.size + 1) (.slice (some ⟨wr.heap.size, 0, none⟩) 1 1) [] [(.slice (some ⟨w.heap.size + 1, 0, none⟩) i i, tv i fun s => (f 0 s : Int))] from by
        have h1 := HLI.out
        rw [tv_congr (S := fun s => (f 0 s : Int)) (fun q hq => by rw [if_pos hq])] at h1
        exact Tb.first h1 (by have := E1.size HKI.out; omega))
      have HK1 := Lib.hid (HKI.out.alloc (.cells #[.slice (some ⟨w.heap.size + 1, 0, none⟩) i i] 44))
      go_wp2_with fail
      go_loopw [8, 9, 10, 11, 12, 14, 35, 45, 52] (fun s8 _ _ _ _ _ s35 _ _ wr => ∃ (j : Nat) (vc : Value) (items : List (Value × List Value)), j ≤ m ∧ s35 = .int .i64 j ∧ vc = s8 ∧ Tb wr (w.heap.size + 1) vc [] items ∧ items.map Prod.snd = (List.range (j + 1)).map (fun j => tv i fun s => (f j s : Int)) ∧ E1 w #[.int .i64 k, .int .i64 st, .slice (some ⟨ba, oa, none⟩) i ca, .slice (some ⟨bn, on, none⟩) i cn] wr) (fun _ _ _ _ _ _ s35 _ _ _ => m - (intOf s35).toNat)
      case atStart => exact ⟨0, _, _, Nat.zero_le _, rfl, rfl, HT0.out, rfl, HK1.out⟩
      case round =>
        obtain ⟨j, vc, items, hj, rfl, rfl, htb, hit, hkj⟩ := hrel
        have HTJ := Lib.hid htb
        have HIT := Lib.hid hit
        have HKJ := Lib.hid hkj
        clear htb hit hkj HT0 HK1 HLI HKI hlt hi
        by_cases hjm : j < m
        · have x3 := (HX.out _ HKJ.out).2
          have hl1 := E1.size HKJ.out
          obtain ⟨g, hg⟩ : ∃ g, g = wr.heap.size := ⟨_, rfl⟩
          have HT1 := Lib.hid (show Tb (wr.alloc (.cells (madeCells #[Value.int .i64 0] i) 2)) (w.heap.size + 1) vc [(.slice (some ⟨g, 0, none⟩) i i, tv i fun _ => 0)] items from by
            have h1 := Lst.made wr (w.heap.size + 1) 2 (.int .i64 0) i (E1.size HKJ.out) (by unfold maxLen; omega)
            rw [tv_rep] at h1
            rw [hg]
            exact HTJ.out.addInt ((Below.refl _ _).alloc (Nat.le_refl _) _) h1 (fun q hq => by cases hq; exact Nat.le_refl _))
          have HK2 := Lib.hid (HKJ.out.alloc (.cells (madeCells #[Value.int .i64 0] i) 2))
          have y3 := (HX.out _ HK2.out).2
          have HGB := Lib.hid (show w.heap.size + 1 ≤ g by rw [hg]; exact hl1)
          obtain ⟨a8, n8, c8, rfl, HN8⟩ := HTJ.out.nxt.shape'
          go_wp2_with fail
          rw [← hg]
          clear hg
          go_loopw [11, 12, 14, 45, 52] (fun _ _ _ s45 _ wr' => ∃ s : Nat, s ≤ i ∧ s45 = .int .i64 s ∧ Tb wr' (w.heap.size + 1) (.slice a8 n8 c8) [(.slice (some ⟨g, 0, none⟩) i i, tv i fun p => if p < s then (f (j + 1) p : Int) else 0)] items ∧ E1 w #[.int .i64 k, .int .i64 st, .slice (some ⟨ba, oa, none⟩) i ca, .slice (some ⟨bn, on, none⟩) i cn] wr') (fun _ _ _ s45 _ _ => i - (intOf s45).toNat)
          case atStart => exact ⟨0, Nat.zero_le _, rfl, by have := HT1.out; simpa using this, HK2.out⟩
          case round =>
            obtain ⟨s, hs, rfl, htb, hks⟩ := hrel
            have HTS := Lib.hid htb
            have HKS := Lib.hid hks
            clear htb hks HT1 HK2 HTJ HKJ x3 y3 hl1
            by_cases hsi : s < i
            · obtain ⟨br, or, cr, hvs, hbr, hcr⟩ := HR.out s hsi
              have HCR := Lib.hid hcr
              have cN := HN.out _ (E1.base HKS.out) s hsi
              rw [hvs] at cN
              have HRS := Lib.hid (HRW.out s hsi)
              have HLS := Lib.hid (HLT.out s hsi)
              have HSS := Lib.hid (HSU.out j s)
              have HCS := Lib.hid (HCP.out (j + 1) (by omega) s hsi)
              obtain ⟨X, hX⟩ : ∃ X, X = N.getD s [] := ⟨_, rfl⟩
              rw [← hX] at HCR HRS HLS HSS
              clear hX hvs hcr
              have HT2 := Lib.hid (show Tb wr (w.heap.size + 1) (.slice a8 n8 c8) [(.slice (some ⟨g, 0, none⟩) i i, tv i fun p => if p < s then (f (j + 1) p : Int) else if p = s then ((sumN ((X.map (f j)).take 0) : Nat) : Int) else 0)] items from by
                have h1 := HTS.out
                rw [show (fun p => if p < s then (f (j + 1) p : Int) else if p = s then ((sumN ((X.map (f j)).take 0) : Nat) : Int) else 0) = (fun p => if p < s then (f (j + 1) p : Int) else 0) from funext fun p => by
                  by_cases e : p < s
                  · rw [if_pos e, if_pos e]
                  · rw [if_neg e, if_neg e]; split <;> rfl]
                exact h1)
              have hl1 := E1.size HKS.out
              go_wp2_with fail
              go_loopw [14, 52] (fun _ s52 wr' => ∃ c : Nat, c ≤ q ∧ s52 = .int .i64 c ∧ Tb wr' (w.heap.size + 1) (.slice a8 n8 c8) [(.slice (some ⟨g, 0, none⟩) i i, tv i fun p => if p < s then (f (j + 1) p : Int) else if p = s then ((sumN ((X.map (f j)).take c) : Nat) : Int) else 0)] items ∧ E1 w #[.int .i64 k, .int .i64 st, .slice (some ⟨ba, oa, none⟩) i ca, .slice (some ⟨bn, on, none⟩) i cn] wr') (fun _ s52 _ => q - (intOf s52).toNat)
              case atStart => exact ⟨0, Nat.zero_le _, rfl, HT2.out, HKS.out⟩
              case round =>
                obtain ⟨c, hc, rfl, htb, hkc⟩ := hrel
                have HTC := Lib.hid htb
                have HKC := Lib.hid hkc
                clear htb hkc HT2 HTS HKS hl1 cN
                by_cases hcq : c < q
                · have cX := HCR.out _ (E1.base HKC.out) c hcq
                  obtain ⟨y, hy⟩ : ∃ y, y = X.getD c 0 := ⟨_, rfl⟩
                  have hyi : y < i := by rw [hy]; exact HLS.out c hcq
                  have hxc : c < X.length := by rw [HRS.out]; exact hcq
                  have HST := Lib.hid (show sumN ((X.map (f j)).take (c + 1)) = sumN ((X.map (f j)).take c) + f j y from by
                    rw [sumN_take (by rw [List.length_map]; exact hxc), List.getElem_map, hy]
                    simp [List.getD, hxc])
                  rw [← hy] at cX
                  have HSB := Lib.hid (show sumN ((X.map (f j)).take c) + f j y ≤ 144115188075855872 from by
                    rw [← HST.out]
                    exact Nat.le_trans (sumN_take_le _ _) (by rw [← HSS.out]; exact HCS.out))
                  obtain ⟨S, hS⟩ : ∃ S, S = sumN ((X.map (f j)).take c) := ⟨_, rfl⟩
                  obtain ⟨C, hC⟩ : ∃ C, C = f j y := ⟨_, rfl⟩
                  have hwr : IntKind.i64.wrap ((S : Int) + (C : Int)) = (S : Int) + (C : Int) := by
                    have := HSB.out
                    rw [← hS, ← hC] at this
                    rw [IntKind.wrap_i64]; omega
                  have hji : j < items.length := by
                    have := congrArg List.length HIT.out
                    rw [List.length_map, List.length_map, List.length_range] at this
                    omega
                  have hij : items[j].2 = tv i fun s => (f j s : Int) := by
                    have h5 := congrArg (fun x => x[j]?) HIT.out
                    simp [hji] at h5
                    exact h5
                  have hlj := HTC.out.item hji
                  rw [hij] at hlj
                  obtain ⟨gj, cpj, hvj, hgj, hcj, -⟩ := hlj.view (by rw [tv_length]; omega)
                  rw [tv_length] at hvj
                  have cY := hcj y (by rw [tv_length]; exact hyi)
                  rw [tv_get, ← hC] at cY
                  have hlf : (items.map Prod.fst).length = j + 1 := by
                    have := congrArg List.length HIT.out
                    rw [List.length_map, List.length_map, List.length_range] at this
                    rw [List.length_map]; exact this
                  obtain ⟨g8, cp8, hv8, hg8, hc8, -⟩ := HTC.out.nxt.view (by omega)
                  rw [hlf] at hv8
                  cases hv8
                  have cJ := hc8 j (by omega)
                  rw [List.getElem_map, hvj] at cJ
                  have cG := (Own.get [] _ HTC.out.own).cellOf (i := s) (by rw [tv_length]; exact hsi)
                  have fG := (Own.get [] _ HTC.out.own).free s
                  rw [tv_get, if_neg (Nat.lt_irrefl s), if_pos rfl, ← hS] at cG
                  have hgl := (Own.get [] _ HTC.out.own).lt (k := g) rfl
                  have hjl : j < j + 1 := Nat.lt_succ_self j
                  have HS2 := Lib.hid hS
                  have HC2 := Lib.hid hC
                  clear hy hcj hc8 hlj hvj hij hlf hS hC HCR
                  go_wp2_with fail
                  go_region
                  all_goals go_wp2_with fail
                  all_goals go_roundw
                  case rel =>
                    have h1 := Tb.setInt [] [] (i := s) HTC.out (by rw [tv_length]; exact hsi) (.int .i64 ((S : Int) + (C : Int)))
                    rw [tv_set] at h1
                    refine ⟨c + 1, hcq, by go_num, ?_, (HKC.out.setCell HGB.out _).drew⟩
                    rw [HST.out, ← HS2.out, ← HC2.out, show (fun p => if p < s then (f (j + 1) p : Int) else if p = s then ((S + C : Nat) : Int) else 0) = (fun p => if p = s then (S : Int) + (C : Int) else if p < s then (f (j + 1) p : Int) else if p = s then ((sumN ((X.map (f j)).take c) : Nat) : Int) else 0) from funext fun p => by
                      by_cases e : p = s
                      · subst e
                        rw [if_neg (Nat.lt_irrefl p), if_pos rfl, if_pos rfl, Int.natCast_add]
                      · rw [if_neg e, if_neg e, if_neg e]]
                    exact h1.drew
                  case measure => simp [intOf]; omega
                · obtain rfl : c = q := by omega
                  go_wp2_with fail
                  go_roundw
                  case rel =>
                    refine ⟨s + 1, hsi, by go_num, ?_, HKC.out⟩
                    have h1 := HTC.out
                    rw [show (fun p => if p < s then (f (j + 1) p : Int) else if p = s then ((sumN ((X.map (f j)).take c) : Nat) : Int) else 0) = (fun p => if p < s + 1 then (f (j + 1) p : Int) else 0) from funext fun p => by
                      by_cases e : p = s
                      · subst e
                        rw [if_neg (Nat.lt_irrefl p), if_pos rfl, if_pos (Nat.lt_succ_self p), List.take_of_length_le (by rw [List.length_map, HRS.out]; exact Nat.le_refl _), ← HSS.out]
                      · have : (p < s + 1) = (p < s) := by apply propext; constructor <;> intro h <;> omega
                        rw [if_neg e]
                        simp only [this]] at h1
                    exact h1
                  case measure => simp [intOf]; omega
            · obtain rfl : s = i := by omega
              have HTE := Lib.hid (show Tb wr (w.heap.size + 1) (.slice a8 n8 c8) ([] ++ (.slice (some ⟨g, 0, none⟩) s s, tv s fun p => (f (j + 1) p : Int)) :: []) items from by
                have h1 := HTS.out
                rw [tv_congr (S := fun p => (f (j + 1) p : Int)) (fun q hq => by rw [if_pos hq])] at h1
                exact h1)
              have HIL := Lib.hid (show (items.map Prod.fst).length ≤ 100000000 from by
                have := congrArg List.length HIT.out
                rw [List.length_map, List.length_map, List.length_range] at this
                rw [List.length_map]; omega)
              have HS4 := Lib.hid (E1.size HKS.out)
              go_wp2_with (at_builtin; refine wpList_push rfl _ _ 23 rfl 44 (.slice none 0 0) 24 Try.underlying23 info54 (by decide) (by decide) (w.heap.size + 1) (.slice a8 n8 c8) _ (.slice (some ⟨g, 0, none⟩) s s) HTE.out.nxt HS4.out rfl HIL.out rfl _ rfl rfl ?_; intro v5 w5 hp5; have HT5 := Lib.hid (HTE.out.push [] [] hp5); have HK5 := Lib.hid (show E1 w #[.int .i64 k, .int .i64 st, .slice (some ⟨ba, oa, none⟩) s ca, .slice (some ⟨bn, on, none⟩) s cn] w5 from Below.grown HKS.out hp5.grow HS4.out (fun q hq => HTE.out.nxt.ge hq)); clear hp5)
              go_roundw
              case rel =>
                refine ⟨j + 1, _, _, hjm, by go_num, rfl, HT5.out, ?_, HK5.out⟩
                rw [List.map_append, HIT.out, List.range_succ (n := j + 1), List.map_append]; rfl
              case measure => simp [intOf]; omega
        · obtain rfl : j = m := by omega
          have HRW2 := Lib.hid (HTJ.out.rows (nx := (List.range (j + 1)).map fun j => (List.range i).map fun s => ((f j s : Nat) : Int)) (by
            rw [HIT.out, List.map_map]
            refine List.map_congr_left fun q _ => ?_
            show tv i _ = ((List.range i).map _).map (Value.int .i64)
            unfold tv; rw [List.map_map]; rfl))
          go_wp2_with fail
          go_ret
          exact ⟨_, rfl, by rw [HTB.out]; exact HRW2.out.mono (Nat.le_succ _), E1.base HKJ.out⟩
end Go.Proofs.Ytaebeglcoghehaa.CntI
