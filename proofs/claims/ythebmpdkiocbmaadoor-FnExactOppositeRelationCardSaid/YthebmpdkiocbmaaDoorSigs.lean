
/- The keys by which the program tells classes of states: what they read as, what its map holds behind so many states, and a law for emptying a map.
   Conditions: stated at each theorem. -/
import Derived.Test.YthebmpdkiocbmaaDoorRows
import Derived.Test.YthebmpdkiocbmaaDoorTidyAuto
import Derived.WalkKit
import Derived.ProofKit
import Derived.Lib.Hide
import Derived.Maps.Own
import Derived.Maps.OwnOps
import Derived.Maps.OwnSet
import Derived.Maps.Views
import Derived.DeepKeys5
namespace Go.Proofs.YthebmpdkiocbmaaDoor.Sigs
set_option linter.unusedVariables false
set_option maxRecDepth 20000
set_option linter.unusedSimpArgs false
open Go.RowKit Go.Maps TidyMath TidyClass

theorem laidOut : laidOutB Tryd.prog = true := by kernel_rfl
theorem law : Keyed Tryd.prog 151 := Keyed.of_law (deep_law_gate laidOut (of_decide_eq_true (by kernel_rfl)) (of_decide_eq_true (by kernel_rfl)) (by kernel_rfl) (by kernel_rfl))
theorem zero32 (w : World) : (zeroValue 21).run Tryd.prog w = .ok (.int .i32 0) w := by kernel_rfl
theorem keyT : Tryd.prog.keyType 151 = true := by kernel_rfl
theorem cellsT : Tryd.prog.cellsOf 151 = 27 := by kernel_rfl
theorem cellsE : Tryd.prog.cellsOf 21 = 1 := by kernel_rfl
theorem underT : Tryd.prog.underlying 151 = some (.array 27 21) := by kernel_rfl
theorem underE : Tryd.prog.underlying 21 = some (.int .i32) := by kernel_rfl
theorem typesS : ∃ m, Tryd.prog.types.size = m + 1 := ⟨Tryd.prog.types.size - 1, by kernel_rfl⟩

theorem mapM_some {α β : Type} {f : α → Option β} {g : α → β} : ∀ l : List α, (∀ x ∈ l, f x = some (g x)) → l.mapM f = some (l.map g)
  | [], _ => rfl
  | x :: r, h => by
    rw [List.mapM_cons, h x List.mem_cons_self, mapM_some r fun y hy => h y (List.mem_cons_of_mem _ hy)]; rfl

def litL (xs : List Int) : List Lit := xs.map (Lit.int .i32)
def litK (xs : List Int) : Lit := .string (keyBytes (litL xs))
def valK (xs : List Int) : Value := .agg (xs.map (Value.int .i32)).toArray

theorem flat_ones (xs : List Int) (n : Nat) (h : xs.length = n) : ((List.range n).map fun i => [Lit.int .i32 (xs.getD i 0)]).flatten = litL xs := by
  have : ∀ l : List Nat, (l.map fun i => [Lit.int .i32 (xs.getD i 0)]).flatten = l.map fun i => Lit.int .i32 (xs.getD i 0) := by
    intro l; induction l with
    | nil => rfl
    | cons x r ih => rw [List.map_cons, List.flatten_cons, ih]; rfl
  rw [this]
  apply List.ext_getElem
  · simp [litL, h]
  · intro i h1 h2
    have hi : i < xs.length := by simpa [litL] using h2
    simp [litL, List.getD, hi]

/-- What 27 numbers read as, as a key. -/
theorem keyK (xs : List Int) (h : xs.length = 27) (hw : ∀ x ∈ xs, 0 ≤ x ∧ x ≤ 100000000) : keyOf Tryd.prog 151 (valK xs) = some (litK xs) := by
  obtain ⟨m, hm⟩ := typesS
  unfold keyOf
  simp only [underT]
  rw [if_pos (by simp [keyT, Value.formed, valK, underT, cellsT, h]), hm]
  unfold Program.keyLits
  simp only [underT, valK, Value.cells]
  rw [if_pos (by rw [cellsT]; simp [h])]
  rw [mapM_some (g := fun i => [Lit.int .i32 (xs.getD i 0)]) (List.range 27) ?_]
  · rw [Option.map_some, flat_ones xs 27 h]; rfl
  · intro i hi
    have hi' : i < xs.length := by rw [h]; exact List.mem_range.1 hi
    rw [cellsE, Nat.mul_one]
    have e : ((xs.map (Value.int .i32)).drop i).take 1 = [Value.int .i32 (xs.getD i 0)] := by
      rw [List.drop_eq_getElem_cons (by simpa using hi')]
      simp [List.getD, hi']
    rw [e]
    unfold Program.keyLits
    simp only [underE]
    have hb := hw (xs.getD i 0) (by rw [List.getD, List.getElem?_eq_getElem hi']; exact List.getElem_mem hi')
    have hwf : (Lit.int .i32 (xs.getD i 0)).wf = true := by
      have h1 : IntKind.i32.min = -2147483648 := by decide
      have h2 : IntKind.i32.max = 2147483647 := by decide
      simp only [Lit.wf, h1, h2, Bool.and_eq_true, decide_eq_true_eq]
      omega
    rw [if_pos ⟨trivial, hwf⟩]

theorem map_inj {xs ys : List Int} (h : valK xs = valK ys) : xs = ys := by
  unfold valK at h
  simp only [Value.agg.injEq] at h
  have h := congrArg Array.toList h
  simp only [List.toList_toArray] at h
  have : ∀ a b : List Int, a.map (Value.int .i32) = b.map (Value.int .i32) → a = b := by
    intro a
    induction a with
    | nil => intro b h; cases b with | nil => rfl | cons => cases h
    | cons x r ih =>
      intro b h
      cases b with
      | nil => cases h
      | cons y q =>
        rw [List.map_cons, List.map_cons, List.cons.injEq] at h
        obtain ⟨h1, h2⟩ := h
        simp only [Value.int.injEq, true_and] at h1
        rw [h1, ih q h2]
  exact this _ _ h
theorem litK_inj {xs ys : List Int} (hx : xs.length = 27) (hy : ys.length = 27) (wx : ∀ x ∈ xs, 0 ≤ x ∧ x ≤ 100000000) (wy : ∀ x ∈ ys, 0 ≤ x ∧ x ≤ 100000000) (h : litK xs = litK ys) : xs = ys :=
  map_inj (law.inj (keyK xs hx wx) (h ▸ keyK ys hy wy))

/-- The key of a class and of the classes behind. -/
def sgL (p : Nat × List Nat) : List Int := (p.1 : Int) :: (p.2.map (fun x : Nat => (x : Int)) ++ List.replicate (26 - p.2.length) 0)
theorem sgL_length {p : Nat × List Nat} (h : p.2.length ≤ 26) : (sgL p).length = 27 := by simp [sgL]; omega
theorem sgL_small {p : Nat × List Nat} (h1 : p.1 ≤ 100000000) (h2 : ∀ x ∈ p.2, x ≤ 100000000) : ∀ x ∈ sgL p, 0 ≤ x ∧ x ≤ 100000000 := by
  intro x hx
  rcases List.mem_cons.1 hx with rfl | hx
  · omega
  · rcases List.mem_append.1 hx with hx | hx
    · obtain ⟨y, hy, rfl⟩ := List.mem_map.1 hx
      have := h2 y hy
      omega
    · have := List.eq_of_mem_replicate hx
      omega
theorem sgL_inj {p q : Nat × List Nat} (hl : p.2.length = q.2.length) (h : sgL p = sgL q) : p = q := by
  unfold sgL at h
  rw [List.cons.injEq] at h
  have h2 := (List.append_inj h.2 (by simp [hl])).1
  have : ∀ a b : List Nat, a.map (fun x : Nat => (x : Int)) = b.map (fun x : Nat => (x : Int)) → a = b := by
    intro a
    induction a with
    | nil => intro b h; cases b with | nil => rfl | cons => cases h
    | cons x r ih =>
      intro b h
      cases b with
      | nil => cases h
      | cons y q =>
        rw [List.map_cons, List.map_cons, List.cons.injEq] at h
        rw [ih q h.2, show x = y by omega]
  exact Prod.ext (by omega) (this _ _ h2)

/-- What the map holds behind so many states. -/
def MD (sg : Nat → Nat × List Nat) : Nat → DataW Unit
  | 0 => .map []
  | s + 1 => if idx sg (reps sg s) s < (reps sg s).length then MD sg s else (MD sg s).put (litK (sgL (sg s))) (.lit (.int .i32 ((reps sg s).length : Nat)))

structure SgOk (sg : Nat → Nat × List Nat) (n wd : Nat) : Prop where
  len : ∀ s, s < n → (sg s).2.length = wd
  fst : ∀ s, s < n → (sg s).1 ≤ 100000000
  snd : ∀ s, s < n → ∀ x ∈ (sg s).2, x ≤ 100000000
  wd : wd ≤ 26

theorem SgOk.key {sg : Nat → Nat × List Nat} {n wd : Nat} (h : SgOk sg n wd) {s : Nat} (hs : s < n) : keyOf Tryd.prog 151 (valK (sgL (sg s))) = some (litK (sgL (sg s))) :=
  keyK _ (sgL_length (by rw [h.len s hs]; exact h.wd)) (sgL_small (h.fst s hs) (h.snd s hs))
theorem SgOk.inj {sg : Nat → Nat × List Nat} {n wd : Nat} (h : SgOk sg n wd) {s t : Nat} (hs : s < n) (ht : t < n) (e : litK (sgL (sg s)) = litK (sgL (sg t))) : sg s = sg t :=
  sgL_inj (by rw [h.len s hs, h.len t ht]) (litK_inj (sgL_length (by rw [h.len s hs]; exact h.wd)) (sgL_length (by rw [h.len t ht]; exact h.wd)) (sgL_small (h.fst s hs) (h.snd s hs)) (sgL_small (h.fst t ht) (h.snd t ht)) e)

structure MDOk (sg : Nat → Nat × List Nat) (n s : Nat) : Prop where
  tidy : Tidy (MD sg s)
  size : Maps.size (MD sg s) = (reps sg s).length
  has : ∀ t, t < n → Maps.has (MD sg s) (litK (sgL (sg t))) = decide (idx sg (reps sg s) t < (reps sg s).length)
  at_ : ∀ t, t < n → idx sg (reps sg s) t < (reps sg s).length → ∀ z, (MD sg s).atKey (litK (sgL (sg t))) z = .lit (.int .i32 ((idx sg (reps sg s) t : Nat) : Int))

theorem md_ok {sg : Nat → Nat × List Nat} {n wd : Nat} (h : SgOk sg n wd) : ∀ s, s ≤ n → MDOk sg n s
  | 0, _ => ⟨⟨[], rfl, List.Pairwise.nil⟩, rfl, fun t _ => by simp [MD, Maps.has, reps, idx], fun t _ hi => by simp [reps] at hi⟩
  | s + 1, hs => by
    have ih := md_ok h s (by omega)
    have hkey : WideAt.IsKeyLit (litK (sgL (sg s))) := law.key (h.key (s := s) (by omega))
    by_cases hlt : idx sg (reps sg s) s < (reps sg s).length
    · have e1 : MD sg (s + 1) = MD sg s := by show (if _ then _ else _) = _; rw [if_pos hlt]
      have e2 : reps sg (s + 1) = reps sg s := by rw [reps_succ]; unfold meet; rw [if_pos hlt]
      refine ⟨by rw [e1]; exact ih.tidy, by rw [e1, e2]; exact ih.size, fun t ht => by rw [e1, e2]; exact ih.has t ht, fun t ht => by rw [e1, e2]; exact ih.at_ t ht⟩
    · have e1 : MD sg (s + 1) = (MD sg s).put (litK (sgL (sg s))) (.lit (.int .i32 ((reps sg s).length : Nat))) := by show (if _ then _ else _) = _; rw [if_neg hlt]
      have e2 : reps sg (s + 1) = reps sg s ++ [s] := by rw [reps_succ]; unfold meet; rw [if_neg hlt]
      have hns : idx sg (reps sg s) s = (reps sg s).length := by have := idx_le sg (reps sg s) s; omega
      have hno : Maps.has (MD sg s) (litK (sgL (sg s))) = false := by rw [ih.has s (by omega)]; simpa using hlt
      have hother : ∀ t, sg t ≠ sg s → ¬ idx sg (reps sg s) t < (reps sg s).length → ¬ idx sg (reps sg s ++ [s]) t < (reps sg s ++ [s]).length := fun t hne hn hc => by
        have hk := idx_key sg hc
        have hm : (reps sg s ++ [s])[idx sg (reps sg s ++ [s]) t] ∈ reps sg s ++ [s] := List.getElem_mem hc
        rcases List.mem_append.1 hm with hm | hm
        · exact hn (idx_lt_of_mem sg hm hk)
        · rw [List.mem_singleton.1 hm] at hk; exact hne hk.symm
      refine ⟨?_, ?_, ?_, ?_⟩
      · rw [e1]; exact ih.tidy.put hkey _
      · rw [e1, size_put ih.tidy, hno, e2, ih.size]; simp
      · intro t ht
        rw [e1, e2]
        by_cases he : sg t = sg s
        · rw [he, has_put_same ih.tidy.isMap hkey]
          rw [idx_congr sg he, idx_snoc, hns]; simp
        · rw [has_put_other (fun e => he (h.inj ht (by omega) e)), ih.has t ht]
          by_cases hi : idx sg (reps sg s) t < (reps sg s).length
          · rw [idx_append sg hi, decide_eq_true hi, decide_eq_true (by rw [List.length_append]; omega)]
          · rw [decide_eq_false hi, decide_eq_false (hother t he hi)]
      · intro t ht hi z
        rw [e1]
        rw [e2] at hi ⊢
        by_cases he : sg t = sg s
        · rw [he, atKey_put_same ih.tidy.isMap hkey, idx_congr sg he, idx_snoc, hns]
        · rw [atKey_put_other (fun e => he (h.inj ht (by omega) e))]
          have hi' : idx sg (reps sg s) t < (reps sg s).length := Classical.byContradiction fun hn => hother t he hn hi
          rw [idx_append sg hi']
          exact ih.at_ t ht hi' z

/-- clear(m), for a map of the call's own. -/
theorem run_clear {P : Program} {w : World} {t k e : TypeId} (ht : P.underlying t = some (.map k e)) {R : Value → Option (DataW Unit × List MemPlace)} {b n : Nat} {D : DataW Unit} (hown : w.ownsMap P k R b n D) :
    ∃ w', (∀ ty, (Builtin.clear_ #[t] ty #[.map (some b)]).run P w = .ok (.tuple #[]) w') ∧ w'.ownsMap P k R b 0 (.map []) ∧ w.grownBy w' (some b) := by
  obtain ⟨es, clock, hb, F, hs, rfl⟩ := hown
  refine ⟨ChangeMaps.setBlock w b (.map #[] clock), fun ty => ?_, ⟨#[], clock, ChangeMaps.heap_setBlock_same hb _, ⟨by simp, MapKept.stamped_empty _, by simp⟩, Nat.le_refl _, rfl⟩,
    ⟨rfl, rfl, rfl, by simp [ChangeMaps.setBlock], fun i _ hi => ChangeMaps.heap_setBlock_other hb _ (fun e => hi (by rw [e]))⟩⟩
  unfold Builtin.clear_
  simp [run_underlying ht, MapKept.run_getObj_map hb, MapKept.run_setObj_map _ hb, Result.andThen, ChangeMaps.setBlock]
end Go.Proofs.YthebmpdkiocbmaaDoor.Sigs
