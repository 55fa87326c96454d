
/- The keys by which the program tells classes of states: what they read as, what its map holds behind so many states, and a law for emptying a map.
   Conditions: stated at each theorem. -/
import Derived.Test.YtgaipjofhkijbaaDoorRows
import Derived.Test.YtgaipjofhkijbaaDoorIM1
import Derived.WalkKit
import Derived.ProofKit
import Derived.Lib.Hide
import Derived.Maps.Own
import Derived.Maps.OwnOps
import Derived.Maps.OwnSet
import Derived.Maps.Views
import Derived.DeepKeys5
import Derived.Test.YtgaipjofhkijbaaDoorIM7
import Derived.Test.YtgaipjofhkijbaaDoorIM4
import Derived.Test.YtgaipjofhkijbaaDoorIM6
import Derived.Deep.RegionWith
import Derived.Deep.QuietTactic
import Derived.BigQuiet
import Derived.Deep.DeepCutAuto
import Derived.Deep.WholeRow
import Derived.StillTailTactics
namespace Go.Proofs.YtgaipjofhkijbaaDoor.Sigs
set_option linter.unusedVariables false
set_option maxRecDepth 20000
set_option linter.unusedSimpArgs false
open Go.RowKit Go.Maps TidyMath TidyClass

theorem laidOut : laidOutB Tryd.prog = true := by kernel_rfl
theorem law : Keyed Tryd.prog 149 := Keyed.of_law (deep_law_gate laidOut (of_decide_eq_true (by kernel_rfl)) (of_decide_eq_true (by kernel_rfl)) (by kernel_rfl) (by kernel_rfl))
theorem zero32 (w : World) : (zeroValue 21).run Tryd.prog w = .ok (.int .i32 0) w := by kernel_rfl
theorem keyT : Tryd.prog.keyType 149 = true := by kernel_rfl
theorem cellsT : Tryd.prog.cellsOf 149 = 27 := by kernel_rfl
theorem cellsE : Tryd.prog.cellsOf 21 = 1 := by kernel_rfl
theorem underT : Tryd.prog.underlying 149 = some (.array 27 21) := by kernel_rfl
theorem underE : Tryd.prog.underlying 21 = some (.int .i32) := by kernel_rfl
theorem typesS : ∃ m, Tryd.prog.types.size = m + 1 := ⟨Tryd.prog.types.size - 1, by kernel_rfl⟩

theorem mapM_some {α β : Type} {f : α → Option β} {g : α → β} : ∀ l : List α, (∀ x ∈ l, f x = some (g x)) → l.mapM f = some (l.map g)
  | [], _ => rfl
  | x :: r, h => by
    rw [List.mapM_cons, h x List.mem_cons_self, mapM_some r fun y hy => h y (List.mem_cons_of_mem _ hy)]; rfl

def litL (xs : List Int) : List Lit := xs.map (Lit.int .i32)
def litK (xs : List Int) : Lit := .string (keyBytes (litL xs))
def valK (xs : List Int) : Value := .agg (xs.map (Value.int .i32)).toArray

theorem flat_ones (xs : List Int) (n : Nat) (h : xs.length = n) : ((List.range n).map fun i => [Lit.int .i32 (xs.getD i 0)]).flatten = litL xs := by
  have : ∀ l : List Nat, (l.map fun i => [Lit.int .i32 (xs.getD i 0)]).flatten = l.map fun i => Lit.int .i32 (xs.getD i 0) := by
    intro l; induction l with
    | nil => rfl
    | cons x r ih => rw [List.map_cons, List.flatten_cons, ih]; rfl
  rw [this]
  apply List.ext_getElem
  · simp [litL, h]
  · intro i h1 h2
    have hi : i < xs.length := by simpa [litL] using h2
    simp [litL, List.getD, hi]

/-- What 27 numbers read as, as a key. -/
theorem keyK (xs : List Int) (h : xs.length = 27) (hw : ∀ x ∈ xs, 0 ≤ x ∧ x ≤ 100000000) : keyOf Tryd.prog 149 (valK xs) = some (litK xs) := by
  obtain ⟨m, hm⟩ := typesS
  unfold keyOf
  simp only [underT]
  rw [if_pos (by simp [keyT, Value.formed, valK, underT, cellsT, h]), hm]
  unfold Program.keyLits
  simp only [underT, valK, Value.cells]
  rw [if_pos (by rw [cellsT]; simp [h])]
  rw [mapM_some (g := fun i => [Lit.int .i32 (xs.getD i 0)]) (List.range 27) ?_]
  · rw [Option.map_some, flat_ones xs 27 h]; rfl
  · intro i hi
    have hi' : i < xs.length := by rw [h]; exact List.mem_range.1 hi
    rw [cellsE, Nat.mul_one]
    have e : ((xs.map (Value.int .i32)).drop i).take 1 = [Value.int .i32 (xs.getD i 0)] := by
      rw [List.drop_eq_getElem_cons (by simpa using hi')]
      simp [List.getD, hi']
    rw [e]
    unfold Program.keyLits
    simp only [underE]
    have hb := hw (xs.getD i 0) (by rw [List.getD, List.getElem?_eq_getElem hi']; exact List.getElem_mem hi')
    have hwf : (Lit.int .i32 (xs.getD i 0)).wf = true := by
      have h1 : IntKind.i32.min = -2147483648 := by decide
      have h2 : IntKind.i32.max = 2147483647 := by decide
      simp only [Lit.wf, h1, h2, Bool.and_eq_true, decide_eq_true_eq]
      omega
    rw [if_pos ⟨trivial, hwf⟩]

theorem map_inj {xs ys : List Int} (h : valK xs = valK ys) : xs = ys := by
  unfold valK at h
  simp only [Value.agg.injEq] at h
  have h := congrArg Array.toList h
  simp only [List.toList_toArray] at h
  have : ∀ a b : List Int, a.map (Value.int .i32) = b.map (Value.int .i32) → a = b := by
    intro a
    induction a with
    | nil => intro b h; cases b with | nil => rfl | cons => cases h
    | cons x r ih =>
      intro b h
      cases b with
      | nil => cases h
      | cons y q =>
        rw [List.map_cons, List.map_cons, List.cons.injEq] at h
        obtain ⟨h1, h2⟩ := h
        simp only [Value.int.injEq, true_and] at h1
        rw [h1, ih q h2]
  exact this _ _ h
theorem litK_inj {xs ys : List Int} (hx : xs.length = 27) (hy : ys.length = 27) (wx : ∀ x ∈ xs, 0 ≤ x ∧ x ≤ 100000000) (wy : ∀ x ∈ ys, 0 ≤ x ∧ x ≤ 100000000) (h : litK xs = litK ys) : xs = ys :=
  map_inj (law.inj (keyK xs hx wx) (h ▸ keyK ys hy wy))

/-- The key of a class and of the classes behind. -/
def sgL (p : Nat × List Nat) : List Int := (p.1 : Int) :: (p.2.map (fun x : Nat => (x : Int)) ++ List.replicate (26 - p.2.length) 0)
theorem sgL_length {p : Nat × List Nat} (h : p.2.length ≤ 26) : (sgL p).length = 27 := by simp [sgL]; omega
theorem sgL_small {p : Nat × List Nat} (h1 : p.1 ≤ 100000000) (h2 : ∀ x ∈ p.2, x ≤ 100000000) : ∀ x ∈ sgL p, 0 ≤ x ∧ x ≤ 100000000 := by
  intro x hx
  rcases List.mem_cons.1 hx with rfl | hx
  · omega
  · rcases List.mem_append.1 hx with hx | hx
    · obtain ⟨y, hy, rfl⟩ := List.mem_map.1 hx
      have := h2 y hy
      omega
    · have := List.eq_of_mem_replicate hx
      omega
theorem sgL_inj {p q : Nat × List Nat} (hl : p.2.length = q.2.length) (h : sgL p = sgL q) : p = q := by
  unfold sgL at h
  rw [List.cons.injEq] at h
  have h2 := (List.append_inj h.2 (by simp [hl])).1
  have : ∀ a b : List Nat, a.map (fun x : Nat => (x : Int)) = b.map (fun x : Nat => (x : Int)) → a = b := by
    intro a
    induction a with
    | nil => intro b h; cases b with | nil => rfl | cons => cases h
    | cons x r ih =>
      intro b h
      cases b with
      | nil => cases h
      | cons y q =>
        rw [List.map_cons, List.map_cons, List.cons.injEq] at h
        rw [ih q h.2, show x = y by omega]
  exact Prod.ext (by omega) (this _ _ h2)

/-- What the map holds behind so many states. -/
def MD (sg : Nat → Nat × List Nat) : Nat → DataW Unit
  | 0 => .map []
  | s + 1 => if idx sg (reps sg s) s < (reps sg s).length then MD sg s else (MD sg s).put (litK (sgL (sg s))) (.lit (.int .i32 ((reps sg s).length : Nat)))

structure SgOk (sg : Nat → Nat × List Nat) (n wd : Nat) : Prop where
  len : ∀ s, s < n → (sg s).2.length = wd
  fst : ∀ s, s < n → (sg s).1 ≤ 100000000
  snd : ∀ s, s < n → ∀ x ∈ (sg s).2, x ≤ 100000000
  wd : wd ≤ 26

theorem SgOk.key {sg : Nat → Nat × List Nat} {n wd : Nat} (h : SgOk sg n wd) {s : Nat} (hs : s < n) : keyOf Tryd.prog 149 (valK (sgL (sg s))) = some (litK (sgL (sg s))) :=
  keyK _ (sgL_length (by rw [h.len s hs]; exact h.wd)) (sgL_small (h.fst s hs) (h.snd s hs))
theorem SgOk.inj {sg : Nat → Nat × List Nat} {n wd : Nat} (h : SgOk sg n wd) {s t : Nat} (hs : s < n) (ht : t < n) (e : litK (sgL (sg s)) = litK (sgL (sg t))) : sg s = sg t :=
  sgL_inj (by rw [h.len s hs, h.len t ht]) (litK_inj (sgL_length (by rw [h.len s hs]; exact h.wd)) (sgL_length (by rw [h.len t ht]; exact h.wd)) (sgL_small (h.fst s hs) (h.snd s hs)) (sgL_small (h.fst t ht) (h.snd t ht)) e)

structure MDOk (sg : Nat → Nat × List Nat) (n s : Nat) : Prop where
  tidy : Tidy (MD sg s)
  size : Maps.size (MD sg s) = (reps sg s).length
  has : ∀ t, t < n → Maps.has (MD sg s) (litK (sgL (sg t))) = decide (idx sg (reps sg s) t < (reps sg s).length)
  at_ : ∀ t, t < n → idx sg (reps sg s) t < (reps sg s).length → ∀ z, (MD sg s).atKey (litK (sgL (sg t))) z = .lit (.int .i32 ((idx sg (reps sg s) t : Nat) : Int))

theorem md_ok {sg : Nat → Nat × List Nat} {n wd : Nat} (h : SgOk sg n wd) : ∀ s, s ≤ n → MDOk sg n s
  | 0, _ => ⟨⟨[], rfl, List.Pairwise.nil⟩, rfl, fun t _ => by simp [MD, Maps.has, reps, idx], fun t _ hi => by simp [reps] at hi⟩
  | s + 1, hs => by
    have ih := md_ok h s (by omega)
    have hkey : WideAt.IsKeyLit (litK (sgL (sg s))) := law.key (h.key (s := s) (by omega))
    by_cases hlt : idx sg (reps sg s) s < (reps sg s).length
    · have e1 : MD sg (s + 1) = MD sg s := by show (if _ then _ else _) = _; rw [if_pos hlt]
      have e2 : reps sg (s + 1) = reps sg s := by rw [reps_succ]; unfold meet; rw [if_pos hlt]
      refine ⟨by rw [e1]; exact ih.tidy, by rw [e1, e2]; exact ih.size, fun t ht => by rw [e1, e2]; exact ih.has t ht, fun t ht => by rw [e1, e2]; exact ih.at_ t ht⟩
    · have e1 : MD sg (s + 1) = (MD sg s).put (litK (sgL (sg s))) (.lit (.int .i32 ((reps sg s).length : Nat))) := by show (if _ then _ else _) = _; rw [if_neg hlt]
      have e2 : reps sg (s + 1) = reps sg s ++ [s] := by rw [reps_succ]; unfold meet; rw [if_neg hlt]
      have hns : idx sg (reps sg s) s = (reps sg s).length := by have := idx_le sg (reps sg s) s; omega
      have hno : Maps.has (MD sg s) (litK (sgL (sg s))) = false := by rw [ih.has s (by omega)]; simpa using hlt
      have hother : ∀ t, sg t ≠ sg s → ¬ idx sg (reps sg s) t < (reps sg s).length → ¬ idx sg (reps sg s ++ [s]) t < (reps sg s ++ [s]).length := fun t hne hn hc => by
        have hk := idx_key sg hc
        have hm : (reps sg s ++ [s])[idx sg (reps sg s ++ [s]) t] ∈ reps sg s ++ [s] := List.getElem_mem hc
        rcases List.mem_append.1 hm with hm | hm
        · exact hn (idx_lt_of_mem sg hm hk)
        · rw [List.mem_singleton.1 hm] at hk; exact hne hk.symm
      refine ⟨?_, ?_, ?_, ?_⟩
      · rw [e1]; exact ih.tidy.put hkey _
      · rw [e1, size_put ih.tidy, hno, e2, ih.size]; simp
      · intro t ht
        rw [e1, e2]
        by_cases he : sg t = sg s
        · rw [he, has_put_same ih.tidy.isMap hkey]
          rw [idx_congr sg he, idx_snoc, hns]; simp
        · rw [has_put_other (fun e => he (h.inj ht (by omega) e)), ih.has t ht]
          by_cases hi : idx sg (reps sg s) t < (reps sg s).length
          · rw [idx_append sg hi, decide_eq_true hi, decide_eq_true (by rw [List.length_append]; omega)]
          · rw [decide_eq_false hi, decide_eq_false (hother t he hi)]
      · intro t ht hi z
        rw [e1]
        rw [e2] at hi ⊢
        by_cases he : sg t = sg s
        · rw [he, atKey_put_same ih.tidy.isMap hkey, idx_congr sg he, idx_snoc, hns]
        · rw [atKey_put_other (fun e => he (h.inj ht (by omega) e))]
          have hi' : idx sg (reps sg s) t < (reps sg s).length := Classical.byContradiction fun hn => hother t he hn hi
          rw [idx_append sg hi']
          exact ih.at_ t ht hi' z

/-- clear(m), for a map of the call's own. -/
theorem run_clear {P : Program} {w : World} {t k e : TypeId} (ht : P.underlying t = some (.map k e)) {R : Value → Option (DataW Unit × List MemPlace)} {b n : Nat} {D : DataW Unit} (hown : w.ownsMap P k R b n D) :
    ∃ w', (∀ ty, (Builtin.clear_ #[t] ty #[.map (some b)]).run P w = .ok (.tuple #[]) w') ∧ w'.ownsMap P k R b 0 (.map []) ∧ w.grownBy w' (some b) := by
  obtain ⟨es, clock, hb, F, hs, rfl⟩ := hown
  refine ⟨ChangeMaps.setBlock w b (.map #[] clock), fun ty => ?_, ⟨#[], clock, ChangeMaps.heap_setBlock_same hb _, ⟨by simp, MapKept.stamped_empty _, by simp⟩, Nat.le_refl _, rfl⟩,
    ⟨rfl, rfl, rfl, by simp [ChangeMaps.setBlock], fun i _ hi => ChangeMaps.heap_setBlock_other hb _ (fun e => hi (by rw [e]))⟩⟩
  unfold Builtin.clear_
  simp [run_underlying ht, MapKept.run_getObj_map hb, MapKept.run_setObj_map _ hb, Result.andThen, ChangeMaps.setBlock]
end Go.Proofs.YtgaipjofhkijbaaDoor.Sigs
/- What the program's function that numbers the classes of states hands back.
   Conditions: stated at each theorem. -/
namespace Go.Proofs.YtgaipjofhkijbaaDoor.ImplClasses
set_option linter.unusedVariables false
set_option maxRecDepth 20000
set_option linter.unusedSimpArgs false
open Go.RowKit Go.Maps Mem Copy Rel Heap Bld TidyMath TidyClass TidyAuto SpecFiner Sigs MarkRow

/-- A table of short numbers. -/
def tw (n : Nat) (T : Nat → Nat) : List Value := (List.range n).map fun i => Value.int .i32 ((T i : Nat) : Int)
theorem tw_length (n : Nat) (T : Nat → Nat) : (tw n T).length = n := by simp [tw]
theorem tw_get (n : Nat) (T : Nat → Nat) {i : Nat} (h : i < (tw n T).length) : (tw n T)[i] = .int .i32 ((T i : Nat) : Int) := by simp [tw]
theorem tw_set (n : Nat) (T : Nat → Nat) (k : Nat) (x : Nat) : (tw n T).set k (.int .i32 (x : Int)) = tw n fun i => if i = k then x else T i := by
  apply List.ext_getElem
  · simp [tw]
  · intro i h1 h2
    rw [List.getElem_set, tw_get _ _ h2]
    by_cases e : k = i
    · subst e; simp
    · rw [if_neg e, if_neg (fun h : i = k => e h.symm), tw_get n T (by rw [List.length_set] at h1; exact h1)]
theorem tw_congr {n : Nat} {T S : Nat → Nat} (h : ∀ i, i < n → T i = S i) : tw n T = tw n S := by
  unfold tw
  exact List.map_congr_left fun i hi => by rw [h i (List.mem_range.1 hi)]
theorem tw_rep (n : Nat) : List.replicate n (Value.int .i32 0) = tw n fun _ => 0 := by
  apply List.ext_getElem
  · simp [tw]
  · intro i h1 h2; simp [tw]

theorem rows_grown {w w' : World} {B bm : Nat} {v : Value} {xss : List (List Int)} (h : IntRows w B v xss) (hg : w.grownBy w' (some bm)) (hB : B ≤ bm) : IntRows w' B v xss := by
  obtain ⟨V, h1, h2⟩ := h
  exact ⟨V, sl_grown h1 hg (fun k e => by cases e; exact hB), fun i hi => sl_grown (h2 i hi) hg (fun k e => by cases e; exact hB)⟩
theorem lst_not_map {w : World} {B : Nat} {t : TypeId} {v : Value} {xs : List Value} {bm n : Nat} {D : DataW Unit} (h : Lst w B t v xs) (hm : w.ownsMap Tryd.prog 149 (plainElem Tryd.prog 21) bm n D) : v.ownBlock ≠ some bm := by
  obtain ⟨es, clock, hb, -⟩ := hm
  intro e
  rcases h.2 with ⟨rfl, -⟩ | ⟨g, cap, cur, rfl, hbg, hh, -⟩
  · cases e
  · cases e
    rw [hh] at hb
    cases hb

/-- The variables that the function captures. -/
structure Ctx (w : World) (bm b2 b3 b4 b5 : Nat) (k mst : Nat) (va vn : Value) : Prop where
  box2 : w.heap[b2]? = some (.cells #[.map (some bm)] 146 (0, 0))
  box3 : w.heap[b3]? = some (.cells #[.int .i64 k, .int .i64 1, va, vn] 27 (0, 0))
  box4 : w.heap[b4]? = some (.cells #[.int .i64 mst] 3 (0, 0))
  box5 : w.heap[b5]? = some (.cells #[.func (.func 104) #[] #[.pointer (some ⟨b2, 0, none⟩), .pointer (some ⟨b3, 0, none⟩), .pointer (some ⟨b4, 0, none⟩), .pointer (some ⟨b5, 0, none⟩)]] 147 (0, 0))
theorem Ctx.grown {w w' : World} {bm b2 b3 b4 b5 : Nat} {k mst n : Nat} {va vn : Value} {D : DataW Unit} (h : Ctx w bm b2 b3 b4 b5 k mst va vn) (hm : w.ownsMap Tryd.prog 149 (plainElem Tryd.prog 21) bm n D) (hg : w.grownBy w' (some bm)) : Ctx w' bm b2 b3 b4 b5 k mst va vn := by
  obtain ⟨es, clock, hb, -⟩ := hm
  have hne : ∀ {c : Array Value} {t : TypeId} {r : Nat × Nat} {q : Nat}, w.heap[q]? = some (.cells c t r) → some q ≠ some bm := fun hq e => by
    cases e; rw [hq] at hb; cases hb
  exact ⟨by rw [hg.block b2 (lt_of_block h.box2) (hne h.box2)]; exact h.box2, by rw [hg.block b3 (lt_of_block h.box3) (hne h.box3)]; exact h.box3,
    by rw [hg.block b4 (lt_of_block h.box4) (hne h.box4)]; exact h.box4, by rw [hg.block b5 (lt_of_block h.box5) (hne h.box5)]; exact h.box5⟩

theorem info32 : (Tryd.prog.info? 21).map (fun i => (i.zero, i.size, i.bytes)) = some (some (.int .i32 0), 1, 4) := by kernel_rfl
theorem infoS : (Tryd.prog.info? 149).map (·.size) = some 27 := by kernel_rfl

/-- A cell of a key of which c columns have been written. -/
def kc (c0 : Nat) (row : List Nat) (c i : Nat) : Nat := if i = 0 then c0 else if i ≤ c then row.getD (i - 1) 0 else 0
theorem kc_end (c0 : Nat) (row : List Nat) (h : row.length ≤ 26) : ((List.range 27).map fun i => Value.int .i32 ((kc c0 row row.length i : Nat) : Int)) = (sgL (c0, row)).map (Value.int .i32) := by
  apply List.ext_getElem
  · simp [sgL]; omega
  · intro i h1 h2
    have hi : i < 27 := by simpa using h1
    simp only [List.getElem_map, List.getElem_range]
    congr 1
    unfold kc sgL
    cases i with
    | zero => rw [if_pos rfl]; rfl
    | succ i =>
      rw [if_neg (by omega), List.getElem_cons_succ]
      by_cases hr : i < row.length
      · rw [if_pos (by omega), List.getElem_append_left (by simpa using hr)]
        simp [List.getD, hr]
      · rw [if_neg (by omega), List.getElem_append_right (by simpa using hr)]
        simp
theorem row_cells {w : World} {b e n : Nat} {f : Nat → Value} (h : w.rowIs b e n f) : w.heap[b]? = some (.cells ((List.range n).map f).toArray e (0, 0)) := by
  obtain ⟨cur, hc, hs, hf⟩ := h
  rw [hc]
  congr 2
  apply Array.ext_getElem?
  intro i
  by_cases hi : i < n
  · rw [hf i hi]; simp [hi]
  · rw [Array.getElem?_eq_none (by omega)]; simp [hi]
theorem load_key {w : World} {b : Nat} {xs : List Int} (hl : xs.length = 27) (h : w.heap[b]? = some (.cells (xs.map (Value.int .i32)).toArray 149 (0, 0))) :
    (Instr.loadAt 149 (.pointer (some ⟨b, 0, none⟩))).run Tryd.prog w = .ok (valK xs) w := by
  have h1 := run_loadVar_row (P := Tryd.prog) w b 149 149 _ (0, 0) _ h underT rfl (by rw [infoS]; simp [hl])
  simp only [Instr.loadAt, Instr.sureAddr, Sem.run_bind, Sem.run_pure, Result.andThen_ok, h1]
  rfl

theorem cls_small (A : Au) (j : Nat) {s : Nat} (hs : s < A.n) : cls A j s ≤ A.n + 1 := by
  cases j with
  | zero => unfold cls; split <;> omega
  | succ j => have := cls_lt A j hs; have := cn_le A (j + 1); omega
theorem sgok {A : Au} {rows : List (List Nat)} {wd : Nat} (hR : RowsOk rows A.n wd) (hA : ∀ s, A.nx s = rows.getD s []) (hw : wd ≤ 26) (hn : A.n ≤ 1000000) (j : Nat) : SgOk (sig A (cls A j)) A.n wd where
  len := fun s hs => by unfold sig; rw [List.length_map, hA]; exact (hR.2 s hs).1
  fst := fun s hs => by have := cls_small A j hs; show cls A j s ≤ _; omega
  snd := fun s hs x hx => by
    obtain ⟨t, ht, rfl⟩ := List.mem_map.1 hx
    rw [hA] at ht
    obtain ⟨k, hk, rfl⟩ := List.getElem_of_mem ht
    have h1 := (hR.2 s hs).2 k (by rw [← (hR.2 s hs).1]; exact hk)
    rw [List.getD, List.getElem?_eq_getElem hk, Option.getD_some] at h1
    have := cls_small A j h1
    omega
  wd := hw

/-- The classes in the next finer numbering, of which so many have been written. -/
def fin (A : Au) (j s i : Nat) : Nat := if i < s then cls A (j + 1) i else 0
theorem fin_set (A : Au) (j n s x : Nat) (hx : x = cls A (j + 1) s) : (tw n (fin A j s)).set s (.int .i32 (x : Int)) = tw n (fin A j (s + 1)) := by
  rw [tw_set]
  refine tw_congr fun i _ => ?_
  unfold fin
  by_cases e : i = s
  · subst e; rw [if_pos rfl, if_pos (Nat.lt_succ_self i), hx]
  · have : (i < s + 1) = (i < s) := by apply propext; constructor <;> intro h <;> omega
    simp only [if_neg e, this]
theorem fin_all (A : Au) (j n : Nat) : tw n (fin A j n) = tw n (cls A (j + 1)) := tw_congr fun i hi => if_pos hi

/-- What the recursive function answers from step j on. -/
def Con (A : Au) (rows : List (List Nat)) (mst j : Nat) : Prop :=
  ∀ (w : World) (v : Value) (B Br bm b2 b3 b4 b5 k m : Nat) (va : Value) (ab : Option Addr) (cb : Nat) (D : DataW Unit), Ctx w bm b2 b3 b4 b5 k mst va (.slice ab A.n cb) → IntRows w Br (.slice ab A.n cb) (rows.map ofN) → Br ≤ bm →
      w.ownsMap Tryd.prog 149 (plainElem Tryd.prog 21) bm m D → Lst w B 21 v (tw A.n (cls A j)) → B ≤ w.heap.size →
      Calls Tryd.prog 104 #[v, .int .i64 (cn A j), .pointer (some ⟨b2, 0, none⟩), .pointer (some ⟨b3, 0, none⟩), .pointer (some ⟨b4, 0, none⟩), .pointer (some ⟨b5, 0, none⟩)] w fun e w' =>
        ∃ (av : Option Addr) (nv cv : Nat), e = .returned (.tuple #[.slice av nv cv, .bool (decide (TidyAuto.most A ≤ mst))]) ∧ w.grownBy w' (some bm) ∧ (TidyAuto.most A ≤ mst → Lst w' B 21 (.slice av nv cv) (tw A.n (cls A (TidyAuto.stop A + 1))))

theorem grown_alloc {w w' : World} {row : Option Nat} (h : w.grownBy w' row) (o : Obj) : w.grownBy (w'.alloc o) row := grown_below h ((Below.refl _ _).alloc (Nat.le_refl _) _)

/-- A new key: its zero, and with the first number in it. -/
def kz : Array Value := ⟨List.replicate 27 (Value.int .i32 0)⟩
def ks (y : Nat) : Array Value := ⟨Value.int .i32 (y : Int) :: List.replicate 26 (Value.int .i32 0)⟩
theorem build_eq (y : Nat) (w : World) : (Instr.build 149 #[(0, .int .i32 (y : Int))]).run Tryd.prog w = .ok (.agg (ks y)) w := by kernel_rfl
theorem alloc_eq (w : World) : (Instr.alloc 149 true (.tuple #[])).run Tryd.prog w = .ok (.pointer (some ⟨w.heap.size, 0, none⟩)) (w.alloc (.cells kz 149)) := by kernel_rfl
theorem wpList_build27 {w : World} {ops : Array Oper} {rest : List Oper} {op : Oper} {a : Act} {Q : Exit → Act → World → Prop} (hgd : op.guard = none) (x : Operand) (ho : op.op = .build 149 #[(0, x)]) (y : Nat) (hx : a.eval x = .int .i32 (y : Int))
    (h : wpList Tryd.prog ops Q rest (a.put op.dst (.agg (ks y))) w) : wpList Tryd.prog ops Q (op :: rest) a w :=
  wpList_plain hgd fun K hK => by
    unfold Oper.wp execOp
    simp only [ho, List.map_toArray, List.map_cons, List.map_nil, hx, Sem.run_bind, build_eq, Result.andThen_ok, Sem.run_pure]
    exact hK _ _ h
theorem wpList_alloc27 {w : World} {ops : Array Oper} {rest : List Oper} {op : Oper} {a : Act} {Q : Exit → Act → World → Prop} (hgd : op.guard = none) (ho : op.op = .alloc 149)
    (h : wpList Tryd.prog ops Q rest (a.put op.dst (.pointer (some ⟨w.heap.size, 0, none⟩))) (w.alloc (.cells kz 149))) : wpList Tryd.prog ops Q (op :: rest) a w :=
  wpList_plain hgd fun K hK => by
    unfold Oper.wp execOp
    simp only [ho, Sem.run_bind, alloc_eq, Result.andThen_ok, Sem.run_pure]
    exact hK _ _ h
theorem wpList_store27 {w : World} {ops : Array Oper} {rest : List Oper} {op : Oper} {a : Act} {Q : Exit → Act → World → Prop} (hgd : op.guard = none) (x v : Operand) (ho : op.op = .store 149 x v) (y : Nat) (hx : a.eval x = .pointer (some ⟨w.heap.size, 0, none⟩)) (hv : a.eval v = .agg (ks y))
    (h : wpList Tryd.prog ops Q rest (a.put op.dst undef) (w.alloc (.cells (ks y) 149))) : wpList Tryd.prog ops Q (op :: rest) a (w.alloc (.cells kz 149)) :=
  wpList_plain hgd fun K hK => by
    have h1 := run_storeAt_new (P := Tryd.prog) w 149 kz (ks y) (by rw [infoS]; rfl) rfl (by simp [ks, Value.oneCell'])
    unfold Oper.wp execOp
    simp only [ho, hx, hv, Sem.run_bind, h1, Result.andThen_ok, Sem.run_pure]
    exact hK _ _ h
theorem key_new (w : World) (y : Nat) (row : List Nat) : (w.alloc (.cells (ks y) 149)).rowIs w.heap.size 149 27 (fun i => .int .i32 ((kc y row 0 i : Nat) : Int)) := by
  refine ⟨_, heap_alloc_new _ _, rfl, fun i hi => ?_⟩
  unfold ks
  rw [List.getElem?_toArray]
  cases i with
  | zero => rfl
  | succ i =>
    rw [List.getElem?_cons_succ, List.getElem?_replicate, if_pos (by omega)]
    show some (Value.int .i32 0) = some (Value.int .i32 ((kc y row 0 (i + 1) : Nat) : Int))
    unfold kc
    rw [if_neg (by omega), if_neg (by omega)]; rfl

theorem below_none {w w' : World} (h : Below w.heap.size w w') : w.grownBy w' none := ⟨h.os, h.tape, h.output, h.size, fun k hk _ => h.block k hk⟩
theorem grown_setNew {w W : World} {row : Option Nat} (h : w.grownBy W row) {a : Addr} (ha : w.heap.size ≤ a.block) (u : Value) : w.grownBy (W.setCell a u) row :=
  ⟨h.os, h.tape, h.output, by simpa [World.setCell] using h.size, fun k hk hne => (Below.heap_setCell _ _ _ _ (by omega)).trans (h.block k hk hne)⟩
theorem kc_set (y : Nat) (row : List Nat) (c : Nat) (i : Nat) : kc y row (c + 1) i = if i = c + 1 then row.getD c 0 else kc y row c i := by
  unfold kc
  by_cases e : i = c + 1
  · subst e; rw [if_neg (by omega), if_pos (Nat.le_refl _), if_pos rfl]; rfl
  · rw [if_neg e]
    by_cases h0 : i = 0
    · rw [if_pos h0, if_pos h0]
    · rw [if_neg h0, if_neg h0]
      by_cases h : i ≤ c
      · rw [if_pos h, if_pos (by omega)]
      · rw [if_neg h, if_neg (by omega)]
theorem wpList_loadKey {w : World} {ops : Array Oper} {rest : List Oper} {op : Oper} {a : Act} {Q : Exit → Act → World → Prop} (hgd : op.guard = none) (x : Operand) (ho : op.op = .load 149 x) (Z : Nat) (hx : a.eval x = .pointer (some ⟨Z, 0, none⟩)) (kk : Value)
    (hk : (Instr.loadAt 149 (.pointer (some ⟨Z, 0, none⟩))).run Tryd.prog w = .ok kk w) (h : wpList Tryd.prog ops Q rest (a.put op.dst kk) w) : wpList Tryd.prog ops Q (op :: rest) a w :=
  wpList_plain hgd fun K hK => by
    unfold Oper.wp execOp
    simp only [ho, hx, Sem.run_bind, hk, Result.andThen_ok, Sem.run_pure]
    exact hK _ _ h
theorem look_eq {w : World} {b n : Nat} {D : DataW Unit} {key : Value} {kl : Lit} (hown : w.ownsMap Tryd.prog 149 (plainElem Tryd.prog 21) b n D) (hkey : keyOf Tryd.prog 149 key = some kl) (c0 : Int) (bb : Bool)
    (hat : D.atKey kl (.lit (.int .i32 0)) = .lit (.int .i32 c0)) (hhas : Maps.has D kl = bb) :
    (Instr.lookup 146 (.map (some b)) key true).run Tryd.prog w = .ok (.tuple #[.int .i32 c0, .bool bb]) w := by
  obtain ⟨v, ps, hrun, hv⟩ := hown.look_ok law Tryd.underlying146 (zero32 w) (plainElem_int underE (by decide)) hkey
  obtain ⟨c, rfl, hc, hwc⟩ := plainElem_int_inv underE hv
  rw [hat] at hc
  have h1 := congrArg Prod.fst hc
  injection h1 with h1
  injection h1 with _ h1
  rw [hrun, hhas, h1]

set_option maxRecDepth 100000 in
set_option maxHeartbeats 8000000 in
theorem step (A : Au) (rows : List (List Nat)) (wd : Nat) (hR : RowsOk rows A.n wd) (hA : ∀ s, A.nx s = rows.getD s []) (hw : wd ≤ 26) (hn : A.n ≤ 1000000) (hn1 : 1 ≤ A.n) (mst : Nat) (hmst : mst ≤ 1000000)
    (j : Nat) (hj : j ≤ TidyAuto.stop A) (hIH : j < TidyAuto.stop A → Con A rows mst (j + 1)) : Con A rows mst j := by
  intro w v B Br bm b2 b3 b4 b5 k m va ab cb D hctx hnx hBr hmap hcls hB
  have HIH := Lib.hid hIH
  have HSG := Lib.hid (sgok hR hA hw hn j)
  have HMD := Lib.hid (fun s hs => md_ok HSG.out s hs)
  have HBS := Lib.hid hB
  obtain ⟨n, hnn⟩ : ∃ n, n = A.n := ⟨_, rfl⟩
  obtain ⟨x, hx⟩ : ∃ x, x = cn A j := ⟨_, rfl⟩
  have HX := Lib.hid hx
  have hx8 : x ≤ 1000000 := by rw [hx]; exact Nat.le_trans (cn_le A j) hn
  have HNN := Lib.hid hnn
  have HRW := Lib.hid hR
  have HAA := Lib.hid hA
  rw [← hnn] at hctx hnx hcls hn HSG HMD hn1 HRW
  rw [← hx]
  have HCTX := Lib.hid hctx
  have HNX := Lib.hid hnx
  have HMAP := Lib.hid hmap
  have HCLS := Lib.hid hcls
  have c2 := cells_get hctx.box2 0
  simp at c2
  have l2 := lt_of_block hctx.box2
  obtain ⟨ac, nc, cc, rfl, HNC⟩ := hcls.shape'
  have hnc : nc = n := by rw [HNC.out, tw_length]
  subst hnc
  obtain ⟨gc, rfl, hgc⟩ := hcls.addr (by rw [tw_length]; omega)
  have HVM := Lib.hid (lst_not_map hcls hmap)
  have hmk := run_make_row' (P := Tryd.prog) 122 21 (.int .i32 0) 4 Tryd.underlying122 info32 rfl .i64 .i64 nc (by omega) (by omega)
  clear hctx hnx hmap hcls hnn hx HNC hR hA hIH hB
  obtain ⟨w1, hclr, hown1, hg1⟩ := run_clear Tryd.underlying146 HMAP.out
  have HM1 := Lib.hid hown1
  have HG1 := Lib.hid hg1
  have HC1 := Lib.hid (HCTX.out.grown HMAP.out hg1)
  have c21 := cells_get HC1.out.box2 0
  have c31 := cells_get HC1.out.box3 3
  have l21 := lt_of_block HC1.out.box2
  have l31 := lt_of_block HC1.out.box3
  simp at c21 c31
  obtain ⟨N, hN⟩ : ∃ N, N = w1.heap.size := ⟨_, rfl⟩
  have HWN := Lib.hid (show w.heap.size ≤ N by rw [hN]; exact hg1.size)
  have HBN := Lib.hid (show bm < N by rw [hN]; exact hown1.lt)
  have HL0 := Lib.hid (show Lst (w1.alloc (.cells (madeCells #[Value.int .i32 0] nc) 21)) B 21 (.slice (some ⟨N, 0, none⟩) nc nc) (tw nc (fin A j 0)) by
    have h1 := Lst.made w1 B 21 (.int .i32 0) nc (by have := HBS.out; have := HWN.out; omega) (by unfold maxLen; omega)
    rw [tw_rep, ← hN, tw_congr (S := fin A j 0) (fun i _ => (if_neg (Nat.not_lt_zero i)).symm)] at h1
    exact h1)
  have HM0 := Lib.hid (show (w1.alloc (.cells (madeCells #[Value.int .i32 0] nc) 21)).ownsMap Tryd.prog 149 (plainElem Tryd.prog 21) bm 0 (MD (sig A (cls A j)) 0) from hown1.alloc _)
  have HG0 := Lib.hid (show w.grownBy (w1.alloc (.cells (madeCells #[Value.int .i32 0] nc) 21)) (some bm) from grown_alloc hg1 _)
  clear hown1 hg1
  go_enter Tryd.func104, Tryd.ntmps104
  go_wp2_with fail
  rw [← hN]
  clear hN c2 c21 c31 l21 l31 hclr hmk l2
  go_loopw [25] (fun s25 wr => ∃ s, s ≤ nc ∧ s25 = .int .i64 s ∧ wr.ownsMap Tryd.prog 149 (plainElem Tryd.prog 21) bm s (MD (sig A (cls A j)) s) ∧ Lst wr B 21 (.slice (some ⟨N, 0, none⟩) nc nc) (tw nc (fin A j s)) ∧ w.grownBy wr (some bm)) (fun s25 _ => 1000010 - (intOf s25).toNat)
  case atStart => exact ⟨0, Nat.zero_le _, rfl, HM0.out, HL0.out, HG0.out⟩
  case round =>
    obtain ⟨s, hs, rfl, hown, hlst, hgr⟩ := hrel
    obtain ⟨W0, hW0⟩ : ∃ W0 : World, W0 = wr := ⟨_, rfl⟩
    subst hW0
    have HM := Lib.hid hown
    have HL := Lib.hid hlst
    have HG := Lib.hid hgr
    have HC := Lib.hid (HCTX.out.grown HMAP.out hgr)
    have HS := Lib.hid (HMD.out s hs)
    clear hown hlst hgr HM0 HL0 HG0
    by_cases hlt : s < nc
    · have HCL := Lib.hid (HCLS.out.grown HG.out (fun k e => by cases e; exact HVM.out))
      obtain ⟨V, ⟨a6, b6, o6, cp6, e6, -, haa6, hca6⟩, hrows⟩ := rows_grown HNX.out HG.out hBr
      have hrl : (rows.map ofN).length = nc := by rw [List.length_map, HRW.out.1]
      rw [hrl] at e6 haa6 hca6 hrows
      have e6' : ab = a6 := by injection e6
      subst e6'
      obtain ⟨rfl, -⟩ := haa6 (by omega)
      have n4 := hca6 s hlt
      have hrw := hrows s hlt
      have er : (rows.map ofN).getD s [] = ofN (rows.getD s []) := by
        have : s < rows.length := by rw [HRW.out.1]; exact hlt
        simp [List.getD, this]
      have hrlen := (HRW.out.2 s hlt).1
      rw [er] at hrw
      obtain ⟨row, hrow⟩ : ∃ row, row = rows.getD s [] := ⟨_, rfl⟩
      rw [← hrow] at hrw hrlen
      have HROW := Lib.hid hrow
      have HRLT := Lib.hid (show ∀ q, q < wd → row.getD q 0 < nc from fun q hq => by rw [hrow]; exact (HRW.out.2 s hlt).2 q hq)
      obtain ⟨a8, b8, o8, cp8, e8, -, haa8, hca8⟩ := hrw
      rw [ofN_length, hrlen] at e8 haa8 hca8
      rw [e8] at n4
      have HR8 := Lib.hid (And.intro haa8 hca8)
      have cC := HCL.out.cellOf (i := s) (by rw [tw_length]; exact hlt)
      rw [tw_get] at cC
      have lC := World.block_lt_of_cell? _ _ cC
      obtain ⟨Z, hZ⟩ : ∃ Z, Z = W0.heap.size := ⟨_, rfl⟩
      obtain ⟨y, hy⟩ : ∃ y, y = cls A j s := ⟨_, rfl⟩
      rw [← hy] at cC
      have HY := Lib.hid hy
      have HZ := Lib.hid hZ
      clear hca6 haa6 e6 hrows e8 hca8 haa8 er hrl hrow hy
      go_upto_region 6 with fail
      go_cut [13] (fun v13 wx => v13 = .pointer (some ⟨Z, 0, none⟩) ∧ wx.rowIs Z 149 27 (fun i => .int .i32 ((kc y (row.map (cls A j)) 0 i : Nat) : Int)) ∧ Below Z W0 wx)
      case first =>
        go_wp2_with (first | refine wpList_build27 rfl _ rfl y rfl ?_ | refine wpList_alloc27 rfl rfl ?_ | refine wpList_store27 rfl _ _ rfl y rfl rfl ?_)
        go_meet
        exact ⟨by rw [hZ], by rw [hZ]; exact key_new _ _ _, (Below.refl _ _).alloc (by omega) _⟩
      case rest =>
        obtain ⟨rfl, hk0, hbz⟩ := hcut
        have HK0 := Lib.hid hk0
        have HBZ := Lib.hid hbz
        clear cC n4 lC hk0 hbz hZ
        go_wp2_with fail
        go_loopw [37] (fun s37 wr' => ∃ c, c ≤ wd ∧ s37 = .int .i64 c ∧ wr'.rowIs Z 149 27 (fun i => .int .i32 ((kc y (row.map (cls A j)) c i : Nat) : Int)) ∧ Below Z W0 wr') (fun s37 _ => 27 - (intOf s37).toNat)
        case atStart => exact ⟨0, Nat.zero_le _, rfl, HK0.out, HBZ.out⟩
        case round =>
          obtain ⟨c, hc, rfl, hkr, hbel⟩ := hrel
          have HKR := Lib.hid hkr
          have HBL := Lib.hid hbel
          have HBW := Lib.hid (show Below W0.heap.size W0 wr from by rw [← HZ.out]; exact hbel)
          have hZl := hkr.lt
          clear hkr hbel HK0 HBZ
          by_cases hcl : c < wd
          · have hb8 := HR8.out.1 (by omega)
            obtain ⟨rfl, hb8⟩ := hb8
            have hb8Z : b8 < Z := by have := HM.out.lt; have := HZ.out; omega
            have hrx := HRLT.out c hcl
            have n5 := (HBL.out.cell (p := ⟨b8, o8 + c, none⟩) hb8Z).trans (HR8.out.2 c hcl)
            rw [ofN_get _ (by rw [hrlen]; exact hcl)] at n5
            obtain ⟨t, ht⟩ : ∃ t, t = row.getD c 0 := ⟨_, rfl⟩
            rw [← ht] at n5 hrx
            have hgcZ : gc < Z := by have := HG.out.size; have := HZ.out; omega
            have cT := (HBL.out.cell (p := ⟨gc, t, none⟩) hgcZ).trans (HCL.out.cellOf (i := t) (by rw [tw_length]; exact hrx))
            rw [tw_get] at cT
            obtain ⟨ct, hct⟩ : ∃ ct, ct = cls A j t := ⟨_, rfl⟩
            rw [← hct] at cT
            have cK := HKR.out.cell (show c + 1 < 27 by omega)
            obtain ⟨ok, hok⟩ : ∃ ok, ok = kc y (row.map (cls A j)) c (c + 1) := ⟨_, rfl⟩
            rw [← hok] at cK
            have fK := HKR.out.frozen (c + 1)
            have HCT := Lib.hid (show (row.map (cls A j)).getD c 0 = ct by
              have : c < row.length := by rw [hrlen]; exact hcl
              rw [hct, ht]; simp [List.getD, this])
            clear hct ht hok hb8 hb8Z
            go_wp2_with fail
            go_roundw
            case rel =>
              refine ⟨c + 1, hcl, by go_num, (HKR.out.set (c + 1) _).congr fun i hi => ?_, HBL.out.setCell (Nat.le_refl _) _⟩
              rw [kc_set, HCT.out]
              by_cases e : i = c + 1
              · simp [e]
              · simp [e]
            case measure => simp [intOf]; omega
          · obtain rfl : wd = c := by omega
            have hsg : sig A (cls A j) s = (y, row.map (cls A j)) := by unfold sig; rw [HAA.out, ← HROW.out, ← HY.out]
            have hml : (row.map (cls A j)).length = wd := by rw [List.length_map]; exact hrlen
            have hkl : (sgL (sig A (cls A j) s)).length = 27 := sgL_length (by rw [HSG.out.len s hlt]; exact hw)
            have HKEY : wr.heap[Z]? = some (.cells ((sgL (sig A (cls A j) s)).map (Value.int .i32)).toArray 149 (0, 0)) := by
              have h1 := row_cells HKR.out
              rw [hsg, ← kc_end y (row.map (cls A j)) (by rw [hml]; exact hw), hml]
              exact h1
            have hld := load_key hkl HKEY
            have HKO := Lib.hid (HSG.out.key hlt)
            have HMW := Lib.hid (HM.out.kept (below_none HBW.out) (by simp))
            have HGW := Lib.hid (grown_below HG.out HBW.out)
            have HCW := Lib.hid (HCTX.out.grown HMAP.out HGW.out)
            have HLW := Lib.hid (HL.out.below HBW.out)
            have k2 := cells_get HCW.out.box2 0
            simp at k2
            have lk2 := lt_of_block HCW.out.box2
            have hnum : TidyMath.idx (sig A (cls A j)) (reps (sig A (cls A j)) s) s = cls A (j + 1) s := by
              rw [reps_num (sig A (cls A j)) hlt, HNN.out]; rfl
            obtain ⟨L, hL⟩ : ∃ L, L = (reps (sig A (cls A j)) s).length := ⟨_, rfl⟩
            have hLs : L ≤ s := by rw [hL]; exact reps_le _ _
            obtain ⟨kk, hkk⟩ : ∃ kk, kk = valK (sgL (sig A (cls A j) s)) := ⟨_, rfl⟩
            rw [← hkk] at hld HKO
            clear hsg hml hkl HKEY hkk
            by_cases hkn : TidyMath.idx (sig A (cls A j)) (reps (sig A (cls A j)) s) s < (reps (sig A (cls A j)) s).length
            · have hlook := look_eq HMW.out HKO.out ((TidyMath.idx (sig A (cls A j)) (reps (sig A (cls A j)) s) s : Nat) : Int) true (HS.out.at_ s hlt hkn _) (by rw [HS.out.has s hlt, decide_eq_true hkn])
              have HMD1 := Lib.hid (show MD (sig A (cls A j)) (s + 1) = MD (sig A (cls A j)) s by show (if _ then _ else _) = _; rw [if_pos hkn])
              rw [hnum] at hlook
              obtain ⟨q, hq⟩ : ∃ q, q = cls A (j + 1) s := ⟨_, rfl⟩
              rw [← hq] at hlook
              have HQ := Lib.hid hq
              have cF := HLW.out.cellOf (i := s) (by rw [tw_length]; exact hlt)
              rw [tw_get, show fin A j s s = 0 from if_neg (Nat.lt_irrefl s)] at cF
              have fF := HLW.out.free s
              have lF := World.block_lt_of_cell? _ _ cF
              have HLD := Lib.hid hld
              clear hnum hkn hL hq hld
              go_wp2_with (refine wpList_loadKey rfl _ rfl Z rfl kk HLD.out ?_)
              go_roundw
              case rel =>
                have h1 := HLW.out.set (i := s) (by rw [tw_length]; exact hlt) (.int .i32 (q : Nat))
                rw [fin_set A j nc s q HQ.out] at h1
                refine ⟨s + 1, hlt, by go_num, ?_, h1, grown_setNew HGW.out HWN.out _⟩
                rw [HMD1.out]
                exact (HMW.out.setCell (by show bm ≠ N; have := HBN.out; omega) _).mono (Nat.le_succ s)
              case measure => simp [intOf]; omega
            · have hno : Maps.has (MD (sig A (cls A j)) s) (litK (sgL (sig A (cls A j) s))) = false := by rw [HS.out.has s hlt, decide_eq_false hkn]
              have hlook := look_eq HMW.out HKO.out 0 false (atKey_of_not_has hno _) hno
              have HMD1 := Lib.hid (show MD (sig A (cls A j)) (s + 1) = (MD (sig A (cls A j)) s).put (litK (sgL (sig A (cls A j) s))) (.lit (.int .i32 (L : Nat))) by show (if _ then _ else _) = _; rw [if_neg hkn, hL])
              have hlen := fun ty => HMW.out.len Tryd.underlying146 ty
              rw [HS.out.size, ← hL] at hlen
              have HQ := Lib.hid (show L = cls A (j + 1) s by rw [← hnum, hL]; have := idx_le (sig A (cls A j)) (reps (sig A (cls A j)) s) s; omega)
              obtain ⟨w2, hup, hown2, hg2⟩ := HMW.out.update law Tryd.underlying146 (by unfold maxLen; omega) HKO.out (plainElem_int (a := (L : Int)) underE (by
                have h1 : IntKind.i32.min = -2147483648 := by decide
                have h2 : IntKind.i32.max = 2147483647 := by decide
                simp only [Lit.wf, h1, h2, Bool.and_eq_true, decide_eq_true_eq]
                omega))
              have HO2 := Lib.hid hown2
              have HG2 := Lib.hid (HGW.out.trans hg2)
              have HL2 := Lib.hid (HLW.out.grown hg2 (fun k e => by cases e; exact lst_not_map HLW.out HMW.out))
              have cF := HL2.out.cellOf (i := s) (by rw [tw_length]; exact hlt)
              rw [tw_get, show fin A j s s = 0 from if_neg (Nat.lt_irrefl s)] at cF
              have fF := HL2.out.free s
              have lF := World.block_lt_of_cell? _ _ cF
              have HLD := Lib.hid hld
              clear hnum hkn hL hown2 hg2 hno hld
              go_wp2_with (refine wpList_loadKey rfl _ rfl Z rfl kk HLD.out ?_)
              go_roundw
              case rel =>
                have h1 := HL2.out.set (i := s) (by rw [tw_length]; exact hlt) (.int .i32 (L : Nat))
                rw [fin_set A j nc s L HQ.out] at h1
                refine ⟨s + 1, hlt, by go_num, ?_, h1, grown_setNew HG2.out HWN.out _⟩
                rw [HMD1.out]
                exact HO2.out.setCell (by show bm ≠ N; have := HBN.out; omega) _
              case measure => simp [intOf]; omega
    · obtain rfl : nc = s := by omega
      obtain ⟨C, hC⟩ : ∃ C, C = cn A (j + 1) := ⟨_, rfl⟩
      have hCr : (reps (sig A (cls A j)) nc).length = C := by rw [hC, HNN.out]; rfl
      have hlen := fun ty => HM.out.len Tryd.underlying146 ty
      have hlenD := fun ty => HM.out.drew.len Tryd.underlying146 ty
      rw [HS.out.size, hCr] at hlen hlenD
      have k2 := cells_get HC.out.box2 0
      have k4 := cells_get HC.out.box4 0
      have k5 := cells_get HC.out.box5 0
      simp at k2 k4 k5
      have lk2 := lt_of_block HC.out.box2
      have lk4 := lt_of_block HC.out.box4
      have lk5 := lt_of_block HC.out.box5
      have hC8 : C ≤ 1000000 := by rw [hC]; have := cn_le A (j + 1); have := HNN.out; omega
      have HLE := Lib.hid (show Lst W0 B 21 (.slice (some ⟨N, 0, none⟩) nc nc) (tw nc (cls A (j + 1))) by rw [← fin_all]; exact HL.out)
      have HCC := Lib.hid hC
      have HGD := Lib.hid (grown_below HG.out ((Below.refl _ _).drew))
      have HMO := Lib.hid (show cn A (j + 1) ≤ TidyAuto.most A from cn_mono' A (by omega))
      by_cases e1 : C = x
      · have hjs : j = TidyAuto.stop A := by
          rcases Nat.lt_or_ge j (TidyAuto.stop A) with h | h
          · exact absurd (show cn A (j + 1) = cn A j by rw [← HCC.out, e1, HX.out]) ((stop_stops A).2 j h)
          · omega
        have HJ := Lib.hid hjs
        have HMS := Lib.hid (show TidyAuto.most A = C by rw [HCC.out, hjs]; rfl)
        subst e1
        clear hCr hC hjs
        go_upto_region 19 with fail
        go_region_with fail
        all_goals
          go_wp2_with fail
          refine bodyPost_ret (v := .tuple #[.slice (some ⟨N, 0, none⟩) nc nc, .bool (decide ((C : Int) ≤ (mst : Int)))]) (by simp [results, Tryd.results104, go_sem]) rfl ⟨some ⟨N, 0, none⟩, nc, nc, by rw [HMS.out]; simp, HGD.out, fun _ => by rw [← HJ.out, ← HNN.out]; exact HLE.out⟩
      · have HE1 := Lib.hid e1
        by_cases e2 : mst < C
        · have HMS := Lib.hid (show decide (TidyAuto.most A ≤ mst) = decide ((C : Int) ≤ (mst : Int)) by
            have h1 := HMO.out
            have h2 := HCC.out
            rw [decide_eq_false (by omega), decide_eq_false (by omega)])
          have HMN := Lib.hid (show ¬ TidyAuto.most A ≤ mst by have h1 := HMO.out; have h2 := HCC.out; omega)
          have d1 : ((C : Int) == (x : Int)) = false := by simp; omega
          have d2 : decide ((mst : Int) < (C : Int)) = true := by simp; omega
          clear hCr hC
          go_upto_region 19 with fail
          go_region_with fail
          all_goals
            go_wp2_with fail
            refine bodyPost_ret (v := .tuple #[.slice (some ⟨N, 0, none⟩) nc nc, .bool (decide ((C : Int) ≤ (mst : Int)))]) (by simp [results, Tryd.results104, go_sem]) rfl ⟨some ⟨N, 0, none⟩, nc, nc, by rw [HMS.out], HGD.out, fun h => absurd h HMN.out⟩
        · have d1 : ((C : Int) == (x : Int)) = false := by simp; omega
          have d2 : decide ((mst : Int) < (C : Int)) = false := by simp; omega
          have HJ := Lib.hid (show j < TidyAuto.stop A by
            rcases Nat.lt_or_ge j (TidyAuto.stop A) with h | h
            · exact h
            · have h3 : j = TidyAuto.stop A := by omega
              exact absurd (show C = x by rw [HCC.out, HX.out, h3]; exact (stop_stops A).1) HE1.out)
          have HREC := Lib.hid (HIH.out HJ.out W0 (.slice (some ⟨N, 0, none⟩) nc nc) B Br bm b2 b3 b4 b5 k nc va ab cb (MD (sig A (cls A j)) nc) (by rw [← HNN.out]; exact HC.out) (by rw [← HNN.out]; exact rows_grown HNX.out HG.out hBr) hBr HM.out (by rw [← HNN.out]; exact HLE.out) (by have := HBS.out; have := HG.out.size; omega))
          rw [← HCC.out] at HREC
          clear hCr hC
          go_wp2_with (go_at_call 104; refine HREC.out.mono ?_; rintro e w3 ⟨av3, nv3, cv3, rfl, hg3, hl3⟩; have HG3 := Lib.hid (HG.out.trans hg3); have HL3 := Lib.hid hl3; clear hg3 hl3)
          refine bodyPost_ret (v := .tuple #[.slice av3 nv3 cv3, .bool (decide (TidyAuto.most A ≤ mst))]) (by simp [results, Tryd.results104, go_sem]) rfl ⟨av3, nv3, cv3, rfl, HG3.out, HL3.out⟩
theorem refine (A : Au) (rows : List (List Nat)) (wd : Nat) (hR : RowsOk rows A.n wd) (hA : ∀ s, A.nx s = rows.getD s []) (hw : wd ≤ 26) (hn : A.n ≤ 1000000) (hn1 : 1 ≤ A.n) (mst : Nat) (hmst : mst ≤ 1000000) :
    ∀ d j, j + d = TidyAuto.stop A → Con A rows mst j
  | 0, j, h => step A rows wd hR hA hw hn hn1 mst hmst j (by omega) (fun h' => by omega)
  | d + 1, j, h => step A rows wd hR hA hw hn hn1 mst hmst j (by omega) (fun _ => refine A rows wd hR hA hw hn hn1 mst hmst d (j + 1) (by omega))
end Go.Proofs.YtgaipjofhkijbaaDoor.ImplClasses
