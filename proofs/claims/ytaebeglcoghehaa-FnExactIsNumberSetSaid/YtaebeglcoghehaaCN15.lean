
/- What the program answers that asks for the first list of columns for which something holds: whether two relations are equal, whether one is empty, whether one is contained.
   Conditions: the relations are read as XMem's text says. -/
import Derived.Test.YtaebeglcoghehaaCN14
import Derived.Test.YtaebeglcoghehaaRows
import Derived.Test.YtaebeglcoghehaaCN2
import Derived.WalkKit
import Derived.ProofKit
import Derived.Lib.Hide
import Derived.Maps.Own
import Derived.Maps.OwnOps
import Derived.Maps.OwnSet
import Derived.Maps.Views
import Derived.DeepKeys5
import Derived.Test.YtaebeglcoghehaaCN5
import Derived.Deep.RegionWith
import Derived.Maps.AppendAt
namespace Go.Proofs.Ytaebeglcoghehaa.EqI
set_option linter.unusedVariables false
set_option linter.unusedSimpArgs false
set_option linter.ambiguousOpen false
set_option maxRecDepth 100000
open Go.RowKit Mem Copy Rel Valid Heap Columns Bld ToL TidyMath TidyClass TidyAuto TidyRight SpecFiner SpecRight First FirstTidy FirstI FirstW Alike

def ne2 (a b : Bool) : Bool := a != b
def lf2 (a b : Bool) : Bool := a && !b
noncomputable def apartB (g : Bool → Bool → Bool) (r s : R) : Bool := (firstPP g (toL r) (toL s)).isSome
/-- Whether two relations are equal, if they can be asked about. -/
noncomputable def eqV (r s : R) : Bool := decide (alikeC r s = 0) && !apartB ne2 r s

theorem okL' {r : R} (h : okB r = true) : (relOf (toL r) = r ∧ (toL r).Ok) ∧ (toL r).acc.length ≤ 150 := by
  unfold okB at h
  rw [Bool.and_eq_true] at h
  exact ⟨relOf_toL h.2, by have := of_decide_eq_true h.1; show r.accept.length ≤ 150; omega⟩
theorem Ans.mono {g : Bool → Bool → Bool} {l m : L} {w W w' : World} {e : Ending} (h : Ans g l m W e w') (hb : Below w.heap.size w W) : Ans g l m w e w' := by
  rcases h with ⟨vc, c, h1, h2, h3, h4, h5⟩ | ⟨h1, h2, h3⟩
  · exact .inl ⟨vc, c, h1, h2, h3, h4.mono hb.size, hb.trans (h5.mono hb.size)⟩
  · exact .inr ⟨h1, h2, hb.trans (h3.mono hb.size)⟩

end Go.Proofs.Ytaebeglcoghehaa.EqI
/- What the program answers that is asked whether a relation lies in another.
   Conditions: the relations are read as XMem's text says. -/
namespace Go.Proofs.Ytaebeglcoghehaa.ContI
set_option linter.unusedVariables false
set_option linter.unusedSimpArgs false
set_option linter.ambiguousOpen false
set_option maxRecDepth 100000
open Go.RowKit Mem Copy Rel Valid Heap Columns Bld ToL TidyMath TidyClass TidyAuto TidyRight SpecFiner SpecRight First FirstTidy FirstI FirstW Alike EqI

/-- Whether a relation lies in another, if they can be asked about. -/
noncomputable def liesV (r s : R) : Bool := decide (alikeC r s = 0) && !apartB lf2 r s

set_option maxHeartbeats 1000000 in
theorem left1 (a b : Bool) (W : World) : Calls Try.prog 85 #[.bool a, .bool b] W fun e w' => e = .returned (.bool (lf2 a b)) ∧ W = w' := by
  cases a <;> cases b
  all_goals
    go_enter Try.func85, Try.ntmps85
    go_wp2
    go_ret
    exact ⟨rfl, rfl⟩
/-- What is asked of it where only the truth value is wanted. -/
theorem leftI (r s : R) (h0 : alikeC r s = 0) (v u : Value) (w : World) (B : Nat) (h : RelAt w B v r) (h' : RelAt w B u s) (hB : B ≤ w.heap.size) :
    Calls Try.prog 84 #[v, u, .func (.func 85) #[] #[]] w fun e w' => ∃ a n c, e = .returned (.tuple #[.slice a n c, .bool (apartB lf2 r s)]) ∧ Below w.heap.size w w' := by
  obtain ⟨h1, h2, h3⟩ := alike_of h0
  have e1 := okL' h1
  have e2 := okL' h2
  refine (FirstW.firstWith lf2 (toL r) (toL s) e1.1.2 e2.1.2 (by show r.tapes.toNat = s.tapes.toNat; rw [h3]) e1.2 e2.2 v u 85 (fun _ _ => rfl) left1 w B (by rw [e1.1.1]; exact h) (by rw [e2.1.1]; exact h') hB).mono fun e w' hans => ?_
  rcases hans with ⟨vc, c, h1, -, h3, h4, h5⟩ | ⟨h1, h2, h3⟩
  · obtain ⟨a5, n5, c5, rfl, -⟩ := h4.shape'
    exact ⟨a5, n5, c5, by rw [h3]; unfold apartB; rw [h1]; rfl, h5⟩
  · exact ⟨none, 0, 0, by rw [h2]; unfold apartB; rw [h1]; rfl, h3⟩

set_option maxHeartbeats 8000000 in
theorem containedI (v u : Value) (r s : R) (w : World) (B : Nat) (h : RelAt w B v r) (h' : RelAt w B u s) (hB : B ≤ w.heap.size) :
    Calls Try.prog 39 #[v, u] w fun e w' => e = .returned (.tuple #[.bool (liesV r s), .int .i64 (alikeC r s)]) ∧ Below w.heap.size w w' := by
  have HAP := Lib.hid (fun (h0 : alikeC r s = 0) W (hb : Below w.heap.size w W) => leftI r s h0 v u W W.heap.size ((h.below hb hB).mono (Nat.le_trans hB hb.size)) ((h'.below hb hB).mono (Nat.le_trans hB hb.size)) (Nat.le_refl _))
  have HAL := Lib.hid (fun W (hb : Below w.heap.size w W) => alikeI v u r s W W.heap.size ((h.below hb hB).mono (Nat.le_trans hB hb.size)) ((h'.below hb hB).mono (Nat.le_trans hB hb.size)) (Nat.le_refl _))
  have HV0 := Lib.hid (show alikeC r s ≠ 0 → liesV r s = false from fun h0 => by unfold liesV; rw [decide_eq_false h0]; rfl)
  have HV9 := Lib.hid (show alikeC r s = 0 → liesV r s = !apartB lf2 r s from fun h0 => by unfold liesV; rw [decide_eq_true h0]; rfl)
  obtain ⟨V, hV⟩ : ∃ x, x = liesV r s := ⟨_, rfl⟩
  obtain ⟨AP, hAP⟩ : ∃ x, x = apartB lf2 r s := ⟨_, rfl⟩
  obtain ⟨C, hC⟩ : ∃ x, x = alikeC r s := ⟨_, rfl⟩
  rw [← hV] at HV0 HV9
  rw [← hAP] at HAP HV9
  rw [← hC] at HAP HAL HV0 HV9
  rw [← hV, ← hC]
  clear hV hAP hC
  obtain ⟨va, vn, rfl, ha, hn⟩ := h
  obtain ⟨aa1, ba, oa, ca1, rfl, -, -, -⟩ := ha
  obtain ⟨-, ⟨ab1, bb, ob, cb1, rfl, -, -, -⟩, -⟩ := hn
  obtain ⟨va, vn, rfl, ha, hn⟩ := h'
  obtain ⟨aa2, ba, oa, ca2, rfl, -, -, -⟩ := ha
  obtain ⟨-, ⟨ab2, bb, ob, cb2, rfl, -, -, -⟩, -⟩ := hn
  obtain ⟨k1, hk⟩ : ∃ x, x = r.tapes := ⟨_, rfl⟩
  obtain ⟨st1, hst⟩ : ∃ x, x = r.start := ⟨_, rfl⟩
  obtain ⟨na1, hna⟩ : ∃ x, x = r.accept.length := ⟨_, rfl⟩
  obtain ⟨nb1, hnb⟩ : ∃ x, x = r.next.length := ⟨_, rfl⟩
  rw [← hk, ← hst, ← hna, ← hnb] at HAL HAP
  rw [← hk, ← hst, ← hna, ← hnb]
  clear hk hst hna hnb
  obtain ⟨k2, hk⟩ : ∃ x, x = s.tapes := ⟨_, rfl⟩
  obtain ⟨st2, hst⟩ : ∃ x, x = s.start := ⟨_, rfl⟩
  obtain ⟨na2, hna⟩ : ∃ x, x = s.accept.length := ⟨_, rfl⟩
  obtain ⟨nb2, hnb⟩ : ∃ x, x = s.next.length := ⟨_, rfl⟩
  rw [← hk, ← hst, ← hna, ← hnb] at HAL HAP
  rw [← hk, ← hst, ← hna, ← hnb]
  clear hk hst hna hnb
  have HK0 := Lib.hid (show K2 w #[.int .i64 k1, .int .i64 st1, .slice aa1 na1 ca1, .slice ab1 nb1 cb1] #[.int .i64 k2, .int .i64 st2, .slice aa2 na2 ca2, .slice ab2 nb2 cb2] ((w.alloc (.cells #[.int .i64 k1, .int .i64 st1, .slice aa1 na1 ca1, .slice ab1 nb1 cb1] 29)).alloc (.cells #[.int .i64 k2, .int .i64 st2, .slice aa2 na2 ca2, .slice ab2 nb2 cb2] 29)) from Below.refl _ _)
  have HC1 := Lib.hid (HAL.out _ (K2.base HK0.out))
  clear HAL hB
  go_enter Try.func39, Try.ntmps39
  go_wp2_with fail
  refine HC1.out.mono ?_
  rintro e w3 ⟨rfl, hb3⟩
  have HK3 := Lib.hid (show K2 w #[.int .i64 k1, .int .i64 st1, .slice aa1 na1 ca1, .slice ab1 nb1 cb1] #[.int .i64 k2, .int .i64 st2, .slice aa2 na2 ca2, .slice ab2 nb2 cb2] w3 from Below.trans HK0.out (hb3.mono (K2.size HK0.out)))
  have HW3 := Lib.hid (K2.base HK3.out)
  clear hb3 HC1 HK0
  by_cases h0 : C = 0
  · have HC4 := Lib.hid (HAP.out h0 w3 HW3.out)
    have HVV := Lib.hid (HV9.out h0)
    subst h0
    clear HAP HV0 HV9
    have hb1 := K2.box1 HK3.out
    have hb2 := K2.box2 HK3.out
    have x0 := cells_get hb1 0
    have x1 := cells_get hb1 1
    have x2 := cells_get hb1 2
    have x3 := cells_get hb1 3
    have y0 := cells_get hb2 0
    have y1 := cells_get hb2 1
    have y2 := cells_get hb2 2
    have y3 := cells_get hb2 3
    simp at x0 x1 x2 x3 y0 y1 y2 y3
    have hk4 := K2.size HK3.out
    clear hb1 hb2
    go_wp2_with fail
    refine HC4.out.mono ?_
    rintro e w5 ⟨a5, n5, c5, rfl, hb5⟩
    have HW5 := Lib.hid (HW3.out.trans (hb5.mono HW3.out.size))
    clear hb5
    go_wp2_with fail
    go_ret2
    exact ⟨by rw [HVV.out]; rfl, HW5.out⟩
  · obtain rfl := HV0.out h0
    clear HAP HV0 HV9
    have hcne : (C != 0) = true := by simpa using h0
    go_wp2_with fail
    go_ret2
    exact ⟨rfl, HW3.out⟩
end Go.Proofs.Ytaebeglcoghehaa.ContI
/- The keys by which the program tells classes of states: what they read as, what its map holds behind so many states, and a law for emptying a map.
   Conditions: stated at each theorem. -/
namespace Go.Proofs.Ytaebeglcoghehaa.Sigs
set_option linter.unusedVariables false
set_option maxRecDepth 20000
set_option linter.unusedSimpArgs false
open Go.RowKit Go.Maps TidyMath TidyClass

theorem laidOut : laidOutB Try.prog = true := by kernel_rfl
theorem law : Keyed Try.prog 158 := Keyed.of_law (deep_law_gate laidOut (of_decide_eq_true (by kernel_rfl)) (of_decide_eq_true (by kernel_rfl)) (by kernel_rfl) (by kernel_rfl))
theorem zero32 (w : World) : (zeroValue 21).run Try.prog w = .ok (.int .i32 0) w := by kernel_rfl
theorem keyT : Try.prog.keyType 158 = true := by kernel_rfl
theorem cellsT : Try.prog.cellsOf 158 = 27 := by kernel_rfl
theorem cellsE : Try.prog.cellsOf 21 = 1 := by kernel_rfl
theorem underT : Try.prog.underlying 158 = some (.array 27 21) := by kernel_rfl
theorem underE : Try.prog.underlying 21 = some (.int .i32) := by kernel_rfl
theorem typesS : ∃ m, Try.prog.types.size = m + 1 := ⟨Try.prog.types.size - 1, by kernel_rfl⟩

theorem mapM_some {α β : Type} {f : α → Option β} {g : α → β} : ∀ l : List α, (∀ x ∈ l, f x = some (g x)) → l.mapM f = some (l.map g)
  | [], _ => rfl
  | x :: r, h => by
    rw [List.mapM_cons, h x List.mem_cons_self, mapM_some r fun y hy => h y (List.mem_cons_of_mem _ hy)]; rfl

def litL (xs : List Int) : List Lit := xs.map (Lit.int .i32)
def litK (xs : List Int) : Lit := .string (keyBytes (litL xs))
def valK (xs : List Int) : Value := .agg (xs.map (Value.int .i32)).toArray

theorem flat_ones (xs : List Int) (n : Nat) (h : xs.length = n) : ((List.range n).map fun i => [Lit.int .i32 (xs.getD i 0)]).flatten = litL xs := by
  have : ∀ l : List Nat, (l.map fun i => [Lit.int .i32 (xs.getD i 0)]).flatten = l.map fun i => Lit.int .i32 (xs.getD i 0) := by
    intro l; induction l with
    | nil => rfl
    | cons x r ih => rw [List.map_cons, List.flatten_cons, ih]; rfl
  rw [this]
  apply List.ext_getElem
  · simp [litL, h]
  · intro i h1 h2
    have hi : i < xs.length := by simpa [litL] using h2
    simp [litL, List.getD, hi]

/-- What 27 numbers read as, as a key. -/
theorem keyK (xs : List Int) (h : xs.length = 27) (hw : ∀ x ∈ xs, 0 ≤ x ∧ x ≤ 100000000) : keyOf Try.prog 158 (valK xs) = some (litK xs) := by
  obtain ⟨m, hm⟩ := typesS
  unfold keyOf
  simp only [underT]
  rw [if_pos (by simp [keyT, Value.formed, valK, underT, cellsT, h]), hm]
  unfold Program.keyLits
  simp only [underT, valK, Value.cells]
  rw [if_pos (by rw [cellsT]; simp [h])]
  rw [mapM_some (g := fun i => [Lit.int .i32 (xs.getD i 0)]) (List.range 27) ?_]
  · rw [Option.map_some, flat_ones xs 27 h]; rfl
  · intro i hi
    have hi' : i < xs.length := by rw [h]; exact List.mem_range.1 hi
    rw [cellsE, Nat.mul_one]
    have e : ((xs.map (Value.int .i32)).drop i).take 1 = [Value.int .i32 (xs.getD i 0)] := by
      rw [List.drop_eq_getElem_cons (by simpa using hi')]
      simp [List.getD, hi']
    rw [e]
    unfold Program.keyLits
    simp only [underE]
    have hb := hw (xs.getD i 0) (by rw [List.getD, List.getElem?_eq_getElem hi']; exact List.getElem_mem hi')
    have hwf : (Lit.int .i32 (xs.getD i 0)).wf = true := by
      have h1 : IntKind.i32.min = -2147483648 := by decide
      have h2 : IntKind.i32.max = 2147483647 := by decide
      simp only [Lit.wf, h1, h2, Bool.and_eq_true, decide_eq_true_eq]
      omega
    rw [if_pos ⟨trivial, hwf⟩]

theorem map_inj {xs ys : List Int} (h : valK xs = valK ys) : xs = ys := by
  unfold valK at h
  simp only [Value.agg.injEq] at h
  have h := congrArg Array.toList h
  simp only [List.toList_toArray] at h
  have : ∀ a b : List Int, a.map (Value.int .i32) = b.map (Value.int .i32) → a = b := by
    intro a
    induction a with
    | nil => intro b h; cases b with | nil => rfl | cons => cases h
    | cons x r ih =>
      intro b h
      cases b with
      | nil => cases h
      | cons y q =>
        rw [List.map_cons, List.map_cons, List.cons.injEq] at h
        obtain ⟨h1, h2⟩ := h
        simp only [Value.int.injEq, true_and] at h1
        rw [h1, ih q h2]
  exact this _ _ h
theorem litK_inj {xs ys : List Int} (hx : xs.length = 27) (hy : ys.length = 27) (wx : ∀ x ∈ xs, 0 ≤ x ∧ x ≤ 100000000) (wy : ∀ x ∈ ys, 0 ≤ x ∧ x ≤ 100000000) (h : litK xs = litK ys) : xs = ys :=
  map_inj (law.inj (keyK xs hx wx) (h ▸ keyK ys hy wy))

/-- The key of a class and of the classes behind. -/
def sgL (p : Nat × List Nat) : List Int := (p.1 : Int) :: (p.2.map (fun x : Nat => (x : Int)) ++ List.replicate (26 - p.2.length) 0)
theorem sgL_length {p : Nat × List Nat} (h : p.2.length ≤ 26) : (sgL p).length = 27 := by simp [sgL]; omega
theorem sgL_small {p : Nat × List Nat} (h1 : p.1 ≤ 100000000) (h2 : ∀ x ∈ p.2, x ≤ 100000000) : ∀ x ∈ sgL p, 0 ≤ x ∧ x ≤ 100000000 := by
  intro x hx
  rcases List.mem_cons.1 hx with rfl | hx
  · omega
  · rcases List.mem_append.1 hx with hx | hx
    · obtain ⟨y, hy, rfl⟩ := List.mem_map.1 hx
      have := h2 y hy
      omega
    · have := List.eq_of_mem_replicate hx
      omega
theorem sgL_inj {p q : Nat × List Nat} (hl : p.2.length = q.2.length) (h : sgL p = sgL q) : p = q := by
  unfold sgL at h
  rw [List.cons.injEq] at h
  have h2 := (List.append_inj h.2 (by simp [hl])).1
  have : ∀ a b : List Nat, a.map (fun x : Nat => (x : Int)) = b.map (fun x : Nat => (x : Int)) → a = b := by
    intro a
    induction a with
    | nil => intro b h; cases b with | nil => rfl | cons => cases h
    | cons x r ih =>
      intro b h
      cases b with
      | nil => cases h
      | cons y q =>
        rw [List.map_cons, List.map_cons, List.cons.injEq] at h
        rw [ih q h.2, show x = y by omega]
  exact Prod.ext (by omega) (this _ _ h2)

/-- What the map holds behind so many states. -/
def MD (sg : Nat → Nat × List Nat) : Nat → DataW Unit
  | 0 => .map []
  | s + 1 => if idx sg (reps sg s) s < (reps sg s).length then MD sg s else (MD sg s).put (litK (sgL (sg s))) (.lit (.int .i32 ((reps sg s).length : Nat)))

structure SgOk (sg : Nat → Nat × List Nat) (n wd : Nat) : Prop where
  len : ∀ s, s < n → (sg s).2.length = wd
  fst : ∀ s, s < n → (sg s).1 ≤ 100000000
  snd : ∀ s, s < n → ∀ x ∈ (sg s).2, x ≤ 100000000
  wd : wd ≤ 26

theorem SgOk.key {sg : Nat → Nat × List Nat} {n wd : Nat} (h : SgOk sg n wd) {s : Nat} (hs : s < n) : keyOf Try.prog 158 (valK (sgL (sg s))) = some (litK (sgL (sg s))) :=
  keyK _ (sgL_length (by rw [h.len s hs]; exact h.wd)) (sgL_small (h.fst s hs) (h.snd s hs))
theorem SgOk.inj {sg : Nat → Nat × List Nat} {n wd : Nat} (h : SgOk sg n wd) {s t : Nat} (hs : s < n) (ht : t < n) (e : litK (sgL (sg s)) = litK (sgL (sg t))) : sg s = sg t :=
  sgL_inj (by rw [h.len s hs, h.len t ht]) (litK_inj (sgL_length (by rw [h.len s hs]; exact h.wd)) (sgL_length (by rw [h.len t ht]; exact h.wd)) (sgL_small (h.fst s hs) (h.snd s hs)) (sgL_small (h.fst t ht) (h.snd t ht)) e)

structure MDOk (sg : Nat → Nat × List Nat) (n s : Nat) : Prop where
  tidy : Tidy (MD sg s)
  size : Maps.size (MD sg s) = (reps sg s).length
  has : ∀ t, t < n → Maps.has (MD sg s) (litK (sgL (sg t))) = decide (idx sg (reps sg s) t < (reps sg s).length)
  at_ : ∀ t, t < n → idx sg (reps sg s) t < (reps sg s).length → ∀ z, (MD sg s).atKey (litK (sgL (sg t))) z = .lit (.int .i32 ((idx sg (reps sg s) t : Nat) : Int))

theorem md_ok {sg : Nat → Nat × List Nat} {n wd : Nat} (h : SgOk sg n wd) : ∀ s, s ≤ n → MDOk sg n s
  | 0, _ => ⟨⟨[], rfl, List.Pairwise.nil⟩, rfl, fun t _ => by simp [MD, Maps.has, reps, idx], fun t _ hi => by simp [reps] at hi⟩
  | s + 1, hs => by
    have ih := md_ok h s (by omega)
    have hkey : WideAt.IsKeyLit (litK (sgL (sg s))) := law.key (h.key (s := s) (by omega))
    by_cases hlt : idx sg (reps sg s) s < (reps sg s).length
    · have e1 : MD sg (s + 1) = MD sg s := by show (if _ then _ else _) = _; rw [if_pos hlt]
      have e2 : reps sg (s + 1) = reps sg s := by rw [reps_succ]; unfold meet; rw [if_pos hlt]
      refine ⟨by rw [e1]; exact ih.tidy, by rw [e1, e2]; exact ih.size, fun t ht => by rw [e1, e2]; exact ih.has t ht, fun t ht => by rw [e1, e2]; exact ih.at_ t ht⟩
    · have e1 : MD sg (s + 1) = (MD sg s).put (litK (sgL (sg s))) (.lit (.int .i32 ((reps sg s).length : Nat))) := by show (if _ then _ else _) = _; rw [if_neg hlt]
      have e2 : reps sg (s + 1) = reps sg s ++ [s] := by rw [reps_succ]; unfold meet; rw [if_neg hlt]
      have hns : idx sg (reps sg s) s = (reps sg s).length := by have := idx_le sg (reps sg s) s; omega
      have hno : Maps.has (MD sg s) (litK (sgL (sg s))) = false := by rw [ih.has s (by omega)]; simpa using hlt
      have hother : ∀ t, sg t ≠ sg s → ¬ idx sg (reps sg s) t < (reps sg s).length → ¬ idx sg (reps sg s ++ [s]) t < (reps sg s ++ [s]).length := fun t hne hn hc => by
        have hk := idx_key sg hc
        have hm : (reps sg s ++ [s])[idx sg (reps sg s ++ [s]) t] ∈ reps sg s ++ [s] := List.getElem_mem hc
        rcases List.mem_append.1 hm with hm | hm
        · exact hn (idx_lt_of_mem sg hm hk)
        · rw [List.mem_singleton.1 hm] at hk; exact hne hk.symm
      refine ⟨?_, ?_, ?_, ?_⟩
      · rw [e1]; exact ih.tidy.put hkey _
      · rw [e1, size_put ih.tidy, hno, e2, ih.size]; simp
      · intro t ht
        rw [e1, e2]
        by_cases he : sg t = sg s
        · rw [he, has_put_same ih.tidy.isMap hkey]
          rw [idx_congr sg he, idx_snoc, hns]; simp
        · rw [has_put_other (fun e => he (h.inj ht (by omega) e)), ih.has t ht]
          by_cases hi : idx sg (reps sg s) t < (reps sg s).length
          · rw [idx_append sg hi, decide_eq_true hi, decide_eq_true (by rw [List.length_append]; omega)]
          · rw [decide_eq_false hi, decide_eq_false (hother t he hi)]
      · intro t ht hi z
        rw [e1]
        rw [e2] at hi ⊢
        by_cases he : sg t = sg s
        · rw [he, atKey_put_same ih.tidy.isMap hkey, idx_congr sg he, idx_snoc, hns]
        · rw [atKey_put_other (fun e => he (h.inj ht (by omega) e))]
          have hi' : idx sg (reps sg s) t < (reps sg s).length := Classical.byContradiction fun hn => hother t he hn hi
          rw [idx_append sg hi']
          exact ih.at_ t ht hi' z

/-- clear(m), for a map of the call's own. -/
theorem run_clear {P : Program} {w : World} {t k e : TypeId} (ht : P.underlying t = some (.map k e)) {R : Value → Option (DataW Unit × List MemPlace)} {b n : Nat} {D : DataW Unit} (hown : w.ownsMap P k R b n D) :
    ∃ w', (∀ ty, (Builtin.clear_ #[t] ty #[.map (some b)]).run P w = .ok (.tuple #[]) w') ∧ w'.ownsMap P k R b 0 (.map []) ∧ w.grownBy w' (some b) := by
  obtain ⟨es, clock, hb, F, hs, rfl⟩ := hown
  refine ⟨ChangeMaps.setBlock w b (.map #[] clock), fun ty => ?_, ⟨#[], clock, ChangeMaps.heap_setBlock_same hb _, ⟨by simp, MapKept.stamped_empty _, by simp⟩, Nat.le_refl _, rfl⟩,
    ⟨rfl, rfl, rfl, by simp [ChangeMaps.setBlock], fun i _ hi => ChangeMaps.heap_setBlock_other hb _ (fun e => hi (by rw [e]))⟩⟩
  unfold Builtin.clear_
  simp [run_underlying ht, MapKept.run_getObj_map hb, MapKept.run_setObj_map _ hb, Result.andThen, ChangeMaps.setBlock]
end Go.Proofs.Ytaebeglcoghehaa.Sigs
/- Rows that a law marks: their content by the index, and what stays of the rest of the memory.
   Conditions: stated at each theorem. -/
namespace Go.Proofs.Ytaebeglcoghehaa.MarkRow
set_option linter.unusedVariables false
set_option linter.unusedSimpArgs false
open Go.RowKit Mem Copy Rel

/-- The slice value v is a row of its own of elements of type t, at block lo or behind it; element i holds f i. -/
def Row (w : World) (lo : Nat) (t : TypeId) (v : Value) (n : Nat) (f : Nat → Value) : Prop :=
  ∃ a cap, v = .slice a n cap ∧ (0 < n → ∃ g m F, a = some ⟨g, 0, none⟩ ∧ lo ≤ g ∧ n ≤ m ∧ w.rowIs g t m F ∧ ∀ i, i < n → F i = f i)

theorem Row.of_row {w : World} {M n : Nat} {t : TypeId} {f : Nat → Value} (h : w.rowIs M t n f) : Row w M t (.slice (some ⟨M, 0, none⟩) n n) n f :=
  ⟨_, _, rfl, fun _ => ⟨M, n, f, rfl, Nat.le_refl _, Nat.le_refl _, h, fun _ _ => rfl⟩⟩

theorem Row.of_owns {w : World} {base : Nat} {t : TypeId} {v : Value} {xs : List Value} (h : w.ownsRow base t 1 v xs.length xs) (f : Nat → Value) (hf : ∀ i (hi : i < xs.length), f i = xs[i]) : Row w base t v xs.length f := by
  rcases h.2 with ⟨rfl, h0⟩ | ⟨g, cap, cur, rfl, hbg, hh, hn, hc, hs, ht⟩
  · rw [h0]; exact ⟨_, _, rfl, fun h => absurd h (Nat.lt_irrefl 0)⟩
  · refine ⟨_, _, rfl, fun _ => ⟨g, cap, fun i => cur.getD i default, rfl, hbg, hn, ⟨cur, hh, by omega, fun i hi => ?_⟩, fun i hi => ?_⟩⟩
    · have : i < cur.size := by omega
      simp [this]
    · rw [hf i hi]
      have h1 : i < cur.size := by omega
      have h2 : xs[i] = cur.toList[i]'(by simpa using h1) := by
        have : xs = cur.toList.take (xs.length * 1) := ht.symm
        rw [List.getElem_of_eq this hi, List.getElem_take]
      rw [h2]; simp [h1]

theorem Row.mono {w : World} {lo lo' : Nat} {t : TypeId} {v : Value} {n : Nat} {f : Nat → Value} (h : Row w lo t v n f) (hl : lo' ≤ lo) : Row w lo' t v n f := by
  obtain ⟨a, cap, rfl, h⟩ := h
  exact ⟨a, cap, rfl, fun hn => by obtain ⟨g, m, F, h1, h2, h3⟩ := h hn; exact ⟨g, m, F, h1, by omega, h3⟩⟩

theorem Row.below {w w' : World} {lo : Nat} {t : TypeId} {v : Value} {n : Nat} {f : Nat → Value} (h : Row w lo t v n f) (hb : Below w.heap.size w w') : Row w' lo t v n f := by
  obtain ⟨a, cap, rfl, h⟩ := h
  exact ⟨a, cap, rfl, fun hn => by obtain ⟨g, m, F, h1, h2, h3, h4, h5⟩ := h hn; exact ⟨g, m, F, h1, h2, h3, rowIs_below h4 hb h4.lt, h5⟩⟩

theorem Row.drewN {w : World} {lo : Nat} {t : TypeId} {v : Value} {n : Nat} {f : Nat → Value} (h : Row w lo t v n f) (m : Nat) : Row (w.drewN m) lo t v n f := h

theorem Row.grown {w w' : World} {lo : Nat} {t : TypeId} {v : Value} {n : Nat} {f : Nat → Value} {row : Option Nat} (h : Row w lo t v n f) (hg : w.grownBy w' row) (hr : ∀ k, row = some k → k < lo) : Row w' lo t v n f := by
  obtain ⟨a, cap, rfl, h⟩ := h
  exact ⟨a, cap, rfl, fun hn => by
    obtain ⟨g, m, F, h1, h2, h3, h4, h5⟩ := h hn
    exact ⟨g, m, F, h1, h2, h3, h4.of_block (hg.block g h4.lt (fun e => by have := hr g e.symm; omega)), h5⟩⟩

theorem Row.reads {w : World} {lo : Nat} {t : TypeId} {v : Value} {n : Nat} {f : Nat → Value} (h : Row w lo t v n f) (hm : n ≤ maxLen) : Sl w w.heap.size v n f := by
  obtain ⟨a, cap, rfl, h⟩ := h
  by_cases hn : 0 < n
  · obtain ⟨g, m, F, h1, h2, h3, h4, h5⟩ := h hn
    exact ⟨a, g, 0, cap, rfl, hm, fun _ => ⟨h1, h4.lt⟩, fun i hi => by rw [Nat.zero_add, h4.cell (by omega), h5 i hi]⟩
  · exact ⟨a, 0, 0, cap, rfl, hm, fun h => absurd h hn, fun i hi => by omega⟩

theorem sl_grown {w w' : World} {B : Nat} {v : Value} {n : Nat} {f : Nat → Value} {row : Option Nat} (h : Sl w B v n f) (hg : w.grownBy w' row) (hr : ∀ k, row = some k → B ≤ k) : Sl w' B v n f := by
  obtain ⟨a, b, off, cap, hv, hm, ha, hc⟩ := h
  refine ⟨a, b, off, cap, hv, hm, ha, fun i hi => ?_⟩
  exact hg.cell (hc i hi) (fun e => by have := hr b e.symm; have := (ha (by omega)).2; omega)

theorem below_grown {B : Nat} {w w1 w' : World} {row : Option Nat} (h : Below B w w1) (hg : w1.grownBy w' row) (hB : B ≤ w1.heap.size) (hr : ∀ k, row = some k → B ≤ k) : Below B w w' :=
  ⟨hg.os.trans h.os, hg.tape.trans h.tape, hg.output.trans h.output, Nat.le_trans h.size hg.size, fun k hk => (hg.block k (by omega) (fun e => by have := hr k e.symm; omega)).trans (h.block k hk)⟩

/-- Only block b has been written, and memory made. -/
theorem grown_set {w W : World} {b : Nat} (h : w.grownBy W (some b)) (x : Nat) (v : Value) : w.grownBy (W.setCell ⟨b, x, none⟩ v) (some b) :=
  ⟨h.os, h.tape, h.output, by simpa [World.setCell] using h.size, fun k hk hne => (Go.Deep.blk_setCell_other _ _ _ _ (fun e => hne (by rw [e]))).trans (h.block k hk hne)⟩
theorem grown_below {w W W' : World} {row : Option Nat} (h : w.grownBy W row) (hb : Below W.heap.size W W') : w.grownBy W' row :=
  ⟨hb.os.trans h.os, hb.tape.trans h.tape, hb.output.trans h.output, Nat.le_trans h.size hb.size, fun k hk hne => (hb.block k (by have := h.size; omega)).trans (h.block k hk hne)⟩
theorem grown_refl (w : World) (row : Option Nat) : w.grownBy w row := ⟨rfl, rfl, rfl, Nat.le_refl _, fun _ _ _ => rfl⟩

set_option maxHeartbeats 1000000 in
theorem markInts (v : Value) (n : Nat) (f : Nat → Value) (k : Nat) (lo : Nat) (w : World) (hr : Row w lo 2 v n f) (hn : n ≤ 1048576) (hk : k ≤ 1048576) :
    Calls Try.prog 30 #[v, .int .i64 k] w fun e w' => e = .returned (.int .i64 ((k + n : Nat) : Int)) ∧ Row w' lo 2 v n (fun i => .int .i64 ((k + i : Nat) : Int)) ∧ w.grownBy w' v.ownBlock := by
  obtain ⟨a, cap, rfl, hr⟩ := hr
  by_cases h0 : n = 0
  · subst h0
    clear hr
    go_enter Try.func30, Try.ntmps30
    go_wp2
    refine wp_loop_rounds 1 ?_
    rw [rounds_succ]
    go_wp2
    go_ret
    exact ⟨rfl, ⟨_, _, rfl, fun h => absurd h (Nat.lt_irrefl 0)⟩, grown_refl _ _⟩
  · obtain ⟨g, m, F, rfl, hlo, hnm, hrow, -⟩ := hr (by omega)
    have hg0 : g < w.heap.size := hrow.lt
    go_enter Try.func30, Try.ntmps30
    go_wp2
    go_loopw [1, 5] (fun kk i wr => ∃ j : Nat, j ≤ n ∧ i = .int .i64 j ∧ kk = .int .i64 ((k + j : Nat) : Int) ∧ wr.rowIs g 2 m (fun i => if i < j then .int .i64 ((k + i : Nat) : Int) else F i) ∧ w.grownBy wr (some g)) (fun _ i _ => n - (intOf i).toNat)
    case atStart => exact ⟨0, Nat.zero_le _, rfl, rfl, hrow.congr fun i hi => by rw [if_neg (Nat.not_lt_zero i)], grown_refl _ _⟩
    case round =>
      obtain ⟨j, hj, rfl, rfl, hrw, hgr⟩ := hrel
      have HR := Lib.hid hrw
      have HG := Lib.hid hgr
      by_cases hlt : j < n
      · have cN := hrw.cell (show j < m by omega)
        have fN := hrw.frozen j
        rw [if_neg (Nat.lt_irrefl j)] at cN
        obtain ⟨x, hx⟩ : ∃ x, x = F j := ⟨_, rfl⟩
        rw [← hx] at cN
        clear hrw hgr hr hrow hx
        go_wp2
        go_roundw
        case rel =>
          refine ⟨j + 1, hlt, by go_num, by go_num, (HR.out.set j _).congr fun i hi => ?_, grown_set HG.out _ _⟩
          by_cases e : i = j
          · subst e; simp
          · have h1 : (i < j + 1) = (i < j) := by apply propext; constructor <;> intro h <;> omega
            simp only [if_neg e, h1]
        case measure => simp [intOf]; omega
      · obtain rfl : j = n := by omega
        clear hrw hgr hr hrow
        go_wp2
        go_ret
        exact ⟨rfl, ⟨_, _, rfl, fun _ => ⟨g, m, _, rfl, hlo, hnm, HR.out, fun i hi => if_pos hi⟩⟩, HG.out⟩

set_option maxHeartbeats 1000000 in
theorem heldInts (v : Value) (n : Nat) (k : Nat) (B : Nat) (w : World) (hr : Sl w B v n (fun i => .int .i64 ((k + i : Nat) : Int))) (hn : n ≤ 1048576) (hk : k ≤ 1048576) :
    Calls Try.prog 109 #[v, .int .i64 k] w fun e w' => e = .returned (.int .i64 ((k + n : Nat) : Int)) ∧ w = w' := by
  obtain ⟨a, b, off, cap, rfl, -, ha, hc⟩ := hr
  go_enter Try.func109, Try.ntmps109
  go_wp2
  go_loop [1, 5] (fun kk i => ∃ j : Nat, j ≤ n ∧ i = .int .i64 j ∧ kk = .int .i64 ((k + j : Nat) : Int)) (fun _ i => n - (intOf i).toNat)
  case atStart => exact ⟨0, Nat.zero_le _, rfl, rfl⟩
  case round =>
    obtain ⟨j, hj, rfl, rfl⟩ := hrel
    by_cases hlt : j < n
    · obtain rfl := (ha (by omega)).1
      have cA := hc j hlt
      have hne : (((k + j : Nat) : Int) != ((k + j : Nat) : Int)) = false := by simp
      clear hc ha
      go_wp2
      go_round
      case rel => exact ⟨j + 1, hlt, by go_num, by go_num⟩
      case measure => simp [intOf]; omega
    · obtain rfl : j = n := by omega
      clear hc ha
      go_wp2
      go_ret
      exact ⟨rfl, rfl⟩
end Go.Proofs.Ytaebeglcoghehaa.MarkRow
