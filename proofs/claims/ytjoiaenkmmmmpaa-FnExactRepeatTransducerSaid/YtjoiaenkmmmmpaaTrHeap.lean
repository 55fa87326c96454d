
/- Lists of edges that a function makes and appends to, and rows of edges in memory of their own.
   Conditions: stated at each theorem. -/
import Derived.Test.YtjoiaenkmmmmpaaEdgCopy
import Derived.Test.YtjoiaenkmmmmpaaHeap
import Derived.Test.YtjoiaenkmmmmpaaMarkRow
namespace Go.Proofs.Ytjoiaenkmmmmpaa.TrHeap
set_option linter.unusedVariables false
set_option linter.unusedSimpArgs false
open Go.RowKit Mem Copy Rel Heap MarkRow Edg EdgCopy

def cells4 (e : E) : List Value := [.int .i64 e.src, .int .i64 e.dst, .string e.inn, .string e.out]
def eCells (es : List E) : List Value := es.flatMap cells4
theorem eCells_length (es : List E) : (eCells es).length = es.length * 4 := by
  induction es with
  | nil => rfl
  | cons e r ih => unfold eCells at ih ⊢; rw [List.flatMap_cons, List.length_append, ih, List.length_cons]; show 4 + _ = _; omega
theorem eCells_append (xs ys : List E) : eCells (xs ++ ys) = eCells xs ++ eCells ys := by unfold eCells; rw [List.flatMap_append]
theorem eCells_one (e : E) : eCells [e] = cells4 e := by simp [eCells]
theorem cells4_get (e : E) (j : Nat) (hj : j < 4) : (cells4 e)[j]? = some (cellOf e j) := by
  match j, hj with
  | 0, _ => rfl
  | 1, _ => rfl
  | 2, _ => rfl
  | 3, _ => rfl
theorem eCells_get (es : List E) : ∀ i, i < es.length * 4 → (eCells es)[i]? = some (edgeF es i) := by
  induction es with
  | nil => intro i hi; simp at hi
  | cons e r ih =>
    intro i hi
    unfold eCells
    rw [List.flatMap_cons]
    by_cases h : i < 4
    · rw [List.getElem?_append_left (by show i < 4; exact h), cells4_get e i h]
      unfold edgeF
      rw [show i / 4 = 0 by omega, show i % 4 = i by omega]; rfl
    · rw [List.getElem?_append_right (by show 4 ≤ i; omega)]
      have := ih (i - 4) (by rw [List.length_cons] at hi; omega)
      unfold eCells at this
      show (r.flatMap cells4)[i - 4]? = _
      rw [this]
      unfold edgeF
      rw [show i / 4 = (i - 4) / 4 + 1 by omega, show i % 4 = (i - 4) % 4 by omega]; rfl
theorem eCells_cell (es : List E) : ∀ u ∈ eCells es, u.oneCell' = true := by
  intro u hu
  obtain ⟨e, -, he⟩ := List.mem_flatMap.1 hu
  unfold cells4 at he
  simp at he
  rcases he with rfl | rfl | rfl | rfl <;> rfl

/-- The slice value v is a list of the function's own with the edges es. -/
def LstE (w : World) (B : Nat) (v : Value) (es : List E) : Prop := w.ownsRow B 50 4 v es.length (eCells es)

section
variable {w w' : World} {B C : Nat} {v : Value} {es : List E}
theorem LstE.nil (w : World) (B : Nat) : LstE w B (.slice none 0 0) [] := ⟨rfl, .inl ⟨rfl, rfl⟩⟩
theorem LstE.lt (h : LstE w B v es) {k : Nat} (hk : v.ownBlock = some k) : k < w.heap.size := (World.ownsRow.lt h k hk).2
theorem LstE.ge (h : LstE w B v es) {k : Nat} (hk : v.ownBlock = some k) : B ≤ k := (World.ownsRow.lt h k hk).1
theorem LstE.mono (h : LstE w B v es) (hC : C ≤ B) : LstE w C v es := by
  refine ⟨h.1, ?_⟩
  rcases h.2 with h' | ⟨g, cap, cur, hv, hbg, r⟩
  · exact .inl h'
  · exact .inr ⟨g, cap, cur, hv, Nat.le_trans hC hbg, r⟩
theorem LstE.of_block (h : LstE w B v es) (hb : ∀ k, v.ownBlock = some k → w'.heap[k]? = w.heap[k]?) : LstE w' B v es := by
  refine ⟨h.1, ?_⟩
  rcases h.2 with h' | ⟨g, cap, cur, hv, hbg, hh, r⟩
  · exact .inl h'
  · refine .inr ⟨g, cap, cur, hv, hbg, ?_, r⟩
    rw [hb g (by rw [hv]; rfl)]; exact hh
theorem LstE.grown {row : Option Nat} (h : LstE w B v es) (hg : w.grownBy w' row) (hr : ∀ k, row = some k → v.ownBlock ≠ some k) : LstE w' B v es :=
  h.of_block fun k hk => hg.block k (h.lt hk) (fun e => hr k e.symm hk)
theorem LstE.below (h : LstE w B v es) (hb : Below w.heap.size w w') : LstE w' B v es :=
  h.of_block fun k hk => hb.block k (h.lt hk)
theorem LstE.alloc (h : LstE w B v es) (o : Obj) : LstE (w.alloc o) B v es := h.below ((Below.refl _ _).alloc (Nat.le_refl _) _)
theorem LstE.drewN (h : LstE w B v es) (m : Nat) : LstE (w.drewN m) B v es := h
theorem LstE.setOther (h : LstE w B v es) {a : Addr} (ha : v.ownBlock ≠ some a.block) (u : Value) : LstE (w.setCell a u) B v es :=
  h.of_block fun k hk => Below.heap_setCell _ _ _ _ (fun e => ha (by rw [← e]; exact hk))
theorem LstE.shape' (h : LstE w B v es) : ∃ a n cap, v = .slice a n cap ∧ Hid (n = es.length) := by
  rcases h.2 with ⟨rfl, h0⟩ | ⟨g, cap, cur, rfl, -⟩
  · exact ⟨none, 0, 0, rfl, h0.symm⟩
  · exact ⟨_, _, cap, rfl, rfl⟩
/-- A row of edges that lies in a block of its own. -/
theorem LstE.row (h : LstE w B v es) : ∃ a cap, v = .slice a es.length cap ∧ Row w B 50 (.slice a (es.length * 4) cap) (es.length * 4) (edgeF es) := by
  rcases h.2 with ⟨rfl, h0⟩ | ⟨g, cap, cur, rfl, hbg, hh, hn, hc, hs, ht⟩
  · exact ⟨none, 0, by rw [h0], none, 0, by rw [h0], fun h => by omega⟩
  · refine ⟨_, cap, rfl, _, cap, rfl, fun _ => ⟨g, cap * 4, fun i => cur.getD i default, rfl, hbg, by omega, ⟨cur, hh, hs, fun i hi => ?_⟩, fun i hi => ?_⟩⟩
    · have : i < cur.size := by omega
      simp [this]
    · have h1 : i < cur.size := by omega
      have h2 := eCells_get es i hi
      rw [← ht, List.getElem?_take_of_lt hi, Array.getElem?_toList, Array.getElem?_eq_getElem h1] at h2
      simp only [Option.some.injEq] at h2
      simp only [Array.getD_eq_getD_getElem?, Array.getElem?_eq_getElem h1, Option.getD_some]
      exact h2
end

/-- A row of edges, in a block of its own from lo on, whose cells hold f. -/
def RowE (w : World) (lo : Nat) (v : Value) (n : Nat) (f : Nat → Value) : Prop :=
  ∃ a cap, v = .slice a n cap ∧ Row w lo 50 (.slice a (n * 4) cap) (n * 4) f
theorem LstE.rowE {w : World} {B : Nat} {v : Value} {es : List E} (h : LstE w B v es) : RowE w B v es.length (edgeF es) := h.row
theorem RowE.below {w w' : World} {lo n : Nat} {v : Value} {f : Nat → Value} (h : RowE w lo v n f) (hb : Below w.heap.size w w') : RowE w' lo v n f := by
  obtain ⟨a, cap, rfl, hr⟩ := h
  exact ⟨a, cap, rfl, hr.below hb⟩
theorem RowE.mono {w : World} {lo lo' n : Nat} {v : Value} {f : Nat → Value} (h : RowE w lo v n f) (hl : lo' ≤ lo) : RowE w lo' v n f := by
  obtain ⟨a, cap, rfl, hr⟩ := h
  exact ⟨a, cap, rfl, hr.mono hl⟩
theorem RowE.of_row {w : World} {M n : Nat} {f : Nat → Value} (h : w.rowIs M 50 (n * 4) f) : RowE w M (.slice (some ⟨M, 0, none⟩) n n) n f :=
  ⟨_, _, rfl, ⟨_, _, rfl, fun _ => ⟨M, n * 4, f, rfl, Nat.le_refl _, Nat.le_refl _, h, fun _ _ => rfl⟩⟩⟩
theorem RowE.owned {w : World} {lo n : Nat} {v : Value} {f : Nat → Value} (h : RowE w lo v n f) (hn : 0 < n) : ∃ g m F, v.ownBlock = some g ∧ lo ≤ g ∧ w.rowIs g 50 m F := by
  obtain ⟨a, cap, rfl, b, c, hv, hr⟩ := h
  obtain ⟨g, m, F, rfl, h2, h3, h4, h5⟩ := hr (by omega)
  cases hv
  exact ⟨g, m, F, rfl, h2, h4⟩
theorem RowE.edges {w : World} {lo : Nat} {v : Value} {es : List E} (h : RowE w lo v es.length (edgeF es)) (hm : es.length ≤ maxLen) (hf : ∀ i, i < es.length → (es.getD i noE).Fits) (C : Nat) (hC : w.heap.size ≤ C) : Edges w C v es := by
  obtain ⟨a, cap, rfl, b, c, hv, hr⟩ := h
  cases hv
  by_cases h0 : 0 < es.length
  · obtain ⟨g, m, F, rfl, h2, h3, h4, h5⟩ := hr (by omega)
    have hl := h4.lt
    refine ⟨_, g, 0, cap, rfl, hm, fun _ => ⟨rfl, by omega⟩, fun i hi => ⟨⟨?_, ?_, ?_, ?_⟩, hf i hi⟩⟩
    · have := edgeF_at es i 0 (by omega); rw [Nat.add_zero] at this; rw [Nat.zero_add, h4.cell (by omega), h5 _ (by omega), this]; rfl
    · rw [Nat.zero_add, h4.cell (by omega), h5 _ (by omega), edgeF_at es i 1 (by omega)]; rfl
    · rw [Nat.zero_add, h4.cell (by omega), h5 _ (by omega), edgeF_at es i 2 (by omega)]; rfl
    · rw [Nat.zero_add, h4.cell (by omega), h5 _ (by omega), edgeF_at es i 3 (by omega)]; rfl
  · exact ⟨a, 0, 0, cap, rfl, hm, fun h => absurd h h0, fun i hi => by omega⟩

/-- One edge more. -/
structure PushedE (w w' : World) (B : Nat) (v v' : Value) (es : List E) (x : E) : Prop where
  lst : LstE w' B v' (es ++ [x])
  grow : w.grownBy w' v.ownBlock
  at_ : v'.ownBlock = v.ownBlock ∨ ∃ g, v'.ownBlock = some g ∧ w.heap.size ≤ g

abbrev boxE (x : E) : Obj := .cells #[.int .i64 x.src, .int .i64 x.dst, .string x.inn, .string x.out] 50

/-- The law for appending one edge, which has just been laid in a block of its own. -/
theorem wpList_pushE {w : World} {ops : Array Oper} {rest : List Oper} {o : Oper} {a : Act} {Q : Exit → Act → World → Prop} (hgd : o.guard = none) (s x : Operand)
    (ho : o.op = .call { callee := .builtin .append, args := #[s, x], argTypes := #[28, 28] })
    (B : Nat) (v : Value) (es : List E) (u : E) (hown : LstE w B v es) (hB : B ≤ w.heap.size) (hlen : es.length ≤ 100000000) (hs : a.eval s = v) (N : Nat) (hx : a.eval x = .slice (some ⟨N, 0, none⟩) 1 1) (hN : w.heap.size = N)
    (h : ∀ v' w', PushedE w w' B v v' es u → wpList Try.prog ops Q rest (a.put o.dst v') w') : wpList Try.prog ops Q (o :: rest) a (w.alloc (boxE u)) := by
  obtain ⟨i, hi, hz, hsize, hbytes⟩ := info_parts infoE
  subst hN
  refine wpList_append_own_at (P := Try.prog) _ hgd s x _ ho B 50 i (edgeV noE) 4 48 Try.underlying28 hi hz hsize hbytes rfl (by decide) v es.length (eCells es) hs (LstE.alloc hown _) ⟨w.heap.size, 0, none⟩ 1 1 (eCells [u]) hx (by rw [eCells_length]; rfl) ?_ (eCells_cell _) (by unfold maxLen; omega) (by omega) (by simp; omega) ?_
  · intro j u' hj
    rw [eCells_one] at hj
    have hadd : (⟨w.heap.size, 0, none⟩ : Addr).add j = ⟨w.heap.size, j, none⟩ := by unfold Addr.add; split <;> simp_all
    have hjl : j < 4 := by
      obtain ⟨h1, -⟩ := List.getElem?_eq_some_iff.1 hj
      exact h1
    rw [hadd, ← hj]
    unfold World.cell?
    rw [heap_alloc_new]
    unfold cells4
    match j, hjl with
    | 0, _ => rfl
    | 1, _ => rfl
    | 2, _ => rfl
    | 3, _ => rfl
  · intro v' w' hown' hg _ hat
    refine h v' w' ⟨?_, grown_trans_alloc hg, ?_⟩
    · unfold LstE
      rw [List.length_append, eCells_append]
      exact hown'
    · rcases hat with e | e
      · exact .inl e
      · exact .inr ⟨_, e, by simp⟩
end Go.Proofs.Ytjoiaenkmmmmpaa.TrHeap
